/- What a table of bytes that the program lays holds, for the symbolic machine; a call that is told of no block. No condition. -/
import Derived.Test.YtldoopjnjlpbpaaGreatDoorRows
import Derived.Test.YtldoopjnjlpbpaaGreatDoorE1
import Derived.ProofKit
import Derived.LaidMore
import Derived.OpenShut
import Derived.ChangeSame
import Derived.Deep.Slices
import Derived.Deep.Fields
import Derived.Stop.Joined
import Derived.Test.YtldoopjnjlpbpaaGreatDoorK15
import Derived.Test.YtldoopjnjlpbpaaGreatDoorK24
import Derived.IntWalk
import Derived.Test.YtldoopjnjlpbpaaGreatDoorK23
import Derived.Test.YtldoopjnjlpbpaaGreatDoorK14b
import Derived.Test.YtldoopjnjlpbpaaGreatDoorK27
import Derived.Test.YtldoopjnjlpbpaaGreatDoorK29
set_option linter.unusedVariables false
set_option linter.unusedSimpArgs false
namespace Go.Proofs.YtldoopjnjlpbpaaGreatDoor
open Go.ChangeShapes Go.WideShapes Go.ChangeAt Go.WideMaps Go.WideElems Go.RowKit
theorem own:ownKnob Tryz.prog.godebug=none:=by kernel_rfl
theorem laidOut:laidOutB Tryz.prog=true:=by kernel_rfl
theorem Uf:Tryz.prog.globalNamed "math/bits.deBruijn64tab"=some 0:=by kernel_rfl
theorem aeu:(Tryz.prog.globals[0]?).map (·.type)=some 184:=by kernel_rfl
def qW:List Value:=(Eb.headD (0,[])).2
def MK {H:Type}:List (DataW H):=qW.map fun | .int k n=>.lit (.int k n) | _=>.nil
theorem Z9 {H:Type}:(Rows.laid_math_bits_deBruijn64tab:DataW H)=.agg MK:=rfl
theorem YZ:∀ i:Nat,i<64→∃ n,qW[i]?=some (.int .u8 n):=by
 intro i hi
 have:∀ i:Fin 64,(match qW[i.val]? with | some (.int .u8 _)=>true | _=>false)=true:=by decide +kernel
 have:=this ⟨i,hi⟩
 revert this
 generalize qW[i]?=v
 intro h
 split at h
 ·rename_i n;exact ⟨n,rfl⟩
 ·cases h
def sG:List (String × DataW Unit):=[("math/bits.deBruijn64tab",Rows.laid_math_bits_deBruijn64tab)]
theorem Qn {W:World} (h:laidMetH Tryz.prog sG W):∃ cs ty fz,W.heap[0]?=some (.cells cs ty fz)∧cs.size=qW.length∧∀ i:Nat,i<qW.length→cs[i]?=qW[i]?:=by
 rw [MakeChecks.laidMetH_plain _ _ _ (by kernel_rfl)] at h
 obtain ⟨ps,⟨g0,t0,cs0,f0,p0,q0,He,ht0,wg,yY,_,_⟩,_,_⟩:=h
 obtain rfl:=Option.some.inj (Uf.symm.trans He)
 obtain rfl:=Option.some.inj (aeu.symm.trans ht0)
 have afy:=wg
 unfold World.var? at wg
 rw [Uf] at wg
 simp only [Option.bind_some] at wg
 split at wg
 ·rename_i cs ty fz hb
  cases wg
  obtain ⟨xs,m1,rfl,jC,hlen,hn3,wh⟩:=DataW.trod_array Tryz.underlying184 yY
  have c5:Tryz.prog.cellsOf 5=1:=by kernel_rfl
  have cT:Tryz.prog.cellsOf 184=64:=by kernel_rfl
  rw [cT] at hlen
  have hlen:cs0.size=64:=by simpa using hlen
  simp only [Prod.mk.injEq,Z9,DataW.agg.injEq] at jC
  refine ⟨cs0,ty,fz,hb,hlen,?_⟩
  intro i hi
  have hi:i<64:=hi
  obtain ⟨n,hn⟩:=YZ i hi
  have h0:=wh i hi
  have tw:xs[i]?=some (xs[i]'(by omega)):=List.getElem?_eq_getElem (by omega)
  rw [c5,Nat.mul_one,tw] at h0
  have NB:cs0.toList[i]?=some (cs0[i]'(by omega)):=by rw [Array.getElem?_toList,Array.getElem?_eq_getElem (by omega)]
  have pF:(cs0.toList.drop i).take 1=[cs0[i]'(by omega)]:=by
   rw [List.drop_eq_getElem_cons (by rw [Array.length_toList];omega)]
   simp
  rw [pF] at h0
  obtain ⟨k,e1,e2,_⟩:=DataW.trod_int Tryz.underlying5 h0
  have e3:(xs.map (·.1))[i]?=(MK:List (DataW Unit))[i]?:=by rw [jC.1]
  rw [List.getElem?_map,tw] at e3
  unfold MK at e3
  rw [List.getElem?_map,hn] at e3
  rw [e2] at e3
  simp only [Option.map_some,Option.some.injEq,DataW.lit.injEq,Lit.int.injEq] at e3
  simp only [List.cons.injEq,and_true] at e1
  rw [← Array.getElem?_toList,NB,e1,hn,e3.2]
 ·cases wg
theorem Xx {W:World} (h:laidMetH Tryz.prog sG W):0<W.heap.size:=by
 obtain ⟨cs,ty,fz,hb,_⟩:=Qn h
 exact (Array.getElem?_eq_some_iff.1 hb).1
theorem Xv {W:World} (h:laidMetH Tryz.prog sG W) (n:Nat):Rel W.heap.size (fun _=>False) W (fun _=>none) ⟨n,.nil,[]⟩ W :=
 ⟨fun _ _ _ _ _ _ h=>by (cases h),fun _ _ h=>by (cases h),fun _ _ h=>by (cases h),fun i b h=>by (have h:(Tr.nil:Tr bN).get i=some b:=h;rw [Tr.get_nil] at h;cases h),Nat.le_refl _,iz.refl _ _ _,fun _ _ h=>by (cases h),fun _ _ _ _ _ _ h=>by (cases h),fun g cs hg=>by
  have e:(g,cs)=(0,qW):=by
   have:Eb=[(0,qW)]:=rfl
   rw [this] at hg
   simpa using hg
  cases e
  obtain ⟨cs',ty,fz,h1,h2⟩:=Qn h
  exact ⟨Xx h,fun x=>x,cs',ty,fz,h1,h2⟩⟩
theorem YX {n0:Nat} {w0 w:World} (h:iz n0 (fun _=>False) w0 w):Below n0 w0 w:=⟨h.os,h.tape,h.output,h.size,fun k hk=>h.block k hk fun x=>x⟩
section
variable {H:Type} {enc:TypeId × Value→H} {P:Program}
theorem VX {f:Func} {s:ChangeSpec} {apart fresh handsOn again:Bool} {W W':World} {args:Array Value} {v:Value} {ds gs:List (DataW H)} {before pa pv:List MemPlace}
  (hW:DataW.Whole enc P f.params.toList s.vars apart W args.toList ds gs before)
  (hres:∀ (b:Nat) (sp:Nat→Bool) (hd:Bool),DataW.TrodAll enc P W' b sp hd f.resultTypes.toList (v.resultList f.resultTypes.size) (s.fn H (ds++gs)).results [])
  (hargs:∀ sp:Nat→Bool,(∀ p∈before,sp p.block=true)→DataW.TrodAll enc P W' 0 sp true f.params.toList args.toList (s.fn H (ds++gs)).args pa)
  (hvars:∀ sp:Nat→Bool,(∀ p∈before,sp p.block=true)→DataW.TrodVars enc P W' sp s.vars (s.fn H (ds++gs)).vars pv)
  (hps:before=pa++pv) (hb:Below W.heap.size W W')
  (hok:∀ (j:Nat) (t:TypeId) (r:Value),f.resultTypes[j]?=some t→(v.resultList f.resultTypes.size)[j]?=some r→Value.okWide P W' .any 0 t r) :
  s.post enc P f apart fresh handsOn again W args v W':=by
 have hlt:∀ p∈before,p.block<W.heap.size:=fun p hp=>hW.lt p hp
 have hold:∀ p∈before,(fun b=>decide (b<W.heap.size)) p.block=true:=fun p hp=>by simpa using hlt p hp
 refine ⟨ds,gs,before,[],pa,pv,hW,hres _ _ _,hargs _ hold,hvars _ hold,World.keptBut_mono (fun p hp=>⟨hp,?_⟩) (hb.frame (·∈before)),fun _=>?_⟩
 ·rw [hps,List.mem_append] at hp
  exact Or.inr hp
 ·obtain ⟨_,_,_,_,_,hz,hn⟩:=hW
  refine ⟨hok,_,_,([]++pa)++pv,⟨[]++pa,pv,trodAll_append (hargs _ (fun _ _=>rfl)) (hres _ _ _),hvars _ (fun _ _=>rfl),rfl,?_,?_⟩,?_⟩
  ·intro b off hp
   have hin:MemPlace.cell b off∈before:=by rw [hps];simpa using hp
   rw [hb.frozen (hlt _ hin)]
   exact hz b off hin
  ·intro ha
   have:=hn ha
   rw [hps] at this
   simpa using this
  ·intro p hp _
   rw [hps]
   simpa using hp
end
end Go.Proofs.YtldoopjnjlpbpaaGreatDoor
/- Blocks that came in, told to the symbolic machine one by one; slices that came in. No condition. -/
namespace Go.Proofs.YtldoopjnjlpbpaaGreatDoor
noncomputable section
open Go.ChangeShapes Go.WideShapes Go.ChangeAt Go.RowKit Go.Deep
theorem wQ {l:List Value} {a b o:Nat} {v:Value} (h:((l.drop a).take b)[o]?=some v):l[a+o]?=some v:=by
 rw [List.getElem?_take] at h
 split at h
 ·rw [List.getElem?_drop] at h;exact h
 ·cases h
theorem sub_one {l:List Value} {a b:Nat} {v:Value} (h:(l.drop a).take b=[v]):l[a]?=some v:=by
 have:((l.drop a).take b)[0]?=some v:=by rw [h];rfl
 exact wQ this
section
variable {H:Type} {enc:TypeId × Value→H} {P:Program} {w:World} {base:Nat} {spare:Nat→Bool} {held:Bool}
theorem zK {t:TypeId} {fs:Array Field} {fuel:Nat} {cs:List Value} {x:DataW H × List MemPlace} (ht:P.underlying t=some (.struct fs)) (h:DataW.trod enc P w base spare held fuel t cs=some x)
  (i:Nat) {f:Field} (hf:fs[i]?=some f):∃ n y,DataW.trod enc P w base spare held n f.type ((cs.drop f.offset).take (P.cellsOf f.type))=some y:=by
 obtain ⟨ys,n,_,_,_,hyl,hg⟩:=DataW.trod_struct ht h
 have hlt:i<fs.size:=(Array.getElem?_eq_some_iff.1 hf).1
 have hys:ys[i]?=some (ys[i]'(by omega)):=List.getElem?_eq_getElem (by omega)
 exact ⟨n,_,(hg i f hf).trans hys⟩
theorem Qo (b off n:Nat):(⟨b,off,none⟩:Addr).add n=⟨b,off+n,none⟩:=by
 unfold Addr.add
 split
 ·rename_i e;subst e;rfl
 ·rfl
theorem Wd {t e:TypeId} {base' C:Nat} {fuel:Nat} {A:Option Addr} {len cap:Nat} {x:DataW H × List MemPlace} (ht:P.underlying t=some (.slice e)) (hC:P.cellsOf e=C)
  (hok:Value.okWide P w .any base t (.slice A len cap)) (h:DataW.trod enc P w base' (fun _=>true) held fuel t [.slice A len cap]=some x) :
  (A=none∧len=0∧cap=0)∨∃ b off cs ty fz,A=some ⟨b,off,none⟩∧len≤cap∧cap≤maxLen∧w.heap[b]?=some (.cells cs ty fz) ∧
   ∀ j,j<len→∃ n y,DataW.trod enc P w base' (fun _=>true) held n e ((cs.toList.drop (off+j*C)).take C)=some y:=by
 rcases open_slice ht h with ⟨hcs,hx⟩ | ⟨a,len',cap',m,n,D,Pl,hcs,_,hl,hmx,hm,hx,hi⟩
 ·simp at hcs
  exact .inl hcs
 ·simp at hcs
  obtain ⟨rfl,rfl,rfl⟩:=hcs
  simp at hm
  subst hm
  obtain ⟨b,off,spot⟩:=a
  simp only [Value.okWide,ht,Cell.okWide,Cell.ok] at hok
  obtain ⟨_,_,_,hs,_,_,hsh,_⟩:=hok
  have hs:spot=none:=hs
  subst hs
  cases ho:w.heap[b]? with
  | none=>simp [World.shape?,ho] at hsh
  | some o =>
   have hcells:∃ cs ty fz,o=.cells cs ty fz:=by
    cases o <;> first | exact ⟨_,_,_,rfl⟩ | simp [World.shape?,ho] at hsh
   obtain ⟨cs,ty,fz,rfl⟩:=hcells
   refine .inr ⟨b,off,cs,ty,fz,rfl,hl,hmx,ho,fun j hj=>?_⟩
   obtain ⟨cs',hc,ht'⟩:=hi j (by omega)
   rw [hC] at hc
   obtain ⟨_,jG,oy⟩:=World.cells?_some hc
   refine ⟨n,(D j,Pl j),?_⟩
   rw [← ht']
   congr 1
   apply List.ext_getElem?
   intro i
   rw [List.getElem?_take]
   by_cases hi':i<C
   ·rw [if_pos hi',← oy i hi',Qo,Qo]
    simp [World.cell?,ho,Nat.add_assoc]
   ·rw [if_neg hi',List.getElem?_eq_none (by omega)]
end
def C' (m:aj):Prop:=m.xs=[]∧∀ i b,aH m.bl i=some b→b.wr=false
theorem Z8 {W:World} {R:aX} {m:aj} (hR:Rel W.heap.size (fun _=>False) W R m W) (ho:C' m) {i b:Nat} {cs:Array Value} {ty:TypeId} {fz:Nat × Nat} (hi:i<m.next) (hn:R i=none) (hb:W.heap[b]?=some (.cells cs ty fz)) :
  Rel W.heap.size (fun _=>False) W (fun j=>if j=i then some ⟨b,cs.size⟩ else R j) ⟨m.next,m.bl.set i (some ⟨.raw cs,ty,false⟩),m.xs⟩ W∧C' ⟨m.next,m.bl.set i (some ⟨.raw cs,ty,false⟩),m.xs⟩:=by
 have ho':C' ⟨m.next,m.bl.set i (some ⟨.raw cs,ty,false⟩),m.xs⟩:=by
  refine ⟨ho.1,fun j c hc=>?_⟩
  have hc:(m.bl.set i (some ⟨.raw cs,ty,false⟩)).get j=some c:=hc
  rw [Tr.lS] at hc
  split at hc
  ·cases hc;rfl
  ·exact ho.2 j c hc
 have hlt:b<W.heap.size:=(Array.getElem?_eq_some_iff.1 hb).1
 refine ⟨⟨fun j k g h x y h1 h2 h3 h4 h5 h6=>?_,fun j g h=>?_,fun j g h=>?_,fun j c hc=>?_,Nat.le_refl _,iz.refl _ _ _,fun j x hx=>?_,fun j k g h x y _ _ _ h4=>?_,fun g cs hg=>?_⟩,ho'⟩
 ·have e1:=ho'.2 _ _ h4
  have e2:=ho'.2 _ _ h5
  rw [e1,e2] at h6
  rcases h6 with h6 | h6 <;> cases h6
 ·split at h
  ·cases h;exact hlt
  ·exact hR.lt j g h
 ·split at h
  ·rename_i e;rw [e];exact hi
  ·exact hR.nx j g h
 ·have hc:(m.bl.set i (some ⟨.raw cs,ty,false⟩)).get j=some c:=hc
  rw [Tr.lS] at hc
  split at hc
  ·rename_i e
   cases hc
   exact ⟨⟨b,cs.size⟩,cs,fz,by simp [e],hb,rfl,rfl,fun h=>by cases h⟩
  ·rename_i e
   obtain ⟨g,cs',vV,k1,k2,k3,k4,k5⟩:=hR.dS j c hc
   refine ⟨g,cs',vV,by simp [e,k1],k2,k3,SA.qG (fun l g hl=>?_) k4,k5⟩
   by_cases el:l=i
   ·rw [el,hn] at hl;cases hl
   ·rw [if_neg el];exact hl
 ·have hx:bR m.xs j=some x:=hx
  rw [ho.1] at hx;cases hx
 ·have h4:bR m.xs j=some x:=h4
  rw [ho.1] at h4;cases h4
 ·exact hR.gl g cs hg
theorem V4 (n:Nat):C' ⟨n,.nil,[]⟩:=⟨rfl,fun i b h=>by
 have h:(Tr.nil:Tr bN).get i=some b:=h
 rw [Tr.get_nil] at h;cases h⟩
theorem YW {k:IntKind} {cs:Array Value} {i:Nat} {n:Int} (h:cs.toList[i]?=some (.int k n)):aA k cs i:=by
 rw [Array.getElem?_toList] at h
 unfold aA aa
 rw [h]
end
end Go.Proofs.YtldoopjnjlpbpaaGreatDoor
/- Of handle: a book's slots, as numbers. No condition. -/
namespace Go.Proofs.YtldoopjnjlpbpaaGreatDoor
set_option maxRecDepth 100000
def cw (bs:Array Value) (i:Nat):Int:=aa bs (i*2)
def cB (bs:Array Value) (i:Nat):Int:=aa bs (i*2+1)
structure bP (bs:Array Value):Prop where
 sz:bs.size=64
 a:∀ i,i<32→aA .u32 bs (i*2)
 k:∀ i,i<32→aA .u8 bs (i*2+1)
 ra:∀ i,i<32→0≤cw bs i∧cw bs i≤8388607
 rk:∀ i,i<32→0≤cB bs i∧cB bs i≤2
def cW (i:Nat) (a:Int):Int:=256*a+i+1
def gV (h:Int):Bool:=decide (h≠0∧(h - 1) % 256<32∧(h - 1) / 256≤8388607)
def aP (h:Int):Int:=if gV h=true then (h - 1) % 256 else 0
def bF (bs:Array Value) (h:Int):Bool:=gV h&&(decide (cw bs (aP h).toNat=(h - 1) / 256)&&decide (cB bs (aP h).toNat=1))
def jm (bs:Array Value) (i:Int):Bool:=decide (0≤i∧i<32)&&decide (cB bs i.toNat=1)
def jB (bs:Array Value) (i:Int):Int:=if jm bs i=true then cW i.toNat (cw bs i.toNat) else 0
def aN (h:Int):Prop:=0≤h∧h<4294967296
def jM (bs:Array Value) (i:Nat):Array Value:=if cw bs i=8388607 then bs.setIfInBounds (i*2+1) (.int .u8 2) else putAt bs (i*2) [.int .u32 (cw bs i+1),.int .u8 0]
def gH (bs:Array Value) (h:Int):Array Value:=if bF bs h=true then jM bs (aP h).toNat else bs
def tH (bs:Array Value):Nat→Nat→Option Nat
 | 0,_=>none
 | k+1,i=>if cB bs i=0 then some i else tH bs k (i+1)
def mE (bs:Array Value):Option Nat:=tH bs 32 0
def fE (bs:Array Value):Array Value:=match mE bs with
 | some i=>bs.setIfInBounds (i*2+1) (.int .u8 1)
 | none=>bs
def ct (bs:Array Value):Int:=match mE bs with
 | some i=>cW i (cw bs i)
 | none=>0
def ir (bs:Array Value):Bool:=(mE bs).isSome
theorem wC {h:Int} (hh:aN h):0≤aP h∧aP h<32:=by
 unfold aP
 split
 ·rename_i e
  unfold gV at e
  have:=of_decide_eq_true e
  have:=hh.1
  omega
 ·omega
theorem u32_in {t:Int} (h1:0≤t) (h2:t<4294967296):IntKind.u32.wrap t=t:=by
 unfold IntKind.wrap
 simp only [IntKind.signed,IntKind.bits]
 exact Int.emod_eq_of_lt h1 (by omega)
theorem cC {t:Int} (h1:-9223372036854775808≤t) (h2:t≤9223372036854775807):IntKind.i64.wrap t=t:=Go.IntWalk.i64_in _ (by omega)
noncomputable section
def u32 (n:Int):SV:=.s (.c (.f (.int .u32 (.o n))))
def l_ (bs:Array Value):SV:=.s (.agg (.op bs))
def GD (x:Int) (b:Bool):SV:=.bW [.c (.f (.int .i64 (.o x))),.c (.f (.bool (.o b)))]
def GF (x:Int) (b:Bool):SV:=.bW [.c (.f (.int .u32 (.o x))),.c (.f (.bool (.o b)))]
def M0 (bs:Array Value) (b:Bool):SV:=.bW [.agg (.op bs),.c (.f (.bool (.o b)))]
def FD (bs:Array Value) (x:Int) (b:Bool):SV:=.bW [.agg (.op bs),.c (.f (.int .u32 (.o x))),.c (.f (.bool (.o b)))]
def aT:aj:=⟨0,.nil,[]⟩
end
end Go.Proofs.YtldoopjnjlpbpaaGreatDoor
/- Of handle: Slot, Good, At, Void, as propositions. No condition. -/
namespace Go.Proofs.YtldoopjnjlpbpaaGreatDoor
set_option maxRecDepth 100000
theorem XM (h x:Int) (b:Bool):(run E0 1000 0 [a_ 40 Tryz.f40.ntmps [u32 h] (Tryz.f40.body.getD .skip)] aT).vc (bM 0 [] (GD x b) aT) (fun _ _=>False) =
  ((((h==0)==false)=true→((decide (ah .rem .u32 (ah .sub .u32 h 1) 256≥32)==false)=true→(decide (ah .quo .u32 (ah .sub .u32 h 1) 256>8388607)=true→x=0∧b=false∧True)∧(decide (ah .quo .u32 (ah .sub .u32 h 1) 256>8388607)=false→x=IntKind.wrap .i64 (ah .rem .u32 (ah .sub .u32 h 1) 256)∧b=true∧True))∧((decide (ah .rem .u32 (ah .sub .u32 h 1) 256≥32)==false)=false→x=0∧b=false∧True))∧(((h==0)==false)=false→x=0∧b=false∧True)):=by kernel_rfl
noncomputable def tE (h:Int):Int:=ah .rem .u32 (ah .sub .u32 h 1) 256
theorem XN (bs:Array Value) (h:Int) (b:Bool):(run E0 1000 0 [a_ 57 Tryz.f57.ntmps [l_ bs,u32 h] (Tryz.f57.body.getD .skip)] aT).vc (bM 0 [] (sB (.o b)) aT) (fun _ _=>False) =
  ((((h==0)==false)=true→((decide (ah .rem .u32 (ah .sub .u32 h 1) 256≥32)==false)=true→(decide (ah .quo .u32 (ah .sub .u32 h 1) 256>8388607)=true→b=false∧True)∧(decide (ah .quo .u32 (ah .sub .u32 h 1) 256>8388607)=false→((0≤IntKind.wrap .i64 (tE h)∧IntKind.wrap .i64 (tE h)<32)∧True)∧(aA .u32 bs (0+(IntKind.wrap .i64 (tE h)).toNat*2)∧aA .u8 bs (0+(IntKind.wrap .i64 (tE h)).toNat*2+1)∧True)∧b=(aa bs (0+(IntKind.wrap .i64 (tE h)).toNat*2)==ah .quo .u32 (ah .sub .u32 h 1) 256&&aa bs (0+(IntKind.wrap .i64 (tE h)).toNat*2+1)==1)∧True))∧((decide (ah .rem .u32 (ah .sub .u32 h 1) 256≥32)==false)=false→b=false∧True))∧(((h==0)==false)=false→b=false∧True)):=by kernel_rfl
theorem aaB (bs:Array Value) (i x:Int) (b:Bool):(run E0 1000 0 [a_ 103 Tryz.f103.ntmps [l_ bs,i64 (.o i)] (Tryz.f103.body.getD .skip)] aT).vc (bM 0 [] (GF x b) aT) (fun _ _=>False) =
  (((decide (i<0)==false)=true→((decide (i≥32)==false)=true→((0≤i∧i<32)∧True)∧(aA .u8 bs (0+i.toNat*2+1)∧True)∧((aa bs (0+i.toNat*2+1) != 1)=true→x=0∧b=false∧True)∧((aa bs (0+i.toNat*2+1) != 1)=false→((0≤i∧i<32)∧True)∧(aA .u32 bs (0+i.toNat*2)∧True)∧x=ah .add .u32 (ah .add .u32 (ah .mul .u32 (256:Int) (aa bs (0+i.toNat*2))) (IntKind.wrap .u32 i)) (1:Int)∧b=true∧True))∧((decide (i≥32)==false)=false→x=0∧b=false∧True))∧((decide (i<0)==false)=false→x=0∧b=false∧True)):=by kernel_rfl
set_option linter.unusedSimpArgs false
theorem S0 {h:Int} (hh:aN h) (h0:h≠0):ah .sub .u32 h 1=h - 1∧ah .rem .u32 (h - 1) 256=(h - 1) % 256∧ah .quo .u32 (h - 1) 256=(h - 1) / 256:=by
 have h1:=hh.1
 have h2:=hh.2
 refine ⟨by rw [zQ,u32_in (by omega) (by omega)],by rw [Qw,Int.tmod_eq_emod_of_nonneg (by omega)],?_⟩
 rw [Za,Int.tdiv_eq_ediv_of_nonneg (by omega),u32_in (by omega) (by omega)]
section
variable {bs:Array Value}
theorem Pg (h:Int) (m:aj):aq E0 40 [u32 h] m (bu [aN h] (.ret (GD (aP h) (gV h)) m)):=by
 refine aq.pure aU (by kernel_rfl:E0.fn 40=some Tryz.f40) (by kernel_rfl:Tryz.f40.body=some (Tryz.f40.body.getD .skip)) (by kernel_rfl) (by kernel_rfl) fun hq=>?_
 have hh:aN h:=hq _ (by simp)
 refine (Good.ret [] (bA aU 1000 (XM h (aP h) (gV h)) ?_ (fun s m h=>h) fun _ _ h=>h.elim)).mono fun _ _ h=>h.1
 have h1:=hh.1
 have h2:=hh.2
 by_cases h0:h=0
 ·have d:(h==0)=true:=by rw [h0];rfl
  have e:gV h=false:=decide_eq_false (fun k=>k.1 h0)
  simp only [d,e,aP,if_false,q8,q6]
 ·have d:(h==0)=false:=by simpa using h0
  obtain ⟨e1,e2,e3⟩:=S0 hh h0
  by_cases c1:(h - 1) % 256≥32
  ·have d1:decide ((h - 1) % 256≥32)=true:=decide_eq_true c1
   have e:gV h=false:=decide_eq_false (fun k=>by omega)
   simp only [d,d1,e,e1,e2,e3,aP,if_false,q8,q6]
  ·have d1:decide ((h - 1) % 256≥32)=false:=decide_eq_false c1
   by_cases c2:(h - 1) / 256>8388607
   ·have d2:decide ((h - 1) / 256>8388607)=true:=decide_eq_true c2
    have e:gV h=false:=decide_eq_false (fun k=>by omega)
    simp only [d,d1,d2,e,e1,e2,e3,aP,if_false,q8,q6]
   ·have d2:decide ((h - 1) / 256>8388607)=false:=decide_eq_false c2
    have e:gV h=true:=decide_eq_true ⟨h0,by omega,by omega⟩
    simp only [d,d1,d2,e,e1,e2,e3,aP,if_true,q8,q6]
    exact (cC (by omega) (by omega)).symm
theorem Ph (h:Int) (m:aj):aq E0 57 [l_ bs,u32 h] m (bu [bP bs,aN h] (.ret (sB (.o (bF bs h))) m)):=by
 refine aq.pure aU (by kernel_rfl:E0.fn 57=some Tryz.f57) (by kernel_rfl:Tryz.f57.body=some (Tryz.f57.body.getD .skip)) (by kernel_rfl) (by kernel_rfl) fun hq=>?_
 have hb:bP bs:=hq _ (by simp)
 have hh:aN h:=hq _ (by simp)
 refine (Good.ret [] (bA aU 1000 (XN bs h (bF bs h)) ?_ (fun s m h=>h) fun _ _ h=>h.elim)).mono fun _ _ h=>h.1
 unfold tE
 have h1:=hh.1
 have h2:=hh.2
 by_cases h0:h=0
 ·have d:(h==0)=true:=by rw [h0];rfl
  have e:gV h=false:=decide_eq_false (fun k=>k.1 h0)
  simp only [d,e,bF,Bool.false_and,if_false,q8,q6]
 ·have d:(h==0)=false:=by simpa using h0
  obtain ⟨e1,e2,e3⟩:=S0 hh h0
  by_cases c1:(h - 1) % 256≥32
  ·have d1:decide ((h - 1) % 256≥32)=true:=decide_eq_true c1
   have e:gV h=false:=decide_eq_false (fun k=>by omega)
   simp only [d,d1,e,e1,e2,e3,bF,Bool.false_and,if_false,q8,q6]
  ·have d1:decide ((h - 1) % 256≥32)=false:=decide_eq_false c1
   by_cases c2:(h - 1) / 256>8388607
   ·have d2:decide ((h - 1) / 256>8388607)=true:=decide_eq_true c2
    have e:gV h=false:=decide_eq_false (fun k=>by omega)
    simp only [d,d1,d2,e,e1,e2,e3,bF,Bool.false_and,if_false,q8,q6]
   ·have d2:decide ((h - 1) / 256>8388607)=false:=decide_eq_false c2
    have e:gV h=true:=decide_eq_true ⟨h0,by omega,by omega⟩
    have es:aP h=(h - 1) % 256:=by unfold aP;rw [if_pos e]
    have ew:IntKind.i64.wrap ((h - 1) % 256)=(h - 1) % 256:=cC (by omega) (by omega)
    have hlt:((h - 1) % 256).toNat<32:=by omega
    simp only [d,d1,d2,e,e1,e2,e3,ew,es,bF,Nat.zero_add,Bool.true_and,if_true,q8,q6]
    refine ⟨by omega,⟨hb.a _ hlt,hb.k _ hlt⟩,?_⟩
    unfold cw cB
    rw [Bool.eq_iff_iff]
    simp
theorem Oo {i:Nat} {a:Int} (hi:i<32) (ha:0≤a∧a≤8388607):ah .add .u32 (ah .add .u32 (ah .mul .u32 256 a) (IntKind.u32.wrap (i:Int))) 1=cW i a:=by
 have e1:ah .mul .u32 256 a=256*a:=by rw [Qx];exact u32_in (by omega) (by omega)
 have e2:IntKind.u32.wrap (i:Int)=i:=u32_in (by omega) (by omega)
 rw [e1,e2,dn,dn,u32_in (t:=256*a+i) (by omega) (by omega),u32_in (by omega) (by omega)]
 rfl
theorem RQ (i:Int) (m:aj):aq E0 103 [l_ bs,i64 (.o i)] m (bu [bP bs] (.ret (GF (jB bs i) (jm bs i)) m)):=by
 refine aq.pure aU (by kernel_rfl:E0.fn 103=some Tryz.f103) (by kernel_rfl:Tryz.f103.body=some (Tryz.f103.body.getD .skip)) (by kernel_rfl) (by kernel_rfl) fun hq=>?_
 have hb:bP bs:=hq _ (by simp)
 refine (Good.ret [] (bA aU 1000 (aaB bs i (jB bs i) (jm bs i)) ?_ (fun s m h=>h) fun _ _ h=>h.elim)).mono fun _ _ h=>h.1
 by_cases c1:i<0
 ·have d1:decide (i<0)=true:=decide_eq_true c1
  have e:jm bs i=false:=by unfold jm;rw [decide_eq_false (by omega)];rfl
  simp only [d1,e,jB,if_false,q8,q6]
 ·have d1:decide (i<0)=false:=decide_eq_false c1
  by_cases c2:i≥32
  ·have d2:decide (i≥32)=true:=decide_eq_true c2
   have e:jm bs i=false:=by unfold jm;rw [decide_eq_false (by omega)];rfl
   simp only [d1,d2,e,jB,if_false,q8,q6]
  ·have d2:decide (i≥32)=false:=decide_eq_false c2
   obtain ⟨k,rfl⟩:∃ k:Nat,i=(k:Int):=⟨i.toNat,by omega⟩
   have hk:k<32:=by omega
   have ek:jm bs (k:Int)=decide (cB bs k=1):=by unfold jm;rw [decide_eq_true (by omega),Bool.true_and,Int.toNat_natCast]
   by_cases c3:cB bs k=1
   ·have d3:(aa bs (k*2+1) != 1)=false:=by
     have c3:aa bs (k*2+1)=1:=c3
     rw [c3];rfl
    have en:=Oo hk (hb.ra k hk)
    unfold cw at en
    rw [decide_eq_true c3] at ek
    simp only [d1,d2,d3,ek,jB,Nat.zero_add,Int.toNat_natCast,en,if_true,q8,q6]
    exact ⟨by omega,hb.k k hk,by omega,hb.a k hk,rfl⟩
   ·have d3:(aa bs (k*2+1) != 1)=true:=by
     have c3:¬ aa bs (k*2+1)=1:=c3
     simpa using c3
    rw [decide_eq_false c3] at ek
    simp only [d1,d2,d3,ek,jB,Nat.zero_add,Int.toNat_natCast,if_false,q8,q6]
    exact ⟨by omega,hb.k k hk⟩
end
set_option linter.unusedVariables false
theorem aq.args {E:Env} {f:FuncId} {l l':List SV} {m:aj} {t:Tree} (h:∀ R vs,aK (SV.ok R) l vs→aK (SV.ok R) l' vs) (hc:aq E f l' m t):aq E f l m t:=by
 intro A hs
 obtain ⟨fn,h1,h2,h3⟩:=hc A hs
 exact ⟨fn,h1,h2,fun n0 F w0 w R args hl hR=>h3 n0 F w0 w R args (h R _ hl) hR⟩
theorem aq.asked {E:Env} {g:FuncId} {l:List SV} {m:aj} {q:List Prop} {t:Tree} (h:(∀ p∈q,p)→aq E g l m t):aq E g l m (.need q t):=by
 intro A hs
 exact h hs.1 A hs.2
noncomputable def Kn (g:FuncId) (l:List SV) (m:aj):Option Tree:=match g,l with
 | 40,[.s (.c (.f (.int .u32 h)))]=>some (.need [aN h.den] (.ret (GD (aP h.den) (gV h.den)) m))
 | 57,[.s (.agg (.op bs)),.s (.c (.f (.int .u32 h)))]=>some (.need [bP bs,aN h.den] (.ret (sB (.o (bF bs h.den))) m))
 | 103,[.s (.agg (.op bs)),.s (.c (.f (.int .i64 i)))]=>some (.need [bP bs] (.ret (GF (jB bs i.den) (jm bs i.den)) m))
 | _,_=>none
noncomputable def EH:Env:=⟨Tryz.prog,dg,Kn,dy [82002,95003]⟩
noncomputable def uo:List bh:=cY Tryz.f82 2
noncomputable def BA (bs:Array Value) (i:Int) (zz:Array Value):List av:=[dw 82 Tryz.f82 [(1,ptr 0 (.l 0)),(2,ptr 1 (.l 0)),(3,.s (.c (.f (.int .u32 (.l 0))))),(6,i64 (.o i))] uo]
noncomputable def BB (bs:Array Value) (i:Int) (zz:Array Value):aj:=cD 2 [(0,⟨.op bs,29,true⟩),(1,⟨.op zz,29,true⟩)]
def FE (bs:Array Value) (Q:Int→Array Value→Prop) (fs:List av) (m:aj):Prop:=(match b9 fs 0 with | some f0=>(match dh f0 6 with | some i=>(match aV f0 1 with | some p0=>(match aV f0 2 with | some p1=>(match cO m p1 with | some zz=>Q i zz∧cV 0 [(0,p0),(1,p1)] (BA bs i zz) (BB bs i zz) fs m | none=>False) | none=>False) | none=>False) | none=>False) | none=>False)
noncomputable def j4:List bh:=cY Tryz.f95 3
noncomputable def sI (bs:Array Value) (i:Int):List av:=[dw 95 Tryz.f95 [(1,ptr 0 (.l 0)),(3,.s (.c (.f (.lit (.slice none 0 0))))),(7,i64 (.o i))] j4]
noncomputable def sJ (bs:Array Value) (i:Int):aj:=cD 1 [(0,⟨.op bs,29,true⟩)]
def FF (bs:Array Value) (Q:Int→Prop) (fs:List av) (m:aj):Prop:=(match b9 fs 0 with | some f0=>(match dh f0 7 with | some i=>(match aV f0 1 with | some p0=>Q i∧cV 0 [(0,p0)] (sI bs i) (sJ bs i) fs m | none=>False) | none=>False) | none=>False)
noncomputable def Ko:List bh:=cY Tryz.f95 3
noncomputable def BC (bs:Array Value) (i:Int) (k:Nat) (cs:Array Value):List av:=[dw 95 Tryz.f95 [(1,ptr 0 (.l 0)),(3,.s (.c (.f (.slice 1 (.l 0) (.o k) (.full 1))))),(7,i64 (.o i))] Ko]
noncomputable def BD (bs:Array Value) (i:Int) (k:Nat) (cs:Array Value):aj:=cD 2 [(0,⟨.op bs,29,true⟩),(1,⟨.pop cs,30,true⟩)]
def FG (bs:Array Value) (Q:Int→Nat→Array Value→Prop) (fs:List av) (m:aj):Prop:=(match b9 fs 0 with | some f0=>(match dh f0 7 with | some i=>(match aV f0 1 with | some p0=>(match fG f0 3 with | some p1=>(match qR f0 3 with | some k=>(match cO m p1 with | some cs=>Q i k cs∧cV 0 [(0,p0),(1,p1)] (BC bs i k cs) (BD bs i k cs) fs m | none=>False) | none=>False) | none=>False) | none=>False) | none=>False) | none=>False)
def dL (k:Nat) (cs:Array Value) (ty:TypeId) (s:SV) (m:aj):Prop:=match s with | .s (.c (.f (.slice M1 _ _ _)))=>bM 0 [(0,M1)] (.s (.c (.f (.slice 0 (.l 0) (.o k) (.full 1))))) (cD 1 [(0,⟨.pop cs,ty,true⟩)]) s m | _=>False
def FH (s:SV) (m:aj):Prop:=bM 0 [] (.s (.c (.f (.lit (.slice none 0 0))))) aT s m
def GG (bs:Array Value) (QZ:Int→Prop) (QS:Int→Nat→Array Value→Prop) (fs:List av) (m:aj):Prop:=match fs with | f :: _=>(match f.tm.get 3 with | some (.s (.c (.f (.slice _ _ _ _))))=>FG bs QS fs m | _=>FF bs QZ fs m) | []=>False
noncomputable def adQ (bs:Array Value) (h:Int) (o:Array Value) (b:Bool):Tree:=run EH 1000 0 [a_ 83 Tryz.f83.ntmps [l_ bs,u32 h] (Tryz.f83.body.getD .skip)] aT
def adR (bs:Array Value) (h:Int) (o:Array Value) (b:Bool)  (fs:List av) (m:aj):Prop:=False
noncomputable def ace (bs:Array Value):Tree:=run EH 1000 0 [a_ 82 Tryz.f82.ntmps [l_ bs] (Tryz.f82.body.getD .skip)] aT
def Kp (bs:Array Value) (vL:Int→Array Value→Prop) (fs:List av) (m:aj):Prop:=FE bs vL fs m
noncomputable def acf (bs:Array Value):Tree:=run EH 1000 0 [a_ 95 Tryz.f95.ntmps [l_ bs] (Tryz.f95.body.getD .skip)] aT
def Kq (bs:Array Value) (vM:Int→Prop) (fs:List av) (m:aj):Prop:=FF bs vM fs m
theorem Pj (r:Nat→Option Nat):ak r uo uo:=ak.it (by kernel_rfl)
theorem tI (r:Nat→Option Nat):ak r j4 j4:=ak.it (by kernel_rfl)
theorem zx (r:Nat→Option Nat):ak r Ko Ko:=ak.it (by kernel_rfl)
theorem I9 {A:SV→aj→Prop} {bs:Array Value} {Q:Int→Array Value→Prop} {fs:List av} {m:aj} (H:∀ i zz,Q i zz→Good Tryz.prog A 0 (BA bs i zz) (BB bs i zz)) (hb:FE bs Q fs m):Good Tryz.prog A 0 fs m:=by
 unfold FE at hb
 iterate 5 (split at hb;rotate_left;exact hb.elim)
 exact Good.c_ hb.2 (H _ _ hb.1)
theorem Qy {A:SV→aj→Prop} {bs:Array Value} {Q:Int→Prop} {fs:List av} {m:aj} (H:∀ i,Q i→Good Tryz.prog A 0 (sI bs i) (sJ bs i)) (hb:FF bs Q fs m):Good Tryz.prog A 0 fs m:=by
 unfold FF at hb
 iterate 3 (split at hb;rotate_left;exact hb.elim)
 exact Good.c_ hb.2 (H _ hb.1)
theorem I_ {A:SV→aj→Prop} {bs:Array Value} {Q:Int→Nat→Array Value→Prop} {fs:List av} {m:aj} (H:∀ i k cs,Q i k cs→Good Tryz.prog A 0 (BC bs i k cs) (BD bs i k cs)) (hb:FG bs Q fs m):Good Tryz.prog A 0 fs m:=by
 unfold FG at hb
 iterate 6 (split at hb;rotate_left;exact hb.elim)
 exact Good.c_ hb.2 (H _ _ _ hb.1)
theorem aaC {A:SV→aj→Prop} {bs:Array Value} {vL:Int→Array Value→Prop} {fs:List av} {m:aj} (hhI:∀ i' fB,vL i' fB→Good Tryz.prog A 0 (BA bs i' fB) (BB bs i' fB)) (hb:Kp bs vL fs m):Good Tryz.prog A 0 fs m:=by
 unfold Kp at hb
 exact I9 hhI hb
theorem RR {A:SV→aj→Prop} {bs:Array Value} {vM:Int→Prop} {fs:List av} {m:aj} (hhZ:∀ i',vM i'→Good Tryz.prog A 0 (sI bs i') (sJ bs i')) (hb:Kq bs vM fs m):Good Tryz.prog A 0 fs m:=by
 unfold Kq at hb
 exact Qy hhZ hb
theorem aq.n1 {E:Env} {g:FuncId} {a:SV} {k:IntKind} {x:SI} {m:aj} {t:Tree} (h:aq E g [a,.s (.c (.f (.int k (.o x.den))))] m t):aq E g [a,.s (.c (.f (.int k x)))] m t:=aq.args (fun R vs ha=>by
 match vs,ha with
 | [v,w],ha=>exact ⟨ha.1,ha.2.1,trivial⟩) h
theorem aq.n2 {E:Env} {g:FuncId} {a:SV} {k l:IntKind} {x y:SI} {m:aj} {t:Tree} (h:aq E g [a,.s (.c (.f (.int k (.o x.den)))),.s (.c (.f (.int l (.o y.den))))] m t):aq E g [a,.s (.c (.f (.int k x))),.s (.c (.f (.int l y)))] m t:=aq.args (fun R vs ha=>by
 match vs,ha with
 | [v,w,z],ha=>exact ⟨ha.1,ha.2.1,ha.2.2.1,trivial⟩) h
theorem aq.n3 {E:Env} {g:FuncId} {a:SV} {k l n:IntKind} {x y u:SI} {m:aj} {t:Tree} (h:aq E g [a,.s (.c (.f (.int k (.o x.den)))),.s (.c (.f (.int l (.o y.den)))),.s (.c (.f (.int n (.o u.den))))] m t):aq E g [a,.s (.c (.f (.int k x))),.s (.c (.f (.int l y))),.s (.c (.f (.int n u)))] m t:=aq.args (fun R vs ha=>by
 match vs,ha with
 | [v,w,z,q],ha=>exact ⟨ha.1,ha.2.1,ha.2.2.1,ha.2.2.2.1,trivial⟩) h
set_option maxRecDepth 100000
noncomputable def tM (bs:Array Value) (h:Int):List Value:=[Value.int .u32 (ah .add .u32 (aa bs (0+(aP h).toNat*2)) (1:Int)),Value.int .u8 0]
noncomputable def zR (bs:Array Value) (h:Int):Array Value:=Array.setIfInBounds bs (0+(aP h).toNat*2+1) (Value.int .u8 2)
theorem acg (bs:Array Value) (h:Int) (o:Array Value) (b:Bool):(adQ bs h o b).vc ((bM 0 [] (M0 o b) aT)) (adR bs h o b ) =
  ((bs.size=64∧True)∧(bP bs∧(0≤h∧h<4294967296)∧True)∧((!bF bs h)=true→(bs.size=64∧True)∧(bs.size=64∧bs.size=64∧True)∧(bs.size=64∧True)∧o=bs∧b=false∧True)∧((!bF bs h)=false→((0≤h∧h<4294967296)∧True)∧((0≤aP h∧aP h<32)∧True)∧(aA .u32 bs (0+(aP h).toNat*2)∧True)∧((aa bs (0+(aP h).toNat*2)==8388607)=true→((0≤aP h∧aP h<32)∧True)∧(0+(aP h).toNat*2+1<bs.size∧True)∧((zR bs h).size=64∧True)∧((zR bs h).size=64∧(zR bs h).size=64∧True)∧((zR bs h).size=64∧True)∧o=Array.setIfInBounds bs (0+(aP h).toNat*2+1) (Value.int .u8 2)∧b=true∧True)∧((aa bs (0+(aP h).toNat*2)==8388607)=false→((0≤aP h∧aP h<32)∧True)∧(aA .u32 bs (0+(aP h).toNat*2)∧True)∧((0≤aP h∧aP h<32)∧True)∧(0+(aP h).toNat*2+(tM bs h).length≤bs.size∧True)∧((putAt bs (0+(aP h).toNat*2) (tM bs h)).size=64∧True)∧((putAt bs (0+(aP h).toNat*2) (tM bs h)).size=64∧(putAt bs (0+(aP h).toNat*2) (tM bs h)).size=64∧True)∧((putAt bs (0+(aP h).toNat*2) (tM bs h)).size=64∧True)∧o=putAt bs (0+(aP h).toNat*2) (tM bs h)∧b=true∧True))):=by kernel_rfl
noncomputable def CV:Array Value:=#[Value.int .u32 0,Value.int .u8 0,Value.int .u32 0,Value.int .u8 0,Value.int .u32 0,Value.int .u8 0,Value.int .u32 0,Value.int .u8 0,Value.int .u32 0,Value.int .u8 0,Value.int .u32 0,Value.int .u8 0,Value.int .u32 0,Value.int .u8 0,Value.int .u32 0,Value.int .u8 0,Value.int .u32 0,Value.int .u8 0,Value.int .u32 0,Value.int .u8 0,Value.int .u32 0,Value.int .u8 0,Value.int .u32 0,Value.int .u8 0,Value.int .u32 0,Value.int .u8 0,Value.int .u32 0,Value.int .u8 0,Value.int .u32 0,Value.int .u8 0,Value.int .u32 0,Value.int .u8 0,Value.int .u32 0,Value.int .u8 0,Value.int .u32 0,Value.int .u8 0,Value.int .u32 0,Value.int .u8 0,Value.int .u32 0,Value.int .u8 0,Value.int .u32 0,Value.int .u8 0,Value.int .u32 0,Value.int .u8 0,Value.int .u32 0,Value.int .u8 0,Value.int .u32 0,Value.int .u8 0,Value.int .u32 0,Value.int .u8 0,Value.int .u32 0,Value.int .u8 0,Value.int .u32 0,Value.int .u8 0,Value.int .u32 0,Value.int .u8 0,Value.int .u32 0,Value.int .u8 0,Value.int .u32 0,Value.int .u8 0,Value.int .u32 0,Value.int .u8 0,Value.int .u32 0,Value.int .u8 0]
theorem aaD (bs:Array Value) (vL:Int→Array Value→Prop):(ace bs).vc ((fun _ _=>False)) (Kp bs vL) =
  (vL (0:Int) (CV)∧cN∧ak (aD 0 [(0,0),(1,1)]) uo uo∧(0:Int)=(0:Int)∧29=29∧bs=bs∧29=29∧(CV)=(CV)∧True):=by kernel_rfl
theorem RS (bs:Array Value) (vM:Int→Prop):(acf bs).vc ((fun _ _=>False)) (Kq bs vM) =
  (vM (0:Int)∧cN∧ak (aD 0 [(0,0)]) j4 j4∧Value.slice none 0 0=Value.slice none 0 0∧(0:Int)=(0:Int)∧29=29∧bs=bs∧True):=by kernel_rfl
noncomputable def r_ (bs:Array Value) (i:Int):Array Value:=Array.setIfInBounds bs (0+i.toNat*2+1) (Value.int .u8 1)
theorem Us (bs:Array Value) (i:Int) (zz:Array Value) (o:Array Value) (x:Int) (b:Bool) (Q:Int→Array Value→Prop):(stepT EH.go (run EH 1000) 0 (BA bs i zz) (BB bs i zz)).vc (bM 0 [] (FD o x b) aT) (FE bs Q) =
  ((decide (i<32)=true→((0≤i∧i<32)∧True)∧(aA .u8 bs (0+i.toNat*2+1)∧True)∧((aa bs (0+i.toNat*2+1)==0)=true→((0≤i∧i<32)∧True)∧(0+i.toNat*2+1<bs.size∧True)∧((r_ bs i).size=64∧True)∧((0≤i∧i<32)∧True)∧(aA .u32 (r_ bs i) (0+i.toNat*2)∧True)∧((r_ bs i).size=64∧(r_ bs i).size=zz.size∧True)∧((r_ bs i).size=64∧True)∧o=Array.setIfInBounds bs (0+i.toNat*2+1) (Value.int .u8 1)∧x=ah .add .u32 (ah .add .u32 (ah .mul .u32 (256:Int) (aa (r_ bs i) (0+i.toNat*2))) (IntKind.wrap .u32 i)) (1:Int)∧b=true∧True)∧((aa bs (0+i.toNat*2+1)==0)=false→Q (ah .add .i64 i 1) zz∧cN∧ak (aD 0 [(0,0),(1,1)]) uo uo∧ah .add .i64 i 1=ah .add .i64 i 1∧29=29∧bs=bs∧29=29∧zz=zz∧True))∧(decide (i<32)=false→(bs.size=64∧True)∧(bs.size=64∧bs.size=zz.size∧True)∧(bs.size=64∧True)∧o=bs∧x=0∧b=false∧True)):=by kernel_rfl
theorem S2 (bs:Array Value) (i:Int) (QZ:Int→Prop) (QS:Int→Nat→Array Value→Prop):(stepT EH.go (run EH 1000) 0 (sI bs i) (sJ bs i)).vc FH (GG bs QZ QS) =
  ((decide (i<32)=true→(bs.size=64∧True)∧(bP bs∧True)∧(jm bs i=true→QS (ah .add .i64 i 1) (1:Nat) #[Value.int .u32 (jB bs i)]∧cN∧ak (aD 0 [(0,0),(1,2)]) j4 j4∧(1:Nat)=1∧ah .add .i64 i 1=ah .add .i64 i 1∧29=29∧bs=bs∧30=30∧#[Value.int .u32 (jB bs i)]=#[Value.int .u32 (jB bs i)]∧True)∧(jm bs i=false→QZ (ah .add .i64 i 1)∧cN∧ak (aD 0 [(0,0)]) j4 j4∧Value.slice none 0 0=Value.slice none 0 0∧ah .add .i64 i 1=ah .add .i64 i 1∧29=29∧bs=bs∧True))∧(decide (i<32)=false→Value.slice none 0 0=Value.slice none 0 0∧True)):=by kernel_rfl
theorem ach (bs:Array Value) (i:Int) (k:Nat) (cs:Array Value) (QZ:Int→Prop) (QS:Int→Nat→Array Value→Prop):(stepT EH.go (run EH 1000) 0 (sI bs i) (sJ bs i)).vc (dL k cs 30) (GG bs QZ QS) =
  ((decide (i<32)=true→(bs.size=64∧True)∧(bP bs∧True)∧(jm bs i=true→QS (ah .add .i64 i 1) (1:Nat) #[Value.int .u32 (jB bs i)]∧cN∧ak (aD 0 [(0,0),(1,2)]) j4 j4∧(1:Nat)=1∧ah .add .i64 i 1=ah .add .i64 i 1∧29=29∧bs=bs∧30=30∧#[Value.int .u32 (jB bs i)]=#[Value.int .u32 (jB bs i)]∧True)∧(jm bs i=false→QZ (ah .add .i64 i 1)∧cN∧ak (aD 0 [(0,0)]) j4 j4∧Value.slice none 0 0=Value.slice none 0 0∧ah .add .i64 i 1=ah .add .i64 i 1∧29=29∧bs=bs∧True))∧(decide (i<32)=false→False)):=by kernel_rfl
theorem S3 (bs:Array Value) (i:Int) (k:Nat) (cs:Array Value) (kF:Nat) (cj:Array Value) (QS:Int→Nat→Array Value→Prop):(stepT EH.go (run EH 1000) 0 (BC bs i k cs) (BD bs i k cs)).vc (dL kF cj 30) (FG bs QS) =
  ((decide (i<32)=true→(bs.size=64∧True)∧(bP bs∧True)∧(jm bs i=true→(((k+1)*4≤140737488355328∧k+1≤140737488355328)∧k*1=cs.size∧True)∧QS (ah .add .i64 i 1) (k+1) (cs++#[Value.int .u32 (jB bs i)])∧cN∧ak (aD 0 [(0,0),(1,3)]) j4 j4∧k+1=k+1∧ah .add .i64 i 1=ah .add .i64 i 1∧29=29∧bs=bs∧30=30∧cs++#[Value.int .u32 (jB bs i)]=cs++#[Value.int .u32 (jB bs i)]∧True)∧(jm bs i=false→QS (ah .add .i64 i 1) k cs∧cN∧ak (aD 0 [(0,0),(1,1)]) j4 j4∧k=k∧ah .add .i64 i 1=ah .add .i64 i 1∧29=29∧bs=bs∧30=30∧cs=cs∧True))∧(decide (i<32)=false→kF=k∧30=30∧cj=cs∧True)):=by kernel_rfl
set_option linter.unusedVariables false
theorem XP:∀ g l m t,Kn g l m=some t→aq E0 g l m t:=by
 intro g l m t h
 unfold Kn at h
 split at h
 ·rename_i x;cases h
  refine aq.asked fun hq=>?_
  have h:=Pg x.den m
  refine aq.args (l':=[u32 x.den]) (fun R vs ha=>by
   match vs,ha with
   | [v],ha=>exact ⟨ha.1,trivial⟩) ?_
  intro A hs
  exact h A ⟨fun p hp=>hq p hp,hs⟩
 ·rename_i bs x;cases h
  refine aq.asked fun hq=>?_
  refine aq.args (l':=[l_ bs,u32 x.den]) (fun R vs ha=>by
   match vs,ha with
   | [v,w],ha=>exact ⟨ha.1,ha.2.1,trivial⟩) ?_
  intro A hs
  exact Ph x.den m A ⟨fun p hp=>hq p hp,hs⟩
 ·rename_i bs x;cases h
  refine aq.asked fun hq=>?_
  refine aq.args (l':=[l_ bs,i64 (.o x.den)]) (fun R vs ha=>by
   match vs,ha with
   | [v,w],ha=>exact ⟨ha.1,ha.2.1,trivial⟩) ?_
  intro A hs
  exact RQ x.den m A ⟨fun p hp=>hq p hp,hs⟩
 ·cases h
theorem nR:bf EH:=bf.with aU _ _ XP
section
variable {bs:Array Value}
theorem zZ {cs:Array Value} {p:Nat} {u v:Value} (h:p+2≤cs.size):(putAt cs p [u,v]).size=cs.size∧(putAt cs p [u,v])[p]?=some u∧(putAt cs p [u,v])[p+1]?=some v∧∀ k,k≠p→k≠p+1→(putAt cs p [u,v])[k]?=cs[k]?:=by
 refine ⟨kR (by simpa using h),?_,?_,fun k h1 h2=>kS (by simpa using h) (by simp;omega)⟩
 ·rw [nH (by simpa using h) (Nat.le_refl _) (by simp),Nat.sub_self];rfl
 ·rw [nH (by simpa using h) (by omega) (by simp),show p+1 - p=1 by omega];rfl
theorem Wf {i:Nat} (h:bP bs) (hi:i<32):(jM bs i).size=64:=by
 have:=h.sz
 unfold jM
 split
 ·rw [pY];exact h.sz
 ·rw [(zZ (by omega)).1];exact h.sz
theorem XQ (h:Int) (m:aj):aq E0 83 [l_ bs,u32 h] m (bu [bP bs,aN h] (.ret (M0 (gH bs h) (bF bs h)) m)):=by
 refine aq.pure aU (by kernel_rfl:E0.fn 83=some Tryz.f83) (by kernel_rfl:Tryz.f83.body=some (Tryz.f83.body.getD .skip)) (by kernel_rfl) (by kernel_rfl) fun hq=>?_
 have hb:bP bs:=hq _ (by simp)
 have hh:aN h:=hq _ (by simp)
 refine (Good.ret [] (bA nR 1000 (acg bs h (gH bs h) (bF bs h)) ?_ (fun s m h=>h) fun _ _ h=>h.elim)).mono fun _ _ h=>h.1
 unfold zR tM
 have hs:=hb.sz
 obtain ⟨s1,s2⟩:=wC hh
 cases hg:bF bs h with
 | false =>
  simp only [hs,hg,gH,Bool.not_false,if_false,q6]
  exact ⟨hb,hh⟩
 | true =>
  have hi:(aP h).toNat<32:=by omega
  have Cb:=hb.ra _ hi
  by_cases c:cw bs (aP h).toNat=8388607
  ·have d:(aa bs ((aP h).toNat*2)==8388607)=true:=by
    have c:aa bs ((aP h).toNat*2)=8388607:=c
    rw [c];rfl
   have e:jM bs (aP h).toNat=bs.setIfInBounds ((aP h).toNat*2+1) (.int .u8 2):=by unfold jM;rw [if_pos c]
   simp only [hs,hg,d,e,gH,Nat.zero_add,pY,Bool.not_true,if_true,q6]
   exact ⟨⟨hb,hh⟩,hh,⟨s1,s2⟩,hb.a _ hi,⟨s1,s2⟩,by omega⟩
  ·have d:(aa bs ((aP h).toNat*2)==8388607)=false:=by
    have c:¬ aa bs ((aP h).toNat*2)=8388607:=c
    simpa using c
   have e:jM bs (aP h).toNat=putAt bs ((aP h).toNat*2) [.int .u32 (cw bs (aP h).toNat+1),.int .u8 0]:=by unfold jM;rw [if_neg c]
   have ea:ah .add .u32 (aa bs ((aP h).toNat*2)) 1=cw bs (aP h).toNat+1:=by
    have afu:0≤aa bs ((aP h).toNat*2)∧aa bs ((aP h).toNat*2)≤8388607:=Cb
    rw [dn,u32_in (by omega) (by omega)];rfl
   have hz:(putAt bs ((aP h).toNat*2) [.int .u32 (cw bs (aP h).toNat+1),.int .u8 0]).size=64:=by rw [(zZ (by omega)).1];exact hs
   have hl:∀ u v:Value,List.length [u,v]=2:=fun _ _=>rfl
   simp only [hs,hg,d,e,ea,hz,hl,gH,Nat.zero_add,Bool.not_true,if_true,q6]
   exact ⟨⟨hb,hh⟩,hh,⟨s1,s2⟩,hb.a _ hi,⟨s1,s2⟩,hb.a _ hi,⟨s1,s2⟩,by omega⟩
theorem CA (k i:Nat):tH bs (k+1) i=if cB bs i=0 then some i else tH bs k (i+1):=rfl
theorem aci (hb:bP bs) {zz:Array Value} (hz:zz.size=64):∀ (k i:Nat),i+k=32→tH bs k i=mE bs→Good Tryz.prog (bM 0 [] (FD (fE bs) (ct bs) (ir bs)) aT) 0 (BA bs (i:Int) zz) (BB bs (i:Int) zz):=by
 have hs:=hb.sz
 intro k
 induction k with
 | zero =>
  intro i hi hf
  refine bD nR 1000 (Us bs (i:Int) zz (fE bs) (ct bs) (ir bs) (fun _ _=>False)) ?_ (fun _ _ h=>h) (fun fs m hb=>I9 (fun _ _ h=>h.elim) hb)
  unfold r_
  have d:decide ((i:Int)<32)=false:=decide_eq_false (by omega)
  have e:mE bs=none:=hf.symm
  have e1:fE bs=bs:=by unfold fE;rw [e]
  have e2:ct bs=0:=by unfold ct;rw [e]
  have e3:ir bs=false:=by unfold ir;rw [e];rfl
  simp only [d,e1,e2,e3,hs,hz,q6]
 | succ k ih =>
  intro i hi hf
  refine bD nR 1000 (Us bs (i:Int) zz (fE bs) (ct bs) (ir bs) (fun i' z'=>i'=((i+1:Nat):Int)∧z'=zz∧cB bs i≠0)) ?_ (fun _ _ h=>h)
   (fun fs m hb=>I9 (fun i' z' ⟨h1,h2,h3⟩=>by rw [h1,h2];exact ih (i+1) (by omega) (by rw [← hf,CA,if_neg h3])) hb)
  unfold r_
  have d:decide ((i:Int)<32)=true:=decide_eq_true (by omega)
  have ei:ah .add .i64 (i:Int) 1=((i+1:Nat):Int):=by rw [dn,cC (by omega) (by omega)];omega
  have BE:i<32:=by omega
  by_cases c:cB bs i=0
  ·have d1:(aa bs (i*2+1)==0)=true:=by
    have c:aa bs (i*2+1)=0:=c
    rw [c];rfl
   have e:mE bs=some i:=by rw [← hf,CA,if_pos c]
   have e1:fE bs=bs.setIfInBounds (i*2+1) (.int .u8 1):=by unfold fE;rw [e]
   have e2:ct bs=cW i (cw bs i):=by unfold ct;rw [e]
   have e3:ir bs=true:=by unfold ir;rw [e];rfl
   have ha:aa (bs.setIfInBounds (i*2+1) (.int .u8 1)) (i*2)=cw bs i:=by unfold cw aa;rw [mz (by omega)]
   have hia:aA .u32 (bs.setIfInBounds (i*2+1) (.int .u8 1)) (i*2):=by
    have:=hb.a i BE
    unfold aA aa at this ⊢
    rw [mz (by omega)];exact this
   have en:=Oo BE (hb.ra i BE)
   simp only [d,d1,e1,e2,e3,hs,hz,ha,en,Nat.zero_add,Int.toNat_natCast,pY,q6]
   exact ⟨by omega,hb.k i BE,by omega,by omega,by omega,hia⟩
  ·have d1:(aa bs (i*2+1)==0)=false:=by
    have c:¬ aa bs (i*2+1)=0:=c
    simpa using c
   simp only [d,d1,ei,Nat.zero_add,Int.toNat_natCast,Pj,q6]
   exact ⟨by omega,hb.k i BE,c⟩
theorem WG (m:aj):aq E0 82 [l_ bs] m (bu [bP bs] (.ret (FD (fE bs) (ct bs) (ir bs)) m)):=by
 refine aq.pure aU (by kernel_rfl:E0.fn 82=some Tryz.f82) (by kernel_rfl:Tryz.f82.body=some (Tryz.f82.body.getD .skip)) (by kernel_rfl) (by kernel_rfl) fun hq=>?_
 have hb:bP bs:=hq _ (by simp)
 refine (Good.ret [] (bA nR 1000 (aaD bs (fun i zz=>i=((0:Nat):Int)∧zz.size=64)) ?_ (fun s m h=>h.elim) fun fs m h=>aaC (fun i zz ⟨e1,e2⟩=>by rw [e1];exact aci hb e2 32 0 (by omega) rfl) h)).mono fun _ _ h=>h.1
 unfold CV
 simp only [and_true,true_and,Pj,lz]
 exact ⟨rfl,rfl⟩
def aL (l:List Int):Array Value:=(l.map (Value.int .u32)).toArray
theorem pW (l:List Int):(aL l).size=l.length:=by unfold aL;rw [List.size_toArray,List.length_map]
theorem pZ (l:List Int) (x:Int):aL (l++[x])=aL l++#[.int .u32 x]:=by unfold aL;simp
def fJ (bs:Array Value):Nat→List Int
 | 0=>[]
 | i+1=>if cB bs i=1 then fJ bs i++[cW i (cw bs i)] else fJ bs i
theorem Dj:∀ n,(fJ bs n).length≤n
 | 0=>Nat.le_refl _
 | n+1=>by
  have:=Dj n
  unfold fJ
  split
  ·rw [List.length_append];show _+1≤_;omega
  ·omega
def d_ (bs:Array Value):List Int:=fJ bs 32
theorem L0 {i:Nat} (hi:i<32):jm bs (i:Int)=decide (cB bs i=1)∧(cB bs i=1→jB bs (i:Int)=cW i (cw bs i)):=by
 have e:jm bs (i:Int)=decide (cB bs i=1):=by unfold jm;rw [decide_eq_true (by omega),Bool.true_and,Int.toNat_natCast]
 refine ⟨e,fun h=>?_⟩
 unfold jB
 rw [e,decide_eq_true h,if_pos rfl,Int.toNat_natCast]
theorem mu (i:Nat):fJ bs (i+1)=if cB bs i=1 then fJ bs i++[cW i (cw bs i)] else fJ bs i:=rfl
theorem Pk (bs:Array Value) {i j:Nat} (h:i≤j) (e:fJ bs j=[]):fJ bs i=[]:=by
 induction j with
 | zero =>
  obtain rfl:i=0:=by omega
  exact e
 | succ j ih =>
  by_cases c:i=j+1
  ·rw [c];exact e
  ·refine ih (by omega) ?_
   rw [mu] at e
   split at e
   ·simp at e
   ·exact e
theorem acj (hb:bP bs):∀ (k i:Nat),i+k=32→Good Tryz.prog (dL (d_ bs).length (aL (d_ bs)) 30) 0 (BC bs (i:Int) (fJ bs i).length (aL (fJ bs i))) (BD bs (i:Int) (fJ bs i).length (aL (fJ bs i))):=by
 have hs:=hb.sz
 intro k
 induction k with
 | zero =>
  intro i hi
  obtain rfl:i=32:=by omega
  refine bD nR 1000 (S3 bs ((32:Nat):Int) _ _ (d_ bs).length (aL (d_ bs)) (fun _ _ _=>False)) ?_ (fun _ _ h=>h) (fun fs m hb=>I_ (fun _ _ _ h=>h.elim) hb)
  have d:decide (((32:Nat):Int)<32)=false:=rfl
  simp only [d,d_,q6]
 | succ k ih =>
  intro i hi
  refine bD nR 1000 (S3 bs (i:Int) _ _ (d_ bs).length (aL (d_ bs)) (fun i' k' c'=>i'=((i+1:Nat):Int)∧k'=(fJ bs (i+1)).length∧c'=aL (fJ bs (i+1)))) ?_ (fun _ _ h=>h)
   (fun fs m hb=>I_ (fun i' k' c' ⟨e1,e2,e3⟩=>by rw [e1,e2,e3];exact ih (i+1) (by omega)) hb)
  have d:decide ((i:Int)<32)=true:=decide_eq_true (by omega)
  have ei:ah .add .i64 (i:Int) 1=((i+1:Nat):Int):=by rw [dn,cC (by omega) (by omega)];omega
  obtain ⟨a1,a2⟩:=L0 (bs:=bs) (i:=i) (by omega)
  have hle:=Dj (bs:=bs) i
  by_cases c:cB bs i=1
  ·simp only [d,ei,a1,a2 c,hs,c,decide_true,pW,Nat.mul_one,mu,if_true,List.length_append,List.length_cons,List.length_nil,pZ,tI,zx,q6]
   exact ⟨hb,by omega⟩
  ·simp only [d,ei,a1,hs,c,decide_false,mu,if_false,tI,zx,q6]
   exact hb
theorem H_ {A:SV→aj→Prop} {QZ:Int→Prop} {QS:Int→Nat→Array Value→Prop} {fs:List av} {m:aj} (hz:∀ i,QZ i→Good Tryz.prog A 0 (sI bs i) (sJ bs i)) (hs:∀ i k cs,QS i k cs→Good Tryz.prog A 0 (BC bs i k cs) (BD bs i k cs)) (hb:GG bs QZ QS fs m):Good Tryz.prog A 0 fs m:=by
 unfold GG at hb
 split at hb
 ·split at hb
  ·exact I_ hs hb
  ·exact Qy hz hb
 ·exact hb.elim
theorem adS (hb:bP bs) (hne:d_ bs≠[]):∀ (k i:Nat),i+k=32→fJ bs i=[]→Good Tryz.prog (dL (d_ bs).length (aL (d_ bs)) 30) 0 (sI bs (i:Int)) (sJ bs (i:Int)):=by
 have hs:=hb.sz
 intro k
 induction k with
 | zero =>
  intro i hi he
  obtain rfl:i=32:=by omega
  exact absurd he hne
 | succ k ih =>
  intro i hi he
  refine bD nR 1000 (ach bs (i:Int) (d_ bs).length (aL (d_ bs)) (fun i'=>i'=((i+1:Nat):Int)∧fJ bs (i+1)=[]) (fun i' k' c'=>i'=((i+1:Nat):Int)∧k'=(fJ bs (i+1)).length∧c'=aL (fJ bs (i+1)))) ?_ (fun _ _ h=>h)
   (fun fs m hb'=>H_ (fun i' ⟨e1,e2⟩=>by rw [e1];exact ih (i+1) (by omega) e2) (fun i' k' c' ⟨e1,e2,e3⟩=>by rw [e1,e2,e3];exact acj hb k (i+1) (by omega)) hb')
  have d:decide ((i:Int)<32)=true:=decide_eq_true (by omega)
  have ei:ah .add .i64 (i:Int) 1=((i+1:Nat):Int):=by rw [dn,cC (by omega) (by omega)];omega
  obtain ⟨a1,a2⟩:=L0 (bs:=bs) (i:=i) (by omega)
  by_cases c:cB bs i=1
  ·simp only [d,ei,a1,a2 c,hs,c,he,decide_true,mu,if_true,List.nil_append,List.length_cons,List.length_nil,tI,zx,q6]
   exact ⟨hb,rfl⟩
  ·simp only [d,ei,a1,hs,c,he,decide_false,mu,if_false,tI,zx,q6]
   exact hb
theorem ack (hb:bP bs) (hne:d_ bs=[]):∀ (k i:Nat),i+k=32→Good Tryz.prog FH 0 (sI bs (i:Int)) (sJ bs (i:Int)):=by
 have hs:=hb.sz
 intro k
 induction k with
 | zero =>
  intro i hi
  obtain rfl:i=32:=by omega
  refine bD nR 1000 (S2 bs ((32:Nat):Int) (fun _=>False) (fun _ _ _=>False)) ?_ (fun _ _ h=>h) (fun fs m hb=>H_ (fun _ h=>h.elim) (fun _ _ _ h=>h.elim) hb)
  have d:decide (((32:Nat):Int)<32)=false:=rfl
  simp only [d,q6]
 | succ k ih =>
  intro i hi
  refine bD nR 1000 (S2 bs (i:Int) (fun i'=>i'=((i+1:Nat):Int)) (fun i' k' c'=>False)) ?_ (fun _ _ h=>h)
   (fun fs m hb'=>H_ (fun i' e1=>by rw [e1];exact ih (i+1) (by omega)) (fun _ _ _ h=>h.elim) hb')
  have d:decide ((i:Int)<32)=true:=decide_eq_true (by omega)
  have ei:ah .add .i64 (i:Int) 1=((i+1:Nat):Int):=by rw [dn,cC (by omega) (by omega)];omega
  obtain ⟨a1,a2⟩:=L0 (bs:=bs) (i:=i) (by omega)
  have he:=Pk bs (i:=i+1) (by omega) hne
  have c:¬ cB bs i=1:=by
   intro c
   rw [mu,if_pos c] at he
   simp at he
  simp only [d,ei,a1,hs,c,decide_false,tI,zx,q6]
  exact hb
theorem aq.two {E:Env} {g:FuncId} {l:List SV} {m:aj} {b:Bool} {t e:Tree} (ht:b=true→aq E g l m t) (he:b=false→aq E g l m e):aq E g l m (.br b t e):=by
 intro A hs
 cases hb:b with
 | true=>exact ht hb A (hs.1 hb)
 | false=>exact he hb A (hs.2 hb)
noncomputable def lf (l:List Int) (ty:TypeId) (m:aj):Tree:=.br (decide (l.length=0)) (.ret (.s (.c (.f (.lit (.slice none 0 0))))) m) (.ret (.s (.c (.f (.slice m.next (.l 0) (.o l.length) (.full 1))))) (m.new (.pop (aL l)) ty))
theorem Wg (m:aj):aq E0 95 [l_ bs] m (.need [bP bs] (lf (d_ bs) 30 m)):=by
 refine aq.asked fun hq=>?_
 have hb:bP bs:=hq _ (by simp)
 refine aq.two (fun h=>?_) (fun h=>?_)
 ·have he:d_ bs=[]:=List.eq_nil_of_length_eq_zero (of_decide_eq_true h)
  refine (show aq E0 95 [l_ bs] m (bu [] _) from aq.pure aU (by kernel_rfl:E0.fn 95=some Tryz.f95) (by kernel_rfl:Tryz.f95.body=some (Tryz.f95.body.getD .skip)) (by kernel_rfl) (by kernel_rfl) fun hq=>?_)
  refine (Good.ret (pL:=aT) [] (bA nR 1000 (RS bs (fun i=>i=((0:Nat):Int))) ?_ (fun s m h=>h.elim) fun fs m h=>RR (fun i e=>by rw [e];exact ack hb he 32 0 (by omega)) h)).mono fun _ _ h=>h.1
  simp only [and_true,true_and,tI,lz]
  rfl
 ·have he:d_ bs≠[]:=fun e=>by
   have:=of_decide_eq_false h
   rw [e] at this
   exact this rfl
  refine (show aq E0 95 [l_ bs] m (bu [] _) from aq.fresh aU (by kernel_rfl:E0.fn 95=some Tryz.f95) (by kernel_rfl:Tryz.f95.body=some (Tryz.f95.body.getD .skip)) (by kernel_rfl) rfl fun _=>?_)
  refine Good.ni ((bA nR 1000 (RS bs (fun i=>i=((0:Nat):Int))) ?_ (fun s m h=>h.elim) fun fs m h=>RR (A:=dL (d_ bs).length (aL (d_ bs)) 30) (fun i e=>by rw [e];exact adS hb he 32 0 (by omega) rfl) h).mono fun s m h=>?_)
  ·simp only [and_true,true_and,tI,lz]
   rfl
  ·unfold dL at h
   split at h
   ·exact ⟨_,h⟩
   ·exact h.elim
end
section
variable {bs:Array Value}
theorem lN (hb:bP bs) {h:Int}:bF bs h=true↔∃ i:Nat,i<32∧cB bs i=1∧h=cW i (cw bs i):=by
 unfold bF aP gV cW
 constructor
 ·intro hg
  simp only [Bool.and_eq_true,decide_eq_true_eq] at hg
  obtain ⟨h1,h2,h3⟩:=hg
  rw [if_pos h1] at h2 h3
  exact ⟨((h - 1) % 256).toNat,by omega,h3,by rw [h2];omega⟩
 ·rintro ⟨i,hi,hk,rfl⟩
  have hr:=hb.ra i hi
  have e1:(256*cw bs i+i+1 - 1) % 256=i:=by omega
  have e2:(256*cw bs i+i+1 - 1) / 256=cw bs i:=by omega
  simp only [Bool.and_eq_true,decide_eq_true_eq]
  have h1:256*cw bs i+i+1≠0∧(256*cw bs i+i+1 - 1) % 256<32∧(256*cw bs i+i+1 - 1) / 256≤8388607:=⟨by omega,by omega,by omega⟩
  refine ⟨h1,?_⟩
  rw [if_pos h1,e1,Int.toNat_natCast,e2]
  exact ⟨rfl,hk⟩
theorem wE (hb:bP bs) {h:Int} (hg:bF bs h=true):aN h∧1≤h:=by
 obtain ⟨i,hi,_,rfl⟩:=(lN hb).1 hg
 have:=hb.ra i hi
 unfold aN cW
 omega
theorem wF {i j:Nat} {a b:Int} (hi:i<32) (hj:j<32) (h:cW i a=cW j b):i=j∧a=b:=by
 unfold cW at h
 omega
theorem CW (hb:bP bs) {h:Int}:∀ {n:Nat},h∈fJ bs n↔∃ i:Nat,i<n∧cB bs i=1∧h=cW i (cw bs i)
 | 0=>⟨fun h=>(by cases h),fun ⟨_,h,_⟩=>(by omega)⟩
 | n+1=>by
  rw [mu]
  split
  ·rename_i hk
   rw [List.mem_append,CW hb,List.mem_singleton]
   constructor
   ·rintro (⟨i,h1,h2,h3⟩ | h)
    ·exact ⟨i,by omega,h2,h3⟩
    ·exact ⟨n,by omega,hk,h⟩
   ·rintro ⟨i,h1,h2,h3⟩
    by_cases e:i=n
    ·rw [e] at h3;exact .inr h3
    ·exact .inl ⟨i,by omega,h2,h3⟩
  ·rename_i hk
   rw [CW hb]
   constructor
   ·rintro ⟨i,h1,h2,h3⟩;exact ⟨i,by omega,h2,h3⟩
   ·rintro ⟨i,h1,h2,h3⟩
    by_cases e:i=n
    ·rw [e] at h2;exact absurd h2 hk
    ·exact ⟨i,by omega,h2,h3⟩
theorem Wh (hb:bP bs) {h:Int}:h∈d_ bs↔bF bs h=true:=by
 rw [lN hb];exact CW hb
theorem Hw (hb:bP bs):∀ {n:Nat},n≤32→(fJ bs n).Nodup
 | 0,_=>List.nodup_nil
 | n+1,hn=>by
  rw [mu]
  split
  ·rw [List.nodup_append]
   refine ⟨Hw hb (by omega),by simp,fun a ha b hb'=>?_⟩
   obtain ⟨i,h1,_,h3⟩:=(CW hb).1 ha
   rw [List.mem_singleton] at hb'
   intro e
   rw [h3,hb'] at e
   have:=(wF (by omega) (by omega) e).1
   omega
  ·exact Hw hb (by omega)
theorem zh (hb:bP bs):(d_ bs).Nodup:=Hw hb (Nat.le_refl _)
theorem N6:∀ {k i j:Nat},tH bs k i=some j→i≤j∧j<i+k∧cB bs j=0
 | 0,_,_,h=>by cases h
 | k+1,i,j,h=>by
  rw [CA] at h
  split at h
  ·rename_i hk;cases h;exact ⟨Nat.le_refl _,by omega,hk⟩
  ·obtain ⟨h1,h2,h3⟩:=N6 h;exact ⟨by omega,by omega,h3⟩
theorem Wi {j:Nat} (h:mE bs=some j):j<32∧cB bs j=0:=by
 obtain ⟨_,h2,h3⟩:=N6 (bs:=bs) (k:=32) (i:=0) h
 exact ⟨by omega,h3⟩
theorem wG {i j:Nat} {x:Int} {k:IntKind} (hs:bs.size=64) (hi:i<32):cB (bs.setIfInBounds (i*2+1) (.int k x)) j=if j=i then x else cB bs j:=by
 unfold cB aa
 by_cases e:j=i
 ·rw [if_pos e,e,wT (by omega)]
 ·rw [if_neg e,mz (by omega)]
theorem wM {i j:Nat} {v:Value}:cw (bs.setIfInBounds (i*2+1) v) j=cw bs j:=by
 unfold cw aa
 rw [mz (by omega)]
theorem Jw (hb:bP bs) {i:Nat} {x:Int} (hx:0≤x∧x≤2) (hi:i<32):bP (bs.setIfInBounds (i*2+1) (.int .u8 x)):=by
 have hs:=hb.sz
 refine ⟨by rw [pY];exact hs,fun j hj=>?_,fun j hj=>?_,fun j hj=>by rw [wM];exact hb.ra j hj,fun j hj=>?_⟩
 ·have:=hb.a j hj
  unfold aA aa at this ⊢
  rw [mz (by omega)];exact this
 ·by_cases e:j=i
  ·rw [e];exact bw (wT (by omega))
  ·have:=hb.k j hj
   unfold aA aa at this ⊢
   rw [mz (by omega)];exact this
 ·rw [wG hs hi]
  split
  ·exact hx
  ·exact hb.rk j hj
theorem rJ:(mE bs=none∧fE bs=bs∧ct bs=0∧ir bs=false)∨∃ i,i<32∧cB bs i=0∧fE bs=bs.setIfInBounds (i*2+1) (.int .u8 1)∧ct bs=cW i (cw bs i)∧ir bs=true∧mE bs=some i:=by
 unfold fE ct ir
 cases h:mE bs with
 | none=>exact .inl ⟨rfl,rfl,rfl,rfl⟩
 | some i =>
  obtain ⟨h1,h2⟩:=Wi h
  exact .inr ⟨i,h1,h2,rfl,rfl,rfl,rfl⟩
theorem CX (hb:bP bs):bP (fE bs):=by
 rcases rJ (bs:=bs) with ⟨_,e,_⟩ | ⟨i,h1,_,e,_⟩
 ·rw [e];exact hb
 ·rw [e];exact Jw hb (by omega) h1
theorem Wj (hb:bP bs) (h:Int):bF (fE bs) h=(bF bs h||(ir bs&&decide (h=ct bs))):=by
 rcases rJ (bs:=bs) with ⟨_,e1,_,e3⟩ | ⟨i,h1,h2,e1,e2,e3,_⟩
 ·rw [e1,e3];simp
 ·rw [e1,e2,e3,Bool.eq_iff_iff,lN (Jw hb (by omega) h1),Bool.or_eq_true,lN hb,Bool.true_and,decide_eq_true_eq]
  simp only [wG hb.sz h1,wM]
  constructor
  ·rintro ⟨j,hj,hk,e⟩
   by_cases c:j=i
   ·rw [c] at e;exact .inr e
   ·rw [if_neg c] at hk;exact .inl ⟨j,hj,hk,e⟩
  ·rintro (⟨j,hj,hk,e⟩ | e)
   ·refine ⟨j,hj,?_,e⟩
    rw [if_neg (fun c=>by rw [c] at hk;omega)];exact hk
   ·exact ⟨i,h1,by rw [if_pos rfl],e⟩
theorem zk (hs:bs.size=64) {i j:Nat} (hi:i<32):cB (jM bs i) j=if j=i then (if cw bs i=8388607 then 2 else 0) else cB bs j:=by
 unfold jM
 by_cases c:cw bs i=8388607
 ·rw [if_pos c,wG hs hi,if_pos c]
 ·rw [if_neg c,if_neg c]
  unfold cB aa
  obtain ⟨_,_,h2,h3⟩:=zZ (cs:=bs) (p:=i*2) (u:=.int .u32 (cw bs i+1)) (v:=.int .u8 0) (by omega)
  by_cases e:j=i
  ·rw [if_pos e,e,h2]
  ·rw [if_neg e,h3 _ (by omega) (by omega)]
theorem zy (hs:bs.size=64) {i j:Nat} (hi:i<32):cw (jM bs i) j=if j=i then (if cw bs i=8388607 then cw bs i else cw bs i+1) else cw bs j:=by
 unfold jM
 by_cases c:cw bs i=8388607
 ·rw [if_pos c,wM,if_pos c]
  split
  ·rename_i e;rw [e]
  ·rfl
 ·rw [if_neg c,if_neg c]
  obtain ⟨_,h1,_,h3⟩:=zZ (cs:=bs) (p:=i*2) (u:=.int .u32 (cw bs i+1)) (v:=.int .u8 0) (by omega)
  by_cases e:j=i
  ·rw [if_pos e,e]
   show aa _ _=_
   unfold aa
   rw [h1]
  ·rw [if_neg e]
   show aa _ _=aa _ _
   unfold aa
   rw [h3 _ (by omega) (by omega)]
theorem Pm (hb:bP bs) {i:Nat} (hi:i<32):bP (jM bs i):=by
 have hs:=hb.sz
 by_cases c:cw bs i=8388607
 ·have e:jM bs i=bs.setIfInBounds (i*2+1) (.int .u8 2):=by unfold jM;rw [if_pos c]
  rw [e];exact Jw hb (by omega) hi
 ·have e:jM bs i=putAt bs (i*2) [.int .u32 (cw bs i+1),.int .u8 0]:=by unfold jM;rw [if_neg c]
  obtain ⟨_,h1,h2,h3⟩:=zZ (cs:=bs) (p:=i*2) (u:=.int .u32 (cw bs i+1)) (v:=.int .u8 0) (by omega)
  have Cb:=hb.ra i hi
  refine ⟨Wf hb hi,fun j hj=>?_,fun j hj=>?_,fun j hj=>?_,fun j hj=>?_⟩
  ·rw [e]
   by_cases k:j=i
   ·rw [k];exact bw h1
   ·have:=hb.a j hj
    unfold aA aa at this ⊢
    rw [h3 _ (by omega) (by omega)];exact this
  ·rw [e]
   by_cases k:j=i
   ·rw [k];exact bw h2
   ·have:=hb.k j hj
    unfold aA aa at this ⊢
    rw [h3 _ (by omega) (by omega)];exact this
  ·rw [zy hs hi,if_neg c]
   split
   ·omega
   ·exact hb.ra j hj
  ·rw [zk hs hi,if_neg c]
   split
   ·omega
   ·exact hb.rk j hj
theorem rK {i:Nat} {a:Int} (hi:i<32) (ha:0≤a∧a≤8388607):(aP (cW i a)).toNat=i:=by
 unfold aP gV cW
 rw [if_pos (by rw [decide_eq_true_eq];omega)]
 omega
theorem CC (hb:bP bs) (x:Int):(bF bs x=false∧gH bs x=bs)∨∃ i,i<32∧cB bs i=1∧x=cW i (cw bs i)∧bF bs x=true∧gH bs x=jM bs i:=by
 unfold gH
 cases hg:bF bs x with
 | false=>exact .inl ⟨rfl,rfl⟩
 | true =>
  obtain ⟨i,hi,hk,e⟩:=(lN hb).1 hg
  refine .inr ⟨i,hi,hk,e,rfl,?_⟩
  rw [if_pos rfl,e,rK hi (hb.ra i hi)]
theorem Dk (hb:bP bs) (x:Int):bP (gH bs x):=by
 rcases CC hb x with ⟨_,e⟩ | ⟨i,hi,_,_,_,e⟩
 ·rw [e];exact hb
 ·rw [e];exact Pm hb hi
theorem WH (hb:bP bs) (x h:Int):bF (gH bs x) h=(bF bs h&&!decide (h=x)):=by
 rcases CC hb x with ⟨hg,e⟩ | ⟨i,hi,hk,ex,hg,e⟩
 ·rw [e]
  by_cases c:h=x
  ·rw [c,hg];rfl
  ·rw [decide_eq_false c];simp
 ·rw [e,Bool.eq_iff_iff,lN (Pm hb hi),Bool.and_eq_true,lN hb,Bool.not_eq_true',decide_eq_false_iff_not]
  have hs:=hb.sz
  constructor
  ·rintro ⟨j,hj,hk',e'⟩
   rw [zk hs hi] at hk'
   by_cases c:j=i
   ·rw [if_pos c] at hk'
    split at hk' <;> omega
   ·rw [if_neg c] at hk'
    rw [zy hs hi,if_neg c] at e'
    refine ⟨⟨j,hj,hk',e'⟩,fun e2=>?_⟩
    rw [e2,ex] at e'
    exact c (wF hj hi e'.symm).1
  ·rintro ⟨⟨j,hj,hk',e'⟩,hne⟩
   have c:j≠i:=fun c=>hne (by rw [e',ex,c])
   exact ⟨j,hj,by rw [zk hs hi,if_neg c];exact hk',by rw [zy hs hi,if_neg c];exact e'⟩
def jw (bs:Array Value) (h:Int):Prop:=∃ (i:Nat) (a:Int),i<32∧0≤a∧h=cW i a∧(a<cw bs i∨(a=cw bs i∧cB bs i≠0))
theorem Hv (hb:bP bs) {h:Int} (hu:jw bs h):jw (fE bs) h:=by
 rcases rJ (bs:=bs) with ⟨_,e,_⟩ | ⟨i,h1,_,e,_⟩
 ·rw [e];exact hu
 ·obtain ⟨j,a,hj,ha,rfl,hc⟩:=hu
  refine ⟨j,a,hj,ha,rfl,?_⟩
  rw [e,wM,wG hb.sz h1]
  rcases hc with hc | ⟨h2,h3⟩
  ·exact .inl hc
  ·refine .inr ⟨h2,?_⟩
   split
   ·omega
   ·exact h3
theorem H9 (hb:bP bs) (ho:ir bs=true):jw (fE bs) (ct bs)∧¬ jw bs (ct bs):=by
 rcases rJ (bs:=bs) with ⟨_,_,_,e3⟩ | ⟨i,h1,h2,e1,e2,e3,_⟩
 ·rw [ho] at e3;cases e3
 ·have hr:=hb.ra i h1
  refine ⟨⟨i,cw bs i,h1,hr.1,e2,.inr ⟨by rw [e1,wM],by rw [e1,wG hb.sz h1,if_pos rfl];omega⟩⟩,?_⟩
  rintro ⟨j,a,hj,ha,e,hc⟩
  rw [e2] at e
  obtain ⟨rfl,rfl⟩:=wF h1 hj e
  rcases hc with hc | ⟨_,hc⟩
  ·omega
  ·exact hc h2
theorem Om (hb:bP bs) {x h:Int} (hu:jw bs h):jw (gH bs x) h:=by
 rcases CC hb x with ⟨_,e⟩ | ⟨i,hi,hk,ex,_,e⟩
 ·rw [e];exact hu
 ·obtain ⟨j,a,hj,ha,rfl,hc⟩:=hu
  refine ⟨j,a,hj,ha,rfl,?_⟩
  rw [e,zy hb.sz hi,zk hb.sz hi]
  by_cases c:j=i
  ·rw [if_pos c,if_pos c]
   subst c
   by_cases d:cw bs j=8388607
   ·rw [if_pos d,if_pos d]
    rcases hc with hc | ⟨h2,_⟩
    ·exact .inl hc
    ·exact .inr ⟨h2,by omega⟩
   ·rw [if_neg d,if_neg d]
    rcases hc with hc | ⟨h2,_⟩
    ·exact .inl (by omega)
    ·exact .inl (by omega)
  ·rw [if_neg c,if_neg c];exact hc
end
set_option linter.unusedVariables false
noncomputable def zT:Array Value:=((List.replicate 32 [Value.int .u32 0,Value.int .u8 0]).flatten++(List.replicate 32 [Value.int .u32 0,Value.int .i64 0,Value.slice none 0 0,Value.int .i64 0,Value.int .u32 0,Value.int .u32 0,Value.int .u32 0,Value.int .u32 0,Value.int .u32 0,Value.int .u32 0,Value.int .u32 0,Value.int .u32 0]).flatten).toArray
theorem uk:zT.size=448:=by kernel_rfl
def aF (ts:Array Value):Array Value:=ts.extract 0 64
noncomputable def bB (ts:Array Value):SV:=.s (.agg (.op ts))
structure lg (ts:Array Value) (p:Nat):Prop where
 u:aA .u32 ts p
 q:aA .i64 ts (p+1)
 r:Bn ts (p+2)
 l:aA .i64 ts (p+3)
 c:∀ k,k<8→aA .u32 ts (p+4+k)
 hu:aN (aa ts p)
 hq:0≤aa ts (p+1)∧aa ts (p+1)≤64
 hl:aa ts (p+3)=0
 hc:∀ k,k<8→aN (aa ts (p+4+k))
structure aM (ts:Array Value):Prop where
 sz:ts.size=448
 bk:bP (aF ts)
 rg:∀ i,i<32→lg ts (64+i*12)
noncomputable def Fw (g:FuncId) (l:List SV) (m:aj):Option Tree:=match g,l with
 | 40,[.s (.c (.f (.int .u32 h)))]=>some (.need [aN h.den] (.ret (GD (aP h.den) (gV h.den)) m))
 | 57,[.s (.agg (.op bs)),.s (.c (.f (.int .u32 h)))]=>some (.need [bP bs,aN h.den] (.ret (sB (.o (bF bs h.den))) m))
 | 103,[.s (.agg (.op bs)),.s (.c (.f (.int .i64 i)))]=>some (.need [bP bs] (.ret (GF (jB bs i.den) (jm bs i.den)) m))
 | 83,[.s (.agg (.op bs)),.s (.c (.f (.int .u32 h)))]=>some (.need [bP bs,aN h.den] (.ret (M0 (gH bs h.den) (bF bs h.den)) m))
 | 82,[.s (.agg (.op bs))]=>some (.need [bP bs] (.ret (FD (fE bs) (ct bs) (ir bs)) m))
 | 95,[.s (.agg (.op bs))]=>some (.need [bP bs] (lf (d_ bs) 30 m))
 | _,_=>none
noncomputable def Cw:Env:=⟨Tryz.prog,dg,Fw,dy []⟩
noncomputable def fu (o:Array Value) (e:Int):SV:=.bW [.agg (.op o),.c (.f (.int .i64 (.o e)))]
set_option maxRecDepth 100000
theorem tg0 (ts:Array Value) (h:Int) (o:Array Value) (e:Int):(run Cw 1000 0 [a_ 31 Tryz.f31.ntmps [bB ts,u32 h] (Tryz.f31.body.getD .skip)] aT).vc (bM 0 [] (fu o e) aT) (fun _ _=>False) =
  ((64≤ts.size∧True)∧(bP (Array.extract ts 0 64)∧(0≤h∧h<4294967296)∧True)∧((!bF (Array.extract ts 0 64) h)=true→o=#[Value.int .u32 0,Value.int .i64 0,Value.slice none 0 0,Value.int .i64 0,Value.int .u32 0,Value.int .u32 0,Value.int .u32 0,Value.int .u32 0,Value.int .u32 0,Value.int .u32 0,Value.int .u32 0,Value.int .u32 0]∧e=4∧True)∧((!bF (Array.extract ts 0 64) h)=false→((0≤h∧h<4294967296)∧True)∧((0≤aP h∧aP h<32)∧True)∧(aA .u32 ts (64+(aP h).toNat*12)∧aA .i64 ts (64+(aP h).toNat*12+1)∧ts[64+(aP h).toNat*12+2]?=some (Value.slice none 0 0)∧aA .i64 ts (64+(aP h).toNat*12+3)∧aA .u32 ts (64+(aP h).toNat*12+4)∧aA .u32 ts (64+(aP h).toNat*12+5)∧aA .u32 ts (64+(aP h).toNat*12+6)∧aA .u32 ts (64+(aP h).toNat*12+7)∧aA .u32 ts (64+(aP h).toNat*12+8)∧aA .u32 ts (64+(aP h).toNat*12+9)∧aA .u32 ts (64+(aP h).toNat*12+10)∧aA .u32 ts (64+(aP h).toNat*12+11)∧True)∧((0≤h∧h<4294967296)∧True)∧((0≤aP h∧aP h<32)∧True)∧(aA .u32 ts (64+(aP h).toNat*12)∧True)∧(64≤ts.size∧True)∧(bP (Array.extract ts 0 64)∧(0≤aa ts (64+(aP h).toNat*12)∧aa ts (64+(aP h).toNat*12)<4294967296)∧True)∧(bF (Array.extract ts 0 64) (aa ts (64+(aP h).toNat*12))=true→o=#[Value.int .u32 (aa ts (64+(aP h).toNat*12)),Value.int .i64 (aa ts (64+(aP h).toNat*12+1)),Value.slice none 0 0,Value.int .i64 (aa ts (64+(aP h).toNat*12+3)),Value.int .u32 (aa ts (64+(aP h).toNat*12+4)),Value.int .u32 (aa ts (64+(aP h).toNat*12+5)),Value.int .u32 (aa ts (64+(aP h).toNat*12+6)),Value.int .u32 (aa ts (64+(aP h).toNat*12+7)),Value.int .u32 (aa ts (64+(aP h).toNat*12+8)),Value.int .u32 (aa ts (64+(aP h).toNat*12+9)),Value.int .u32 (aa ts (64+(aP h).toNat*12+10)),Value.int .u32 (aa ts (64+(aP h).toNat*12+11))]∧e=0∧True)∧(bF (Array.extract ts 0 64) (aa ts (64+(aP h).toNat*12))=false→o=#[Value.int .u32 0,Value.int .i64 (aa ts (64+(aP h).toNat*12+1)),Value.slice none 0 0,Value.int .i64 (aa ts (64+(aP h).toNat*12+3)),Value.int .u32 (aa ts (64+(aP h).toNat*12+4)),Value.int .u32 (aa ts (64+(aP h).toNat*12+5)),Value.int .u32 (aa ts (64+(aP h).toNat*12+6)),Value.int .u32 (aa ts (64+(aP h).toNat*12+7)),Value.int .u32 (aa ts (64+(aP h).toNat*12+8)),Value.int .u32 (aa ts (64+(aP h).toNat*12+9)),Value.int .u32 (aa ts (64+(aP h).toNat*12+10)),Value.int .u32 (aa ts (64+(aP h).toNat*12+11))]∧e=0∧True))):=by kernel_rfl
noncomputable def iC (ts:Array Value) (h:Int) (rr:Array Value):Array Value:=Array.setIfInBounds (Array.setIfInBounds rr 0 (Value.int .u32 (aa ts (64+(aP h).toNat*12)))) (2:Nat) (Value.slice none 0 0)
noncomputable def uX (ts:Array Value) (h:Int) (rr:Array Value):List Value:=[Value.int .u32 (aa (iC ts h rr) 0),Value.int .i64 (aa (iC ts h rr) 1),Value.slice none 0 0,Value.int .i64 (aa (iC ts h rr) 3),Value.int .u32 (aa (iC ts h rr) 4),Value.int .u32 (aa (iC ts h rr) 5),Value.int .u32 (aa (iC ts h rr) 6),Value.int .u32 (aa (iC ts h rr) 7),Value.int .u32 (aa (iC ts h rr) 8),Value.int .u32 (aa (iC ts h rr) 9),Value.int .u32 (aa (iC ts h rr) 10),Value.int .u32 (aa (iC ts h rr) 11)]
def xV (ts:Array Value):Prop:=ts.size=448∧ts.size=448∧True
theorem tt0 (ts:Array Value) (h:Int) (rr o:Array Value) (e:Int):(run Cw 1000 0 [a_ 33 Tryz.f33.ntmps [bB ts,u32 h,bB rr] (Tryz.f33.body.getD .skip)] aT).vc (bM 0 [] (fu o e) aT) (fun _ _=>False) =
  ((64≤ts.size∧True)∧(bP (Array.extract ts 0 64)∧(0≤h∧h<4294967296)∧True)∧((!bF (Array.extract ts 0 64) h)=true→(ts.size=448∧True)∧(xV ts)∧(ts.size=448∧True)∧o=ts∧e=4∧True)∧((!bF (Array.extract ts 0 64) h)=false→(aA .i64 rr 1∧True)∧((decide (aa rr 1≥0)==true)=true→(((!decide (aa rr 1≤64))==false)=true→(rr[(2:Nat)]?=some (Value.slice none 0 0)∧aA .i64 rr 3∧True)∧((decide (aa rr 3≥0)==true)=true→((!decide (aa rr 3≤0))=true→(ts.size=448∧True)∧(xV ts)∧(ts.size=448∧True)∧o=ts∧e=2∧True)∧((!decide (aa rr 3≤0))=false→((0≤h∧h<4294967296)∧True)∧((0≤aP h∧aP h<32)∧True)∧(aA .u32 ts (64+(aP h).toNat*12)∧True)∧(0<rr.size∧True)∧((Array.setIfInBounds rr 0 (Value.int .u32 (aa ts (64+(aP h).toNat*12))))[(2:Nat)]?=some (Value.slice none 0 0)∧True)∧(2<(Array.setIfInBounds rr 0 (Value.int .u32 (aa ts (64+(aP h).toNat*12)))).size∧True)∧((0≤h∧h<4294967296)∧True)∧((0≤aP h∧aP h<32)∧True)∧(aA .u32 (iC ts h rr) 0∧aA .i64 (iC ts h rr) 1∧(iC ts h rr)[(2:Nat)]?=some (Value.slice none 0 0)∧aA .i64 (iC ts h rr) 3∧aA .u32 (iC ts h rr) 4∧aA .u32 (iC ts h rr) 5∧aA .u32 (iC ts h rr) 6∧aA .u32 (iC ts h rr) 7∧aA .u32 (iC ts h rr) 8∧aA .u32 (iC ts h rr) 9∧aA .u32 (iC ts h rr) 10∧aA .u32 (iC ts h rr) 11∧True)∧(64+(aP h).toNat*12+(uX ts h rr).length≤ts.size∧True)∧((putAt ts (64+(aP h).toNat*12) (uX ts h rr)).size=448∧True)∧((putAt ts (64+(aP h).toNat*12) (uX ts h rr)).size=448∧(putAt ts (64+(aP h).toNat*12) (uX ts h rr)).size=448∧True)∧((putAt ts (64+(aP h).toNat*12) (uX ts h rr)).size=448∧True)∧o=putAt ts (64+(aP h).toNat*12) (uX ts h rr)∧e=0∧True))∧((decide (aa rr 3≥0)==true)=false→(ts.size=448∧True)∧(xV ts)∧(ts.size=448∧True)∧o=ts∧e=2∧True))∧(((!decide (aa rr 1≤64))==false)=false→(ts.size=448∧True)∧(xV ts)∧(ts.size=448∧True)∧o=ts∧e=2∧True))∧((decide (aa rr 1≥0)==true)=false→(ts.size=448∧True)∧(xV ts)∧(ts.size=448∧True)∧o=ts∧e=2∧True))):=by kernel_rfl
noncomputable def Lq:List Value:=[Value.int .u32 0,Value.int .i64 0,Value.slice none 0 0,Value.int .i64 0,Value.int .u32 0,Value.int .u32 0,Value.int .u32 0,Value.int .u32 0,Value.int .u32 0,Value.int .u32 0,Value.int .u32 0,Value.int .u32 0]
noncomputable def Bv (ts:Array Value) (h:Int):Array Value:=putAt (putAt ts 0 (Array.toList (gH (Array.extract ts 0 64) h))) (64+(aP h).toNat*12) (Lq)
noncomputable def nW (ts:Array Value):Array Value:=Array.extract ts 0 64
theorem td0 (ts:Array Value) (h:Int) (o:Array Value) (e:Int):(run Cw 1000 0 [a_ 59 Tryz.f59.ntmps [bB ts,u32 h] (Tryz.f59.body.getD .skip)] aT).vc (bM 0 [] (fu o e) aT) (fun _ _=>False) =
  ((64≤ts.size∧True)∧(bP (nW ts)∧(0≤h∧h<4294967296)∧True)∧((gH (nW ts) h).size=64∧(gH (nW ts) h).size=64∧True)∧((!bF (nW ts) h)=true→(ts.size=448∧True)∧(ts.size=448∧ts.size=448∧True)∧(ts.size=448∧True)∧o=ts∧e=4∧True)∧((!bF (nW ts) h)=false→((gH (nW ts) h).size=64∧True)∧((gH (nW ts) h).size=64∧0+(gH (nW ts) h).size≤ts.size∧True)∧((0≤h∧h<4294967296)∧True)∧((0≤aP h∧aP h<32)∧True)∧(64+(aP h).toNat*12+12≤(putAt ts 0 (Array.toList (gH (nW ts) h))).size∧True)∧((Bv ts h).size=448∧True)∧((Bv ts h).size=448∧(Bv ts h).size=448∧True)∧((Bv ts h).size=448∧True)∧o=putAt (putAt ts 0 (Array.toList (gH (nW ts) h))) (64+(aP h).toNat*12) (Lq)∧e=0∧True)):=by kernel_rfl
def Lr (ts:Array Value) (h:Int) (q:Int) (o:Array Value) (k:Int) (e:Int):Prop:=(decide (q≥0)==true)=true→((!decide (q≤64))=true→(ts.size=448∧True)∧(ts.size=448∧ts.size=448∧True)∧(ts.size=448∧True)∧o=ts∧k=0∧e=2∧True)∧((!decide (q≤64))=false→(64≤ts.size∧True)∧(bP (Array.extract ts 0 64)∧True)∧((fE (Array.extract ts 0 64)).size=64∧(fE (Array.extract ts 0 64)).size=64∧True)∧((!ir (Array.extract ts 0 64))=true→(ts.size=448∧True)∧(ts.size=448∧ts.size=448∧True)∧(ts.size=448∧True)∧o=ts∧k=0∧e=7∧True)∧((!ir (Array.extract ts 0 64))=false→((fE (Array.extract ts 0 64)).size=64∧True)∧((fE (Array.extract ts 0 64)).size=64∧0+(fE (Array.extract ts 0 64)).size≤ts.size∧True)∧((0≤ct (Array.extract ts 0 64)∧ct (Array.extract ts 0 64)<4294967296)∧True)∧((0≤aP (ct (Array.extract ts 0 64))∧aP (ct (Array.extract ts 0 64))<32)∧True)∧(64+(aP (ct (Array.extract ts 0 64))).toNat*12+List.length [Value.int .u32 h,Value.int .i64 q,Value.slice none 0 0,Value.int .i64 0,Value.int .u32 0,Value.int .u32 0,Value.int .u32 0,Value.int .u32 0,Value.int .u32 0,Value.int .u32 0,Value.int .u32 0,Value.int .u32 0]≤(putAt ts 0 (Array.toList (fE (Array.extract ts 0 64)))).size∧True)∧((putAt (putAt ts 0 (Array.toList (fE (Array.extract ts 0 64)))) (64+(aP (ct (Array.extract ts 0 64))).toNat*12) [Value.int .u32 h,Value.int .i64 q,Value.slice none 0 0,Value.int .i64 0,Value.int .u32 0,Value.int .u32 0,Value.int .u32 0,Value.int .u32 0,Value.int .u32 0,Value.int .u32 0,Value.int .u32 0,Value.int .u32 0]).size=448∧True)∧((putAt (putAt ts 0 (Array.toList (fE (Array.extract ts 0 64)))) (64+(aP (ct (Array.extract ts 0 64))).toNat*12) [Value.int .u32 h,Value.int .i64 q,Value.slice none 0 0,Value.int .i64 0,Value.int .u32 0,Value.int .u32 0,Value.int .u32 0,Value.int .u32 0,Value.int .u32 0,Value.int .u32 0,Value.int .u32 0,Value.int .u32 0]).size=448∧(putAt (putAt ts 0 (Array.toList (fE (Array.extract ts 0 64)))) (64+(aP (ct (Array.extract ts 0 64))).toNat*12) [Value.int .u32 h,Value.int .i64 q,Value.slice none 0 0,Value.int .i64 0,Value.int .u32 0,Value.int .u32 0,Value.int .u32 0,Value.int .u32 0,Value.int .u32 0,Value.int .u32 0,Value.int .u32 0,Value.int .u32 0]).size=448∧True)∧((putAt (putAt ts 0 (Array.toList (fE (Array.extract ts 0 64)))) (64+(aP (ct (Array.extract ts 0 64))).toNat*12) [Value.int .u32 h,Value.int .i64 q,Value.slice none 0 0,Value.int .i64 0,Value.int .u32 0,Value.int .u32 0,Value.int .u32 0,Value.int .u32 0,Value.int .u32 0,Value.int .u32 0,Value.int .u32 0,Value.int .u32 0]).size=448∧True)∧o=putAt (putAt ts 0 (Array.toList (fE (Array.extract ts 0 64)))) (64+(aP (ct (Array.extract ts 0 64))).toNat*12) [Value.int .u32 h,Value.int .i64 q,Value.slice none 0 0,Value.int .i64 0,Value.int .u32 0,Value.int .u32 0,Value.int .u32 0,Value.int .u32 0,Value.int .u32 0,Value.int .u32 0,Value.int .u32 0,Value.int .u32 0]∧k=ct (Array.extract ts 0 64)∧e=0∧True))
def Ls (ts:Array Value) (q:Int) (o:Array Value) (k:Int) (e:Int):Prop:=(decide (q≥0)==true)=false→(ts.size=448∧True)∧(ts.size=448∧ts.size=448∧True)∧(ts.size=448∧True)∧o=ts∧k=0∧e=2∧True
theorem tn0 (ts:Array Value) (h q:Int) (o:Array Value) (k e:Int):(run Cw 1000 0 [a_ 46 Tryz.f46.ntmps [bB ts,u32 h,i64 (.o q)] (Tryz.f46.body.getD .skip)] aT).vc (bM 0 [] (.bW [.agg (.op o),.c (.f (.int .u32 (.o k))),.c (.f (.int .i64 (.o e)))]) aT) (fun _ _=>False) =
  ((((h != 0)==true)=true→(64≤ts.size∧True)∧(bP (Array.extract ts 0 64)∧(0≤h∧h<4294967296)∧True)∧((!bF (Array.extract ts 0 64) h)=true→(ts.size=448∧True)∧(ts.size=448∧ts.size=448∧True)∧(ts.size=448∧True)∧o=ts∧k=0∧e=4∧True)∧((!bF (Array.extract ts 0 64) h)=false→(Lr ts h q o k e)∧(Ls ts q o k e)))∧(((h != 0)==true)=false→(Lr ts h q o k e)∧(Ls ts q o k e))):=by kernel_rfl
set_option linter.unusedVariables false
theorem Qp:∀ g l m t,Fw g l m=some t→aq E0 g l m t:=by
 intro g l m t h
 unfold Fw at h
 split at h
 ·rename_i x;cases h
  refine aq.asked fun hq=>aq.args (l':=[u32 x.den]) (fun R vs ha=>by
   match vs,ha with
   | [v],ha=>exact ⟨ha.1,trivial⟩) ?_
  intro A hs
  exact Pg x.den m A ⟨fun p hp=>hq p hp,hs⟩
 ·rename_i bs x;cases h
  exact aq.n1 (Ph x.den m)
 ·rename_i bs x;cases h
  exact aq.n1 (RQ x.den m)
 ·rename_i bs x;cases h
  exact aq.n1 (XQ x.den m)
 ·rename_i bs;cases h
  refine aq.asked fun hq=>?_
  intro A hs
  exact WG m A ⟨fun p hp=>hq p hp,hs⟩
 ·rename_i bs;cases h
  exact Wg m
 ·cases h
theorem D3:bf Cw:=bf.with aU _ _ Qp
section
variable {ts rr:Array Value} {h:Int}
def sl (h:Int):Nat:=(aP h).toNat
def pl (h:Int):Nat:=64+sl h*12
def aB (ts:Array Value) (h:Int):Bool:=bF (aF ts) h
def cg (ts:Array Value) (h:Int):Int:=aa ts (pl h)
def aG (ts:Array Value) (h:Int):Int:=if aB ts h=true then (if aB ts (cg ts h)=true then cg ts h else 0) else 0
def dc (ts:Array Value) (h:Int):Int:=aa ts (pl h+1)
def bL (ts:Array Value) (h:Int) (k:Nat):Int:=aa ts (pl h+4+k)
def gT (u q n:Int) (c:Nat→Int):Array Value:=#[.int .u32 u,.int .i64 q,.slice none 0 0,.int .i64 n,.int .u32 (c 0),.int .u32 (c 1),.int .u32 (c 2),.int .u32 (c 3),.int .u32 (c 4),.int .u32 (c 5),.int .u32 (c 6),.int .u32 (c 7)]
def dO (ts:Array Value) (h:Int):Array Value:=if aB ts h=true then gT (aG ts h) (dc ts h) 0 (bL ts h) else gT 0 0 0 fun _=>0
def dR (ts:Array Value) (h:Int):Int:=if aB ts h=true then 0 else 4
theorem dX (hb:aM ts) (hg:aB ts h=true):0≤aP h∧aP h<32∧sl h<32∧cB (aF ts) (sl h)=1∧h=cW (sl h) (cw (aF ts) (sl h))∧aN h∧1≤h:=by
 obtain ⟨i,hi,hk,e⟩:=(lN hb.bk).1 hg
 obtain ⟨g1,g2⟩:=wE hb.bk hg
 have es:sl h=i:=by rw [e];exact rK hi (hb.bk.ra i hi)
 have:=wC g1
 exact ⟨this.1,by unfold sl at es;omega,by omega,by rw [es];exact hk,by rw [es];exact e,g1,g2⟩
theorem eg (ts:Array Value):ts.extract 0 64=aF ts:=rfl
theorem Z_ (h:Int) (m:aj):aq E0 31 [bB ts,u32 h] m (bu [aM ts,aN h] (.ret (fu (dO ts h) (dR ts h)) m)):=by
 refine aq.pure aU (by kernel_rfl:E0.fn 31=some Tryz.f31) (by kernel_rfl:Tryz.f31.body=some (Tryz.f31.body.getD .skip)) (by kernel_rfl) (by kernel_rfl) fun hq=>?_
 have hb:aM ts:=hq _ (by simp)
 have hh:aN h:=hq _ (by simp)
 have bG:0≤h∧h<4294967296:=hh
 refine (Good.ret [] (bA D3 1000 (tg0 ts h (dO ts h) (dR ts h)) ?_ (fun s m h=>h) fun _ _ h=>h.elim)).mono fun _ _ h=>h.1
 have hs:=hb.sz
 have hle:64≤ts.size:=by omega
 have bK:(64:Nat)≤448:=by decide
 have cQ:bP (aF ts):=hb.bk
 cases hg:aB ts h with
 | false =>
  have hg':bF (aF ts) h=false:=hg
  have e1:dO ts h=gT 0 0 0 fun _=>0:=by unfold dO;rw [hg];rfl
  have e2:dR ts h=4:=by unfold dR;rw [hg];rfl
  simp only [eg,hg',e1,e2,hle,cQ,bG,Bool.not_false,q6]
  rfl
 | true =>
  have hg':bF (aF ts) h=true:=hg
  obtain ⟨s1,s2,s3,s4,s5,s6,s7⟩:=dX hb hg
  have r:=hb.rg _ s3
  have es:(aP h).toNat=sl h:=rfl
  have t0:aA .u32 ts (64+sl h*12):=r.u
  have t1:aA .i64 ts (64+sl h*12+1):=r.q
  have t2:ts[64+sl h*12+2]?=some (.slice none 0 0):=r.r
  have t3:aA .i64 ts (64+sl h*12+3):=r.l
  have t4:aA .u32 ts (64+sl h*12+4):=r.c 0 (by decide)
  have t5:aA .u32 ts (64+sl h*12+5):=r.c 1 (by decide)
  have t6:aA .u32 ts (64+sl h*12+6):=r.c 2 (by decide)
  have t7:aA .u32 ts (64+sl h*12+7):=r.c 3 (by decide)
  have t8:aA .u32 ts (64+sl h*12+8):=r.c 4 (by decide)
  have t9:aA .u32 ts (64+sl h*12+9):=r.c 5 (by decide)
  have t10:aA .u32 ts (64+sl h*12+10):=r.c 6 (by decide)
  have t11:aA .u32 ts (64+sl h*12+11):=r.c 7 (by decide)
  have hu:0≤aa ts (64+sl h*12)∧aa ts (64+sl h*12)<4294967296:=r.hu
  have e2:dR ts h=0:=by unfold dR;rw [hg];rfl
  have e1:dO ts h=gT (aG ts h) (dc ts h) 0 (bL ts h):=by unfold dO;rw [hg];rfl
  have hl:=r.hl
  cases hp:bF (aF ts) (aa ts (64+sl h*12)) with
  | true =>
   have eu:aG ts h=aa ts (64+sl h*12):=by unfold aG;rw [hg,if_pos rfl];exact if_pos hp
   simp only [eg,hg',e1,e2,eu,es,hp,hle,cQ,bG,hu,s1,s2,t0,t1,t2,t3,t4,t5,t6,t7,t8,t9,t10,t11,hl,Bool.not_true,q6]
   rfl
  | false =>
   have eu:aG ts h=0:=by unfold aG;rw [hg,if_pos rfl];exact if_neg (fun k=>by have k:bF (aF ts) (aa ts (64+sl h*12))=true:=k;rw [hp] at k;cases k)
   simp only [eg,hg',e1,e2,eu,es,hp,hle,cQ,bG,hu,s1,s2,t0,t1,t2,t3,t4,t5,t6,t7,t8,t9,t10,t11,hl,Bool.not_true,q6]
   rfl
theorem w_ {bs:Array Value} (hs:ts.size=448) (hz:bs.size=64):(putAt ts 0 bs.toList).size=448∧aF (putAt ts 0 bs.toList)=bs∧∀ k,64≤k→(putAt ts 0 bs.toList)[k]?=ts[k]?:=by
 have hl:bs.toList.length=64:=by simpa using hz
 have h1:(putAt ts 0 bs.toList).size=448:=by rw [kR (by omega)];exact hs
 refine ⟨h1,?_,fun k hk=>kS (by omega) (by omega)⟩
 apply Array.ext_getElem?
 intro j
 unfold aF
 by_cases c:j<64
 ·rw [ext_get (by omega) (by omega),nH (by omega) (by omega) (by omega),Array.getElem?_toList]
  congr 1
  omega
 ·rw [Array.getElem?_eq_none (by rw [rN (by omega)];omega),Array.getElem?_eq_none (by omega)]
theorem xd (hs:ts.size=448) {q:Nat} (hq:q<32) {l:List Value} (hl:l.length=12):(putAt ts (64+q*12) l).size=448∧aF (putAt ts (64+q*12) l)=aF ts∧∀ i j,i<32→j<12→(putAt ts (64+q*12) l)[64+i*12+j]?=if i=q then l[j]? else ts[64+i*12+j]?:=by
 have h1:(putAt ts (64+q*12) l).size=448:=by rw [kR (by omega)];exact hs
 refine ⟨h1,?_,fun i j hi hj=>?_⟩
 ·apply Array.ext_getElem?
  intro j
  unfold aF
  by_cases c:j<64
  ·rw [ext_get (by omega) (by omega),ext_get (by omega) (by omega),kS (by omega) (by omega)]
  ·rw [Array.getElem?_eq_none (by rw [rN (by omega)];omega),Array.getElem?_eq_none (by rw [rN (by omega)];omega)]
 ·by_cases e:i=q
  ·rw [if_pos e,e,nH (by omega) (by omega) (by omega)]
   congr 1
   omega
  ·rw [if_neg e,kS (by omega) (by omega)]
theorem Rw {us:Array Value} {p q:Nat} (hr:lg ts p) (hc:∀ k,k<12→us[q+k]?=ts[p+k]?):lg us q:=by
 have c0:us[q]?=ts[p]?:=hc 0 (by decide)
 have i0:aa us q=aa ts p:=by unfold aa;rw [c0]
 have ik:∀ k,k<12→aa us (q+k)=aa ts (p+k):=fun k hk=>by unfold aa;rw [hc k hk]
 refine ⟨?_,?_,?_,?_,fun k hk=>?_,?_,?_,?_,fun k hk=>?_⟩
 ·have:=hr.u
  unfold aA at *
  rw [i0,c0];exact this
 ·have:=hr.q
  unfold aA at *
  rw [ik 1 (by decide),hc 1 (by decide)];exact this
 ·have:=hr.r
  unfold Bn at *
  rw [hc 2 (by decide)];exact this
 ·have:=hr.l
  unfold aA at *
  rw [ik 3 (by decide),hc 3 (by decide)];exact this
 ·have:=hr.c k hk
  unfold aA at *
  rw [Nat.add_assoc] at *
  rw [ik (4+k) (by omega),hc (4+k) (by omega)];exact this
 ·rw [i0];exact hr.hu
 ·rw [ik 1 (by decide)];exact hr.hq
 ·rw [ik 3 (by decide)];exact hr.hl
 ·have:=hr.hc k hk
  rw [Nat.add_assoc] at *
  rw [ik (4+k) (by omega)];exact this
theorem DD {us:Array Value} {p:Nat} {u q:Int} {c:Nat→Int} (hc:∀ k,k<12→us[p+k]?=(gT u q 0 c)[k]?) (hu:aN u) (hq:0≤q∧q≤64) (hi:∀ k,k<8→aN (c k)):lg us p∧aa us p=u∧aa us (p+1)=q∧∀ k,k<8→aa us (p+4+k)=c k:=by
 have c0:us[p]?=some (.int .u32 u):=hc 0 (by decide)
 have c1:us[p+1]?=some (.int .i64 q):=hc 1 (by decide)
 have c2:us[p+2]?=some (.slice none 0 0):=hc 2 (by decide)
 have c3:us[p+3]?=some (.int .i64 0):=hc 3 (by decide)
 have ck:∀ k,k<8→us[p+4+k]?=some (.int .u32 (c k)):=fun k hk=>by
  rw [Nat.add_assoc,hc (4+k) (by omega)]
  match k,hk with
  | 0,_ | 1,_ | 2,_ | 3,_ | 4,_ | 5,_ | 6,_ | 7,_=>rfl
 exact ⟨⟨bw c0,bw c1,c2,bw c3,fun k hk=>bw (ck k hk),by rw [bI c0];exact hu,by rw [bI c1];exact hq,bI c3,fun k hk=>by rw [bI (ck k hk)];exact hi k hk⟩,bI c0,bI c1,fun k hk=>bI (ck k hk)⟩
def gq (ts:Array Value) (h:Int) (rr:Array Value):Array Value:=if aB ts h=true then putAt ts (pl h) (gT (cg ts h) (aa rr 1) 0 fun k=>aa rr (4+k)).toList else ts
theorem Ry (h:Int) (m:aj):aq E0 33 [bB ts,u32 h,bB rr] m (bu [aM ts,aN h,rr.size=12,lg rr 0] (.ret (fu (gq ts h rr) (dR ts h)) m)):=by
 refine aq.pure aU (by kernel_rfl:E0.fn 33=some Tryz.f33) (by kernel_rfl:Tryz.f33.body=some (Tryz.f33.body.getD .skip)) (by kernel_rfl) (by kernel_rfl) fun hq=>?_
 have hb:aM ts:=hq _ (by simp)
 have hh:aN h:=hq _ (by simp)
 have aex:rr.size=12:=hq (rr.size=12) (List.mem_cons_of_mem _ (List.mem_cons_of_mem _ (List.mem_cons_self ..)))
 have rk:lg rr 0:=hq _ (by simp)
 have bG:0≤h∧h<4294967296:=hh
 refine (Good.ret [] (bA D3 1000 (tt0 ts h rr (gq ts h rr) (dR ts h)) ?_ (fun s m h=>h) fun _ _ h=>h.elim)).mono fun _ _ h=>h.1
 unfold xV uX iC
 have hs:=hb.sz
 have bK:(64:Nat)≤448:=by decide
 have cQ:bP (aF ts):=hb.bk
 cases hg:aB ts h with
 | false =>
  have hg':bF (aF ts) h=false:=hg
  have e1:gq ts h rr=ts:=by unfold gq;rw [hg];rfl
  have e2:dR ts h=4:=by unfold dR;rw [hg];rfl
  simp only [eg,hg',e1,e2,hs,bK,cQ,bG,Bool.not_false,q6]
 | true =>
  have hg':bF (aF ts) h=true:=hg
  obtain ⟨s1,s2,s3,s4,s5,s6,s7⟩:=dX hb hg
  have r:=hb.rg _ s3
  have es:(aP h).toNat=sl h:=rfl
  have e1:gq ts h rr=putAt ts (64+sl h*12) (gT (cg ts h) (aa rr 1) 0 fun k=>aa rr (4+k)).toList:=by unfold gq;rw [hg];rfl
  have e2:dR ts h=0:=by unfold dR;rw [hg];rfl
  have t0:aA .u32 ts (64+sl h*12):=r.u
  have q1:aA .i64 rr 1:=rk.q
  have q3:aA .i64 rr 3:=rk.l
  have n2:rr[2]?=some (.slice none 0 0):=rk.r
  have l3:aa rr 3=0:=rk.hl
  have hq1:0≤aa rr 1:=rk.hq.1
  have hq2:aa rr 1≤64:=rk.hq.2
  have d1:decide (aa rr 1≥0)=true:=decide_eq_true hq1
  have d2:decide (aa rr 1≤64)=true:=decide_eq_true hq2
  have d3:decide ((0:Int)≥0)=true:=rfl
  have d4:decide ((0:Int)≤0)=true:=rfl
  have y1:(0:Nat)<12:=by decide
  have y2:(2:Nat)<12:=by decide
  have eu:aa ts (64+sl h*12)=cg ts h:=rfl
  have z:∀ j,j≠0→j≠2→((rr.setIfInBounds 0 (.int .u32 (cg ts h))).setIfInBounds 2 (.slice none 0 0))[j]?=rr[j]?:=fun j k1 k2=>by rw [mz k2,mz k1]
  have z2:(rr.setIfInBounds 0 (.int .u32 (cg ts h)))[2]?=some (.slice none 0 0):=by rw [mz (by decide)];exact n2
  have z3:((rr.setIfInBounds 0 (.int .u32 (cg ts h))).setIfInBounds 2 (.slice none 0 0))[2]?=some (.slice none 0 0):=wT (by rw [pY];omega)
  have z0:((rr.setIfInBounds 0 (.int .u32 (cg ts h))).setIfInBounds 2 (.slice none 0 0))[0]?=some (.int .u32 (cg ts h)):=by rw [mz (by decide)];exact wT (by omega)
  have y0:aA .u32 ((rr.setIfInBounds 0 (.int .u32 (cg ts h))).setIfInBounds 2 (.slice none 0 0)) 0:=bw z0
  have j0:aa ((rr.setIfInBounds 0 (.int .u32 (cg ts h))).setIfInBounds 2 (.slice none 0 0)) 0=cg ts h:=bI z0
  have zi:∀ k j,j≠0→j≠2→aA k rr j→aA k ((rr.setIfInBounds 0 (.int .u32 (cg ts h))).setIfInBounds 2 (.slice none 0 0)) j:=fun k j k1 k2 hi=>by
   unfold aA aa at *
   rw [z j k1 k2];exact hi
  have zn:∀ j,j≠0→j≠2→aa ((rr.setIfInBounds 0 (.int .u32 (cg ts h))).setIfInBounds 2 (.slice none 0 0)) j=aa rr j:=fun j k1 k2=>by
   unfold aa
   rw [z j k1 k2]
  have y31:aA .i64 ((rr.setIfInBounds 0 (.int .u32 (cg ts h))).setIfInBounds 2 (.slice none 0 0)) 1:=zi _ 1 (by decide) (by decide) (rk.q)
  have j31:aa ((rr.setIfInBounds 0 (.int .u32 (cg ts h))).setIfInBounds 2 (.slice none 0 0)) 1=aa rr 1:=zn 1 (by decide) (by decide)
  have y03:aA .i64 ((rr.setIfInBounds 0 (.int .u32 (cg ts h))).setIfInBounds 2 (.slice none 0 0)) 3:=zi _ 3 (by decide) (by decide) (rk.l)
  have j03:aa ((rr.setIfInBounds 0 (.int .u32 (cg ts h))).setIfInBounds 2 (.slice none 0 0)) 3=aa rr 3:=zn 3 (by decide) (by decide)
  have y04:aA .u32 ((rr.setIfInBounds 0 (.int .u32 (cg ts h))).setIfInBounds 2 (.slice none 0 0)) 4:=zi _ 4 (by decide) (by decide) (rk.c 0 (by decide))
  have j04:aa ((rr.setIfInBounds 0 (.int .u32 (cg ts h))).setIfInBounds 2 (.slice none 0 0)) 4=aa rr 4:=zn 4 (by decide) (by decide)
  have y05:aA .u32 ((rr.setIfInBounds 0 (.int .u32 (cg ts h))).setIfInBounds 2 (.slice none 0 0)) 5:=zi _ 5 (by decide) (by decide) (rk.c 1 (by decide))
  have j05:aa ((rr.setIfInBounds 0 (.int .u32 (cg ts h))).setIfInBounds 2 (.slice none 0 0)) 5=aa rr 5:=zn 5 (by decide) (by decide)
  have y06:aA .u32 ((rr.setIfInBounds 0 (.int .u32 (cg ts h))).setIfInBounds 2 (.slice none 0 0)) 6:=zi _ 6 (by decide) (by decide) (rk.c 2 (by decide))
  have j06:aa ((rr.setIfInBounds 0 (.int .u32 (cg ts h))).setIfInBounds 2 (.slice none 0 0)) 6=aa rr 6:=zn 6 (by decide) (by decide)
  have y07:aA .u32 ((rr.setIfInBounds 0 (.int .u32 (cg ts h))).setIfInBounds 2 (.slice none 0 0)) 7:=zi _ 7 (by decide) (by decide) (rk.c 3 (by decide))
  have j07:aa ((rr.setIfInBounds 0 (.int .u32 (cg ts h))).setIfInBounds 2 (.slice none 0 0)) 7=aa rr 7:=zn 7 (by decide) (by decide)
  have y08:aA .u32 ((rr.setIfInBounds 0 (.int .u32 (cg ts h))).setIfInBounds 2 (.slice none 0 0)) 8:=zi _ 8 (by decide) (by decide) (rk.c 4 (by decide))
  have j08:aa ((rr.setIfInBounds 0 (.int .u32 (cg ts h))).setIfInBounds 2 (.slice none 0 0)) 8=aa rr 8:=zn 8 (by decide) (by decide)
  have y09:aA .u32 ((rr.setIfInBounds 0 (.int .u32 (cg ts h))).setIfInBounds 2 (.slice none 0 0)) 9:=zi _ 9 (by decide) (by decide) (rk.c 5 (by decide))
  have j09:aa ((rr.setIfInBounds 0 (.int .u32 (cg ts h))).setIfInBounds 2 (.slice none 0 0)) 9=aa rr 9:=zn 9 (by decide) (by decide)
  have aey:aA .u32 ((rr.setIfInBounds 0 (.int .u32 (cg ts h))).setIfInBounds 2 (.slice none 0 0)) 10:=zi _ 10 (by decide) (by decide) (rk.c 6 (by decide))
  have aez:aa ((rr.setIfInBounds 0 (.int .u32 (cg ts h))).setIfInBounds 2 (.slice none 0 0)) 10=aa rr 10:=zn 10 (by decide) (by decide)
  have aeA:aA .u32 ((rr.setIfInBounds 0 (.int .u32 (cg ts h))).setIfInBounds 2 (.slice none 0 0)) 11:=zi _ 11 (by decide) (by decide) (rk.c 7 (by decide))
  have aeB:aa ((rr.setIfInBounds 0 (.int .u32 (cg ts h))).setIfInBounds 2 (.slice none 0 0)) 11=aa rr 11:=zn 11 (by decide) (by decide)
  have hp:=xd (l:=(gT (cg ts h) (aa rr 1) 0 fun k=>aa rr (4+k)).toList) hs s3 rfl
  have ps:(putAt ts (64+sl h*12) [Value.int .u32 (cg ts h),Value.int .i64 (aa rr 1),Value.slice none 0 0,Value.int .i64 0,Value.int .u32 (aa rr 4),Value.int .u32 (aa rr 5),Value.int .u32 (aa rr 6),Value.int .u32 (aa rr 7),Value.int .u32 (aa rr 8),Value.int .u32 (aa rr 9),Value.int .u32 (aa rr 10),Value.int .u32 (aa rr 11)]).size=448:=hp.1
  have aeC:64+sl h*12+12≤448:=by omega
  simp only [eg,hg',e1,e2,es,eu,hs,bK,cQ,bG,s1,s2,t0,q1,q3,n2,l3,d1,d2,d3,d4,y1,y2,aex,pY,z2,z3,y0,j0,y31,j31,y03,j03,y04,j04,y05,j05,y06,j06,y07,j07,y08,j08,y09,j09,aey,aez,aeA,aeB,List.length_cons,List.length_nil,Nat.zero_add,aeC,ps,q8,q6]
  rfl
end
section
variable {ts:Array Value} {h:Int}
def Hg:List Value:=(gT 0 0 0 fun _=>0).toList
def gF (ts:Array Value) (h:Int):Array Value:=putAt (putAt ts 0 (gH (aF ts) h).toList) (pl h) Hg
def gG (ts:Array Value) (h:Int):Array Value:=if aB ts h=true then gF ts h else ts
theorem Rx (hb:aM ts) (hg:aB ts h=true):(gF ts h).size=448:=by
 have hv:=(Dk hb.bk h).sz
 exact (xd (w_ hb.sz hv).1 (dX hb hg).2.2.1 rfl).1
theorem Y1 (h:Int) (m:aj):aq E0 59 [bB ts,u32 h] m (bu [aM ts,aN h] (.ret (fu (gG ts h) (dR ts h)) m)):=by
 refine aq.pure aU (by kernel_rfl:E0.fn 59=some Tryz.f59) (by kernel_rfl:Tryz.f59.body=some (Tryz.f59.body.getD .skip)) (by kernel_rfl) (by kernel_rfl) fun hq=>?_
 have hb:aM ts:=hq _ (by simp)
 have hh:aN h:=hq _ (by simp)
 have bG:0≤h∧h<4294967296:=hh
 refine (Good.ret [] (bA D3 1000 (td0 ts h (gG ts h) (dR ts h)) ?_ (fun s m h=>h) fun _ _ h=>h.elim)).mono fun _ _ h=>h.1
 unfold nW Bv Lq
 have hs:=hb.sz
 have bK:(64:Nat)≤448:=by decide
 have cQ:bP (aF ts):=hb.bk
 have hv:=(Dk hb.bk h).sz
 cases hg:aB ts h with
 | false =>
  have hg':bF (aF ts) h=false:=hg
  have e1:gG ts h=ts:=by unfold gG;rw [hg];rfl
  have e2:dR ts h=4:=by unfold dR;rw [hg];rfl
  simp only [eg,hg',e1,e2,hs,bK,cQ,bG,hv,Bool.not_false,q6]
 | true =>
  have hg':bF (aF ts) h=true:=hg
  obtain ⟨s1,s2,s3,s4,s5,s6,s7⟩:=dX hb hg
  have es:(aP h).toNat=sl h:=rfl
  have e1:gG ts h=gF ts h:=by unfold gG;rw [hg];rfl
  have e2:dR ts h=0:=by unfold dR;rw [hg];rfl
  have e3:putAt (putAt ts 0 (gH (aF ts) h).toList) (64+sl h*12) [Value.int .u32 0,Value.int .i64 0,Value.slice none 0 0,Value.int .i64 0,Value.int .u32 0,Value.int .u32 0,Value.int .u32 0,Value.int .u32 0,Value.int .u32 0,Value.int .u32 0,Value.int .u32 0,Value.int .u32 0]=gF ts h:=rfl
  have p1:=(w_ (bs:=gH (aF ts) h) hs hv).1
  have p2:=Rx hb hg
  have y:64+sl h*12+12≤448:=by omega
  simp only [eg,hg',e1,e2,e3,es,hs,bK,cQ,bG,s1,s2,hv,p1,p2,y,Nat.zero_add,Bool.not_true,q6]
def fL (ts:Array Value) (u q:Int):Array Value:=putAt (putAt ts 0 (fE (aF ts)).toList) (pl (ct (aF ts))) (gT u q 0 fun _=>0).toList
def newE (ts:Array Value) (u q:Int):Int:=if u≠0∧aB ts u=false then 4 else if 0≤q∧q≤64 then (if ir (aF ts)=true then 0 else 7) else 2
def iK (ts:Array Value) (u q:Int):Array Value:=if newE ts u q=0 then fL ts u q else ts
def iD (ts:Array Value) (u q:Int):Int:=if newE ts u q=0 then ct (aF ts) else 0
theorem AG (hb:aM ts):aN (ct (aF ts))∧0≤aP (ct (aF ts))∧aP (ct (aF ts))<32∧sl (ct (aF ts))<32:=by
 rcases rJ (bs:=aF ts) with ⟨_,_,e,_⟩ | ⟨i,h1,_,_,e,_,_⟩
 ·rw [e];exact ⟨⟨by decide,by decide⟩,by decide,by decide,by decide⟩
 ·have hr:=hb.bk.ra i h1
  have hi:aN (ct (aF ts)):=by rw [e];unfold aN cW;omega
  have es:sl (ct (aF ts))=i:=by rw [e];exact rK h1 hr
  have:=wC hi
  exact ⟨hi,this.1,by unfold sl at es;omega,by omega⟩
theorem I5 (hb:aM ts) {u q:Int}:(fL ts u q).size=448:=by
 exact (xd (w_ hb.sz (CX hb.bk).sz).1 (AG hb).2.2.2 rfl).1
theorem aaa (u q:Int) (m:aj):aq E0 46 [bB ts,u32 u,i64 (.o q)] m (bu [aM ts,aN u] (.ret (.bW [.agg (.op (iK ts u q)),.c (.f (.int .u32 (.o (iD ts u q)))),.c (.f (.int .i64 (.o (newE ts u q))))]) m)):=by
 refine aq.pure aU (by kernel_rfl:E0.fn 46=some Tryz.f46) (by kernel_rfl:Tryz.f46.body=some (Tryz.f46.body.getD .skip)) (by kernel_rfl) (by kernel_rfl) fun hq=>?_
 have hb:aM ts:=hq _ (by simp)
 have hu:aN u:=hq _ (by simp)
 have iO:0≤u∧u<4294967296:=hu
 refine (Good.ret [] (bA D3 1000 (tn0 ts u q (iK ts u q) (iD ts u q) (newE ts u q)) ?_ (fun s m h=>h) fun _ _ h=>h.elim)).mono fun _ _ h=>h.1
 unfold Ls Lr
 have hs:=hb.sz
 have bK:(64:Nat)≤448:=by decide
 have cQ:bP (aF ts):=hb.bk
 have hv:=(CX hb.bk).sz
 obtain ⟨i1,i2,i3,i4⟩:=AG hb
 have i1':0≤ct (aF ts)∧ct (aF ts)<4294967296:=i1
 have es:(aP (ct (aF ts))).toNat=sl (ct (aF ts)):=rfl
 have e3:putAt (putAt ts 0 (fE (aF ts)).toList) (64+sl (ct (aF ts))*12) [Value.int .u32 u,Value.int .i64 q,Value.slice none 0 0,Value.int .i64 0,Value.int .u32 0,Value.int .u32 0,Value.int .u32 0,Value.int .u32 0,Value.int .u32 0,Value.int .u32 0,Value.int .u32 0,Value.int .u32 0]=fL ts u q:=rfl
 have p1:=(w_ (bs:=fE (aF ts)) hs hv).1
 have p2:=I5 hb (u:=u) (q:=q)
 have y:64+sl (ct (aF ts))*12+12≤448:=by omega
 have ne:∀ E:Int,newE ts u q=E→E≠0→iK ts u q=ts∧iD ts u q=0:=fun E e hE=>by
  have:newE ts u q≠0:=by rw [e];exact hE
  exact ⟨by unfold iK;rw [if_neg this],by unfold iD;rw [if_neg this]⟩
 have rest:((u != 0)=true→bF (aF ts) u=true)→(decide (q≥0)=true∧decide (q≤64)=true→ir (aF ts)=true→newE ts u q=0)∧(decide (q≥0)=true∧decide (q≤64)=true→ir (aF ts)=false→newE ts u q=7)∧(decide (q≥0)=false∨decide (q≤64)=false→newE ts u q=2):=by
  intro cA
  have n1:¬ (u≠0∧aB ts u=false):=by
   rintro ⟨k1,k2⟩
   have:=cA (bne_iff_ne.2 k1)
   rw [show bF (aF ts) u=false from k2] at this
   cases this
  refine ⟨fun ⟨k1,k2⟩ k3=>?_,fun ⟨k1,k2⟩ k3=>?_,fun k=>?_⟩
  ·unfold newE;rw [if_neg n1,if_pos ⟨of_decide_eq_true k1,of_decide_eq_true k2⟩,if_pos k3]
  ·unfold newE;rw [if_neg n1,if_pos ⟨of_decide_eq_true k1,of_decide_eq_true k2⟩,if_neg (by rw [k3];simp)]
  ·unfold newE;rw [if_neg n1,if_neg]
   rintro ⟨k1,k2⟩
   rcases k with k | k
   ·exact of_decide_eq_false k k1
   ·exact of_decide_eq_false k k2
 cases lA:(u != 0) <;> cases hg:bF (aF ts) u <;> cases c1:decide (q≥0) <;> cases c2:decide (q≤64) <;> cases c3:ir (aF ts)
 all_goals
  first
   |(have e:newE ts u q=4:=by unfold newE;rw [if_pos ⟨bne_iff_ne.1 lA,hg⟩]
     obtain ⟨e4,e5⟩:=ne 4 e (by decide)
     simp only [eg,hg,lA,c1,c2,c3,e,e4,e5,e3,es,hs,bK,cQ,iO,hv,q8,q6]
     done)
   |(have e:newE ts u q=7:=(rest (fun k=>by first | exact hg | (rw [lA] at k;cases k))).2.1 ⟨c1,c2⟩ c3
     obtain ⟨e4,e5⟩:=ne 7 e (by decide)
     simp only [eg,hg,lA,c1,c2,c3,e,e4,e5,e3,es,hs,bK,cQ,iO,hv,q8,q6]
     done)
   |(have e:newE ts u q=2:=(rest (fun k=>by first | exact hg | (rw [lA] at k;cases k))).2.2 (by first | exact .inl c1 | exact .inr c2)
     obtain ⟨e4,e5⟩:=ne 2 e (by decide)
     simp only [eg,hg,lA,c1,c2,c3,e,e4,e5,e3,es,hs,bK,cQ,iO,hv,q8,q6]
     done)
   |(have e:newE ts u q=0:=(rest (fun k=>by first | exact hg | (rw [lA] at k;cases k))).1 ⟨c1,c2⟩ c3
     have e4:iK ts u q=fL ts u q:=by unfold iK;rw [if_pos e]
     have e5:iD ts u q=ct (aF ts):=by unfold iD;rw [if_pos e]
     simp only [eg,hg,lA,c1,c2,c3,e,e4,e5,e3,es,hs,bK,cQ,iO,i1',i2,i3,hv,p1,p2,y,List.length_cons,List.length_nil,Nat.zero_add,q8,q6]
     done)
end
set_option linter.unusedVariables false
noncomputable def Bw (g:FuncId) (l:List SV) (m:aj):Option Tree:=match g,l with
 | 31,[.s (.agg (.op ts)),.s (.c (.f (.int .u32 h)))]=>some (.need [aM ts,aN h.den] (.ret (fu (dO ts h.den) (dR ts h.den)) m))
 | 33,[.s (.agg (.op ts)),.s (.c (.f (.int .u32 h))),.s (.agg (.op rr))]=>some (.need [aM ts,aN h.den,rr.size=12,lg rr 0] (.ret (fu (gq ts h.den rr) (dR ts h.den)) m))
 | 59,[.s (.agg (.op ts)),.s (.c (.f (.int .u32 h)))]=>some (.need [aM ts,aN h.den] (.ret (fu (gG ts h.den) (dR ts h.den)) m))
 | 46,[.s (.agg (.op ts)),.s (.c (.f (.int .u32 u))),.s (.c (.f (.int .i64 q)))]=>some (.need [aM ts,aN u.den] (.ret (.bW [.agg (.op (iK ts u.den q.den)),.c (.f (.int .u32 (.o (iD ts u.den q.den)))),.c (.f (.int .i64 (.o (newE ts u.den q.den))))]) m))
 | g,l=>Fw g l m
noncomputable def Bx (g:FuncId) (l:List SV) (m:aj):Option Tree:=match g,l with
 | 94,[.s (.agg (.op ts)),.s (.c (.f (.int .u32 h)))]=>some (.need [aM ts,aN h.den] (.ret (.s (.c (.f (.int .u32 (.o (aG ts h.den)))))) m))
 | g,l=>Bw g l m
noncomputable def VB:Env:=⟨Tryz.prog,dg,Bw,dy []⟩
noncomputable def Hj:Env:=⟨Tryz.prog,dg,Bw,dy [62*1000+4]⟩
noncomputable def pV:Env:=⟨Tryz.prog,dg,Bx,dy [93*1000+2]⟩
noncomputable def Gi:pD:=vZ Tryz.f47 0 47
noncomputable def Gj:pD:=vZ Tryz.f39 0 39
noncomputable def Gk:pD:=vZ Tryz.f64 0 64
noncomputable def vv (h:Int):SV:=.s (.c (.f (.int .u32 (.o h))))
noncomputable def kZ:List bh:=cY Tryz.f93 2
noncomputable def qL:List bh:=.fD 5 :: jX Tryz.f47 0
noncomputable def yA (ts:Array Value) (h:Int) (x:Int) (n:Int):List av:=[dw 93 Tryz.f93 [(0,iH 5),(1,ptr 2 (.l 0)),(2,ptr 3 (.l 0)),(4,.s (.c (.f (.int .u32 (.o x)))))] kZ,lq 47 Tryz.f47 [(5,ptr 1 (.l 0))] qL 4]
noncomputable def yB (ts:Array Value) (h:Int) (x:Int) (n:Int):aj:=nu 6 [(1,⟨.ls [.f (.int .i64 (.o n))],3,true⟩),(2,⟨.op ts,39,true⟩),(3,⟨.ls [.f (.int .u32 (.o h))],30,true⟩)] [(4,.gZ),(5,jR Tryz.f47 0 47 (i_ Tryz.f47.ntmps [(5,ptr 1 (.l 0))]) 4)]
def Gl (ts:Array Value) (h:Int) (Q:Int→Int→Prop) (fs:List av) (m:aj):Prop:=(match b9 fs 0 with | some f0=>(match b9 fs 1 with | some f1=>(match dh f0 4 with | some x=>(match aV f1 5 with | some p1=>(match aV f0 1 with | some p2=>(match aV f0 2 with | some p3=>(match jS f0 0 with | some p5=>(match lu m p5 with | some p4=>(match T_ m p1 0 with | some n=>Q x n∧cV 0 [(1,p1),(2,p2),(3,p3),(4,p4),(5,p5)] (yA ts h x n) (yB ts h x n) fs m | none=>False) | none=>False) | none=>False) | none=>False) | none=>False) | none=>False) | none=>False) | none=>False) | none=>False)
noncomputable def Lt:List bh:=cY Tryz.f93 2
noncomputable def qM:List bh:=.fD 5 :: jX Tryz.f39 0
noncomputable def yC (ts:Array Value) (h:Int) (x:Int) (n:Int):List av:=[dw 93 Tryz.f93 [(0,iH 5),(1,ptr 2 (.l 0)),(2,ptr 3 (.l 0)),(4,.s (.c (.f (.int .u32 (.o x)))))] Lt,lq 39 Tryz.f39 [(5,ptr 1 (.l 0))] qM 4]
noncomputable def yD (ts:Array Value) (h:Int) (x:Int) (n:Int):aj:=nu 6 [(1,⟨.ls [.f (.int .u32 (.o n))],30,true⟩),(2,⟨.op ts,39,true⟩),(3,⟨.ls [.f (.int .u32 (.o h))],30,true⟩)] [(4,.gZ),(5,jR Tryz.f39 0 39 (i_ Tryz.f39.ntmps [(5,ptr 1 (.l 0))]) 4)]
def Gm (ts:Array Value) (h:Int) (Q:Int→Int→Prop) (fs:List av) (m:aj):Prop:=(match b9 fs 0 with | some f0=>(match b9 fs 1 with | some f1=>(match dh f0 4 with | some x=>(match aV f1 5 with | some p1=>(match aV f0 1 with | some p2=>(match aV f0 2 with | some p3=>(match jS f0 0 with | some p5=>(match lu m p5 with | some p4=>(match T_ m p1 0 with | some n=>Q x n∧cV 0 [(1,p1),(2,p2),(3,p3),(4,p4),(5,p5)] (yC ts h x n) (yD ts h x n) fs m | none=>False) | none=>False) | none=>False) | none=>False) | none=>False) | none=>False) | none=>False) | none=>False) | none=>False)
noncomputable def Lu:List bh:=cY Tryz.f93 2
noncomputable def qN:List bh:=.fD 6 :: jX Tryz.f64 0
noncomputable def yE (ts:Array Value) (a:Int) (h:Int) (x:Int):List av:=[dw 93 Tryz.f93 [(0,iH 6),(1,ptr 3 (.l 0)),(2,ptr 4 (.l 0)),(4,.s (.c (.f (.int .u32 (.o x)))))] Lu,lq 64 Tryz.f64 [(4,ptr 1 (.l 0)),(6,ptr 2 (.l 0))] qN 5]
noncomputable def yF (ts:Array Value) (a:Int) (h:Int) (x:Int):aj:=nu 7 [(1,⟨.ls [.f (.int .u32 (.o a))],30,true⟩),(2,⟨.ls [.f (.bool (.l false))],4,true⟩),(3,⟨.op ts,39,true⟩),(4,⟨.ls [.f (.int .u32 (.o h))],30,true⟩)] [(5,.gZ),(6,jR Tryz.f64 0 64 (i_ Tryz.f64.ntmps [(4,ptr 1 (.l 0)),(6,ptr 2 (.l 0))]) 5)]
def Gn (ts:Array Value) (a:Int) (h:Int) (Q:Int→Prop) (fs:List av) (m:aj):Prop:=(match b9 fs 0 with | some f0=>(match b9 fs 1 with | some f1=>(match dh f0 4 with | some x=>(match aV f1 4 with | some p1=>(match aV f1 6 with | some p2=>(match aV f0 1 with | some p3=>(match aV f0 2 with | some p4=>(match jS f0 0 with | some p6=>(match lu m p6 with | some p5=>Q x∧cV 0 [(1,p1),(2,p2),(3,p3),(4,p4),(5,p5),(6,p6)] (yE ts a h x) (yF ts a h x) fs m | none=>False) | none=>False) | none=>False) | none=>False) | none=>False) | none=>False) | none=>False) | none=>False) | none=>False)
noncomputable def nX:List bh:=cY Tryz.f62 4
noncomputable def yG (ts:Array Value) (h:Int) (up:Int) (x:Int) (zz:Array Value):List av:=[dw 62 Tryz.f62 [(1,.s (.c (.f (.int .u32 (.o h))))),(2,.s (.c (.f (.int .u32 (.o up))))),(3,ptr 0 (.l 0)),(6,ptr 1 (.l 0)),(8,.s (.c (.f (.int .u32 (.o x)))))] nX]
noncomputable def yH (ts:Array Value) (h:Int) (up:Int) (x:Int) (zz:Array Value):aj:=cD 2 [(0,⟨.op ts,39,true⟩),(1,⟨.op zz,39,true⟩)]
def Gp (ts:Array Value) (h:Int) (up:Int) (Q:Int→Array Value→Prop) (fs:List av) (m:aj):Prop:=(match b9 fs 0 with | some f0=>(match dh f0 8 with | some x=>(match aV f0 3 with | some p0=>(match aV f0 6 with | some p1=>(match cO m p1 with | some zz=>Q x zz∧cV 0 [(0,p0),(1,p1)] (yG ts h up x zz) (yH ts h up x zz) fs m | none=>False) | none=>False) | none=>False) | none=>False) | none=>False)
noncomputable def adm (ts:Array Value) (h:Int) (x:Int) (n:Int):Tree:=stepT pV.go (run pV 1000) 0 (yA ts h x n) (yB ts h x n)
def Lv (ts:Array Value) (h:Int) (x:Int) (n:Int) (rD:Int→Int→Prop) (fs:List av) (m:aj):Prop:=Gl ts h rD fs m
noncomputable def adn (ts:Array Value) (h:Int):Tree:=run pV 1000 0 [a_ 47 Tryz.f47.ntmps [bB ts,u32 h] (Tryz.f47.body.getD .skip)] aT
def Lw (ts:Array Value) (h:Int) (rD:Int→Int→Prop) (fs:List av) (m:aj):Prop:=Gl ts h rD fs m
noncomputable def ado (ts:Array Value) (h:Int) (x:Int) (n:Int):Tree:=stepT pV.go (run pV 1000) 0 (yC ts h x n) (yD ts h x n)
def Lx (ts:Array Value) (h:Int) (x:Int) (n:Int) (rE:Int→Int→Prop) (fs:List av) (m:aj):Prop:=Gm ts h rE fs m
noncomputable def adp (ts:Array Value) (h:Int):Tree:=run pV 1000 0 [a_ 39 Tryz.f39.ntmps [bB ts,u32 h] (Tryz.f39.body.getD .skip)] aT
def Ly (ts:Array Value) (h:Int) (rE:Int→Int→Prop) (fs:List av) (m:aj):Prop:=Gm ts h rE fs m
noncomputable def adq (ts:Array Value) (a:Int) (h:Int) (x:Int):Tree:=stepT pV.go (run pV 1000) 0 (yE ts a h x) (yF ts a h x)
def Lz (ts:Array Value) (a:Int) (h:Int) (x:Int) (rF:Int→Prop) (fs:List av) (m:aj):Prop:=Gn ts a h rF fs m
noncomputable def adr (ts:Array Value) (a:Int) (h:Int):Tree:=run pV 1000 0 [a_ 64 Tryz.f64.ntmps [bB ts,u32 a,u32 h] (Tryz.f64.body.getD .skip)] aT
def LA (ts:Array Value) (a:Int) (h:Int) (rF:Int→Prop) (fs:List av) (m:aj):Prop:=Gn ts a h rF fs m
noncomputable def ads (ts:Array Value) (h:Int) (up:Int) (x:Int) (zz:Array Value):Tree:=stepT Hj.go (run Hj 1000) 0 (yG ts h up x zz) (yH ts h up x zz)
def LB (ts:Array Value) (h:Int) (up:Int) (x:Int) (zz:Array Value) (rG:Int→Array Value→Prop) (fs:List av) (m:aj):Prop:=Gp ts h up rG fs m
noncomputable def adt (ts:Array Value) (h:Int) (up:Int):Tree:=run Hj 1000 0 [a_ 62 Tryz.f62.ntmps [bB ts,u32 h,u32 up] (Tryz.f62.body.getD .skip)] aT
def LC (ts:Array Value) (h:Int) (up:Int) (rG:Int→Array Value→Prop) (fs:List av) (m:aj):Prop:=Gp ts h up rG fs m
theorem wL (r:Nat→Option Nat):ak r kZ kZ:=ak.it (by kernel_rfl)
theorem ae4 {l:List (Nat × Nat)}:ak (aD 0 ([(1,1),(2,2),(3,3),(4,4),(5,5)]++l)) qL qL:=ak.rf rfl (by kernel_rfl)
theorem O8:ak (aD 0 [(1,1),(2,2),(3,3),(4,4),(5,5)]) qL qL:=ak.rf rfl (by kernel_rfl)
theorem ae5 (r:Nat→Option Nat):ak r Lt Lt:=ak.it (by kernel_rfl)
theorem ae6 {l:List (Nat × Nat)}:ak (aD 0 ([(1,1),(2,2),(3,3),(4,4),(5,5)]++l)) qM qM:=ak.rf rfl (by kernel_rfl)
theorem O9:ak (aD 0 [(1,1),(2,2),(3,3),(4,4),(5,5)]) qM qM:=ak.rf rfl (by kernel_rfl)
theorem ae7 (r:Nat→Option Nat):ak r Lu Lu:=ak.it (by kernel_rfl)
theorem ae8 {l:List (Nat × Nat)}:ak (aD 0 ([(1,1),(2,2),(3,3),(4,4),(5,5),(6,6)]++l)) qN qN:=ak.rf rfl (by kernel_rfl)
theorem O_:ak (aD 0 [(1,1),(2,2),(3,3),(4,4),(5,5),(6,6)]) qN qN:=ak.rf rfl (by kernel_rfl)
theorem Da (r:Nat→Option Nat):ak r nX nX:=ak.it (by kernel_rfl)
theorem Rz {A:SV→aj→Prop} {ts:Array Value} {h:Int} {Q:Int→Int→Prop} {fs:List av} {m:aj} (H:∀ x n,Q x n→Good Tryz.prog A 0 (yA ts h x n) (yB ts h x n)) (hb:Gl ts h Q fs m):Good Tryz.prog A 0 fs m:=by
 unfold Gl at hb
 iterate 9 (split at hb;rotate_left;exact hb.elim)
 exact Good.c_ hb.2 (H _ _ hb.1)
theorem RA {A:SV→aj→Prop} {ts:Array Value} {h:Int} {Q:Int→Int→Prop} {fs:List av} {m:aj} (H:∀ x n,Q x n→Good Tryz.prog A 0 (yC ts h x n) (yD ts h x n)) (hb:Gm ts h Q fs m):Good Tryz.prog A 0 fs m:=by
 unfold Gm at hb
 iterate 9 (split at hb;rotate_left;exact hb.elim)
 exact Good.c_ hb.2 (H _ _ hb.1)
theorem RB {A:SV→aj→Prop} {ts:Array Value} {a:Int} {h:Int} {Q:Int→Prop} {fs:List av} {m:aj} (H:∀ x,Q x→Good Tryz.prog A 0 (yE ts a h x) (yF ts a h x)) (hb:Gn ts a h Q fs m):Good Tryz.prog A 0 fs m:=by
 unfold Gn at hb
 iterate 9 (split at hb;rotate_left;exact hb.elim)
 exact Good.c_ hb.2 (H _ hb.1)
theorem RC {A:SV→aj→Prop} {ts:Array Value} {h:Int} {up:Int} {Q:Int→Array Value→Prop} {fs:List av} {m:aj} (H:∀ x zz,Q x zz→Good Tryz.prog A 0 (yG ts h up x zz) (yH ts h up x zz)) (hb:Gp ts h up Q fs m):Good Tryz.prog A 0 fs m:=by
 unfold Gp at hb
 iterate 5 (split at hb;rotate_left;exact hb.elim)
 exact Good.c_ hb.2 (H _ _ hb.1)
theorem SH {A:SV→aj→Prop} {ts:Array Value} {h:Int} {x:Int} {n:Int} {rD:Int→Int→Prop} {fs:List av} {m:aj} (NW:∀ x' n',rD x' n'→Good Tryz.prog A 0 (yA ts h x' n') (yB ts h x' n')) (hb:Lv ts h x n rD fs m):Good Tryz.prog A 0 fs m:=by
 unfold Lv at hb
 exact Rz NW hb
theorem abU {A:SV→aj→Prop} {ts:Array Value} {h:Int} {rD:Int→Int→Prop} {fs:List av} {m:aj} (NW:∀ x' n',rD x' n'→Good Tryz.prog A 0 (yA ts h x' n') (yB ts h x' n')) (hb:Lw ts h rD fs m):Good Tryz.prog A 0 fs m:=by
 unfold Lw at hb
 exact Rz NW hb
theorem SJ {A:SV→aj→Prop} {ts:Array Value} {h:Int} {x:Int} {n:Int} {rE:Int→Int→Prop} {fs:List av} {m:aj} (NX:∀ x' n',rE x' n'→Good Tryz.prog A 0 (yC ts h x' n') (yD ts h x' n')) (hb:Lx ts h x n rE fs m):Good Tryz.prog A 0 fs m:=by
 unfold Lx at hb
 exact RA NX hb
theorem abV {A:SV→aj→Prop} {ts:Array Value} {h:Int} {rE:Int→Int→Prop} {fs:List av} {m:aj} (NX:∀ x' n',rE x' n'→Good Tryz.prog A 0 (yC ts h x' n') (yD ts h x' n')) (hb:Ly ts h rE fs m):Good Tryz.prog A 0 fs m:=by
 unfold Ly at hb
 exact RA NX hb
theorem SL {A:SV→aj→Prop} {ts:Array Value} {a:Int} {h:Int} {x:Int} {rF:Int→Prop} {fs:List av} {m:aj} (NY:∀ x',rF x'→Good Tryz.prog A 0 (yE ts a h x') (yF ts a h x')) (hb:Lz ts a h x rF fs m):Good Tryz.prog A 0 fs m:=by
 unfold Lz at hb
 exact RB NY hb
theorem abW {A:SV→aj→Prop} {ts:Array Value} {a:Int} {h:Int} {rF:Int→Prop} {fs:List av} {m:aj} (NY:∀ x',rF x'→Good Tryz.prog A 0 (yE ts a h x') (yF ts a h x')) (hb:LA ts a h rF fs m):Good Tryz.prog A 0 fs m:=by
 unfold LA at hb
 exact RB NY hb
theorem SM {A:SV→aj→Prop} {ts:Array Value} {h:Int} {up:Int} {x:Int} {zz:Array Value} {rG:Int→Array Value→Prop} {fs:List av} {m:aj} (NZ:∀ x' fB,rG x' fB→Good Tryz.prog A 0 (yG ts h up x' fB) (yH ts h up x' fB)) (hb:LB ts h up x zz rG fs m):Good Tryz.prog A 0 fs m:=by
 unfold LB at hb
 exact RC NZ hb
theorem abX {A:SV→aj→Prop} {ts:Array Value} {h:Int} {up:Int} {rG:Int→Array Value→Prop} {fs:List av} {m:aj} (NZ:∀ x' fB,rG x' fB→Good Tryz.prog A 0 (yG ts h up x' fB) (yH ts h up x' fB)) (hb:LC ts h up rG fs m):Good Tryz.prog A 0 fs m:=by
 unfold LC at hb
 exact RC NZ hb
set_option maxRecDepth 100000
theorem ab0 (ts:Array Value) (h o:Int):(run VB 1000 0 [a_ 94 Tryz.f94.ntmps [bB ts,u32 h] (Tryz.f94.body.getD .skip)] aT).vc (bM 0 [] (vv o) aT) (fun _ _=>False) =
  ((ts.size=448∧True)∧(aM ts∧(0≤h∧h<4294967296)∧True)∧((dO ts h).size=12∧(dO ts h).size=12∧True)∧(aA .u32 (dO ts h) 0∧True)∧o=aa (dO ts h) 0∧True):=by kernel_rfl
theorem aeD (ts:Array Value) (h o:Int) (Q:Int→Int→Prop):(adn ts h).vc (bM 0 [] (i64 (.o o)) aT) (Lw ts h Q) =
  ((ts.size=448∧True)∧(64≤ts.size∧True)∧(bP (Array.extract ts 0 64)∧(0≤h∧h<4294967296)∧True)∧((!bF (Array.extract ts 0 64) h)=true→o=0∧True)∧((!bF (Array.extract ts 0 64) h)=false→Q h (0:Int)∧cN∧ak (aD 0 [(1,1),(2,2),(3,3),(4,4),(5,5)]) kZ kZ∧h=h∧cN∧ak (aD 0 [(1,1),(2,2),(3,3),(4,4),(5,5)]) qL qL∧3=3∧(0:Int)=(0:Int)∧30=30∧h=h∧39=39∧ts=ts∧dN Gi Gi∧True)):=by kernel_rfl
theorem VC (ts:Array Value) (h x n o:Int) (Q:Int→Int→Prop):(adm ts h x n).vc (bM 0 [] (i64 (.o o)) aT) (Lv ts h x n Q) =
  ((((x != 0)==true)=true→(ts.size=448∧True)∧(aM ts∧(0≤x∧x<4294967296)∧True)∧Q (aG ts x) (ah .add .i64 n 1)∧cN∧ak (aD 0 [(1,1),(2,2),(3,3),(4,4),(5,5)]) kZ kZ∧aG ts x=aG ts x∧cN∧ak (aD 0 [(1,1),(2,2),(3,3),(4,4),(5,5)]) qL qL∧3=3∧ah .add .i64 n 1=ah .add .i64 n 1∧30=30∧h=h∧39=39∧ts=ts∧dN Gi Gi∧True)∧(((x != 0)==true)=false→o=n∧True)):=by kernel_rfl
theorem aeE (ts:Array Value) (h o:Int) (Q:Int→Int→Prop):(adp ts h).vc (bM 0 [] (vv o) aT) (Ly ts h Q) =
  ((ts.size=448∧True)∧(64≤ts.size∧True)∧(bP (Array.extract ts 0 64)∧(0≤h∧h<4294967296)∧True)∧((!bF (Array.extract ts 0 64) h)=true→o=0∧True)∧((!bF (Array.extract ts 0 64) h)=false→Q h (0:Int)∧cN∧ak (aD 0 [(1,1),(2,2),(3,3),(4,4),(5,5)]) kZ kZ∧h=h∧cN∧ak (aD 0 [(1,1),(2,2),(3,3),(4,4),(5,5)]) qM qM∧30=30∧(0:Int)=(0:Int)∧30=30∧h=h∧39=39∧ts=ts∧dN Gj Gj∧True)):=by kernel_rfl
theorem VD (ts:Array Value) (h x n o:Int) (Q:Int→Int→Prop):(ado ts h x n).vc (bM 0 [] (vv o) aT) (Lx ts h x n Q) =
  ((((x != 0)==true)=true→(ts.size=448∧True)∧(aM ts∧(0≤x∧x<4294967296)∧True)∧Q (aG ts x) x∧cN∧ak (aD 0 [(1,1),(2,2),(3,3),(4,4),(5,5)]) kZ kZ∧aG ts x=aG ts x∧cN∧ak (aD 0 [(1,1),(2,2),(3,3),(4,4),(5,5)]) qM qM∧30=30∧x=x∧30=30∧h=h∧39=39∧ts=ts∧dN Gj Gj∧True)∧(((x != 0)==true)=false→o=n∧True)):=by kernel_rfl
theorem aeF (ts:Array Value) (a h:Int) (o:Bool) (Q:Int→Prop):(adr ts a h).vc (bM 0 [] (sB (.o o)) aT) (LA ts a h Q) =
  ((ts.size=448∧True)∧(64≤ts.size∧True)∧(bP (Array.extract ts 0 64)∧(0≤h∧h<4294967296)∧True)∧((!bF (Array.extract ts 0 64) h)=true→o=false∧True)∧((!bF (Array.extract ts 0 64) h)=false→Q h∧cN∧ak (aD 0 [(1,1),(2,2),(3,3),(4,4),(5,5),(6,6)]) kZ kZ∧h=h∧cN∧ak (aD 0 [(1,1),(2,2),(3,3),(4,4),(5,5),(6,6)]) qN qN∧30=30∧a=a∧39=39∧ts=ts∧4=4∧30=30∧h=h∧dN Gk Gk∧True)):=by kernel_rfl
theorem VE (ts:Array Value) (a h x:Int) (o:Bool) (Q:Int→Prop):(adq ts a h x).vc (bM 0 [] (sB (.o o)) aT) (Lz ts a h x Q) =
  ((((x != 0)==true)=true→((x==a)=true→o=true∧True)∧((x==a)=false→(ts.size=448∧True)∧(aM ts∧(0≤x∧x<4294967296)∧True)∧Q (aG ts x)∧cN∧ak (aD 0 [(1,1),(2,2),(3,3),(4,4),(5,5),(6,6)]) kZ kZ∧aG ts x=aG ts x∧cN∧ak (aD 0 [(1,1),(2,2),(3,3),(4,4),(5,5),(6,6)]) qN qN∧30=30∧a=a∧39=39∧ts=ts∧4=4∧30=30∧h=h∧dN Gk Gk∧True))∧(((x != 0)==true)=false→o=false∧True)):=by kernel_rfl
theorem aeG (ts:Array Value) (h up:Int) (o:Array Value) (e:Int) (Q:Int→Array Value→Prop):(adt ts h up).vc (bM 0 [] (fu o e) aT) (LC ts h up Q) =
  ((64≤ts.size∧True)∧(bP (Array.extract ts 0 64)∧(0≤h∧h<4294967296)∧True)∧(((!bF (Array.extract ts 0 64) h)==false)=true→(((up != 0)==true)=true→(64≤ts.size∧True)∧(bP (Array.extract ts 0 64)∧(0≤up∧up<4294967296)∧True)∧((!bF (Array.extract ts 0 64) up)=true→(ts.size=448∧True)∧(ts.size=448∧ts.size=448∧True)∧(ts.size=448∧True)∧o=ts∧e=4∧True)∧((!bF (Array.extract ts 0 64) up)=false→Q up zT∧cN∧ak (aD 0 [(0,0),(1,1)]) nX nX∧h=h∧up=up∧up=up∧39=39∧ts=ts∧39=39∧zT=zT∧True))∧(((up != 0)==true)=false→Q up zT∧cN∧ak (aD 0 [(0,0),(1,1)]) nX nX∧h=h∧up=up∧up=up∧39=39∧ts=ts∧39=39∧zT=zT∧True))∧(((!bF (Array.extract ts 0 64) h)==false)=false→(ts.size=448∧True)∧(ts.size=448∧ts.size=448∧True)∧(ts.size=448∧True)∧o=ts∧e=4∧True)):=by kernel_rfl
theorem VF (ts:Array Value) (h up x:Int) (zz o:Array Value) (e:Int) (Q:Int→Array Value→Prop):(ads ts h up x zz).vc (bM 0 [] (fu o e) aT) (LB ts h up x zz Q) =
  (((x != 0)=true→((x==h)=true→(ts.size=448∧True)∧(ts.size=448∧ts.size=zz.size∧True)∧(ts.size=448∧True)∧o=ts∧e=12∧True)∧((x==h)=false→((0≤x∧x<4294967296)∧True)∧((0≤aP x∧aP x<32)∧True)∧(aA .u32 ts (64+(aP x).toNat*12)∧True)∧(64≤ts.size∧True)∧(bP (Array.extract ts 0 64)∧(0≤aa ts (64+(aP x).toNat*12)∧aa ts (64+(aP x).toNat*12)<4294967296)∧True)∧(bF (Array.extract ts 0 64) (aa ts (64+(aP x).toNat*12))=true→Q (aa ts (64+(aP x).toNat*12)) zz∧cN∧ak (aD 0 [(0,0),(1,1)]) nX nX∧h=h∧up=up∧aa ts (64+(aP x).toNat*12)=aa ts (64+(aP x).toNat*12)∧39=39∧ts=ts∧39=39∧zz=zz∧True)∧(bF (Array.extract ts 0 64) (aa ts (64+(aP x).toNat*12))=false→Q (0:Int) zz∧cN∧ak (aD 0 [(0,0),(1,1)]) nX nX∧h=h∧up=up∧(0:Int)=(0:Int)∧39=39∧ts=ts∧39=39∧zz=zz∧True)))∧((x != 0)=false→((0≤h∧h<4294967296)∧True)∧((0≤aP h∧aP h<32)∧True)∧(64+(aP h).toNat*12<ts.size∧True)∧((Array.setIfInBounds ts (64+(aP h).toNat*12) (Value.int .u32 up)).size=448∧True)∧((Array.setIfInBounds ts (64+(aP h).toNat*12) (Value.int .u32 up)).size=448∧(Array.setIfInBounds ts (64+(aP h).toNat*12) (Value.int .u32 up)).size=zz.size∧True)∧((Array.setIfInBounds ts (64+(aP h).toNat*12) (Value.int .u32 up)).size=448∧True)∧o=Array.setIfInBounds ts (64+(aP h).toNat*12) (Value.int .u32 up)∧e=0∧True)):=by kernel_rfl
set_option linter.unusedVariables false
def ko (up:Int→Int):Nat→Int→List Int
 | 0,_=>[]
 | n+1,x=>if x=0 then [] else x :: ko up n (up x)
def l8 (L:List Int) (up:Int→Int) (h:Int):List Int:=L.filter fun k=>up k==h
def Hf (L:List Int) (up:Int→Int):Nat→Int→List Int
 | 0,_=>[]
 | n+1,x=>x :: (l8 L up x).flatMap (Hf L up n)
structure fA (L:List Int) (up:Int→Int):Prop where
 nd:L.Nodup
 nz:∀ x∈L,x≠0
 cl:∀ x∈L,up x=0∨up x∈L
 dp:∀ x∈L,(ko up 14 x).length≤13
def cm (up:Int→Int) (x:Int):List Int:=ko up 14 x
def dx (up:Int→Int) (x:Int):Nat:=(cm up x).length
def nF (L:List Int) (up:Int→Int) (x:Int):List Int:=Hf L up 14 x
section
variable {L:List Int} {up:Int→Int}
theorem tL (n:Nat):ko up n 0=[]:=by
 cases n with
 | zero=>rfl
 | succ n=>show (if (0:Int)=0 then _ else _)=_;rw [if_pos rfl]
theorem qa {n:Nat} {x:Int} (hx:x≠0):ko up (n+1) x=x :: ko up n (up x):=by
 show (if x=0 then _ else _)=_
 rw [if_neg hx]
theorem Rt:∀ (n m:Nat) (x:Int),(ko up n x).length<n→n≤m→ko up m x=ko up n x
 | 0,_,_,h,_=>by omega
 | n+1,0,_,_,h=>by omega
 | n+1,m+1,x,h,hm=>by
  by_cases hx:x=0
  ·rw [hx,tL,tL]
  ·rw [qa hx] at h ⊢
   rw [qa hx]
   rw [List.length_cons] at h
   rw [Rt n m (up x) (by omega) (by omega)]
theorem fZ:cm up 0=[]:=tL 14
theorem wD:dx up 0=0:=by unfold dx;rw [fZ];rfl
theorem fO (h:fA L up) {x:Int} (hx:x∈L):cm up x=x :: cm up (up x):=by
 have hd:=h.dp x hx
 have h0:=h.nz x hx
 unfold cm
 rw [qa h0] at hd ⊢
 rw [List.length_cons] at hd
 rw [Rt 13 14 (up x) (by omega) (by omega)]
theorem kr (h:fA L up) {x:Int} (hx:x∈L):dx up x=dx up (up x)+1:=by unfold dx;rw [fO h hx];rfl
theorem qk (h:fA L up) {x:Int} (hx:x∈L):1≤dx up x∧dx up x≤13:=by
 have:=kr h hx
 have:=h.dp x hx
 exact ⟨by omega,this⟩
theorem jj (h:fA L up) {P:Int→Prop} (h0:P 0) (h1:∀ x∈L,P (up x)→P x):∀ x,x=0∨x∈L→P x:=by
 have key:∀ (n:Nat) (x:Int),dx up x≤n→x=0∨x∈L→P x:=by
  intro n
  induction n with
  | zero =>
   intro x hd hx
   rcases hx with rfl | hx
   ·exact h0
   ·have:=(qk h hx).1;omega
  | succ n ih =>
   intro x hd hx
   rcases hx with rfl | hx
   ·exact h0
   ·refine h1 x hx (ih (up x) ?_ (h.cl x hx))
    have:=kr h hx
    omega
 exact fun x hx=>key _ x (Nat.le_refl _) hx
theorem DB (h:fA L up):∀ x,x=0∨x∈L→∀ y∈cm up x,y∈L:=by
 refine jj h (fun y hy=>by rw [fZ] at hy;cases hy) fun x hx ih y hy=>?_
 rw [fO h hx] at hy
 rcases List.mem_cons.1 hy with rfl | hy
 ·exact hx
 ·exact ih y hy
theorem Jo (h:fA L up) {x:Int} (hx:x∈L):x∈cm up x:=by rw [fO h hx];exact List.mem_cons_self ..
theorem ada (h:fA L up) {y:Int}:∀ x,x=0∨x∈L→y∈cm up x→up y≠0→up y∈cm up x:=by
 refine jj h (fun hy=>by rw [fZ] at hy;cases hy) fun x hx ih hy hn=>?_
 rw [fO h hx] at hy ⊢
 rcases List.mem_cons.1 hy with rfl | hy
 ·have:up y∈L:=(h.cl y hx).resolve_left hn
  exact List.mem_cons_of_mem _ (Jo h this)
 ·exact List.mem_cons_of_mem _ (ih hy hn)
theorem D0 (h:fA L up) {y:Int}:∀ x,x=0∨x∈L→y∈cm up x→dx up y≤dx up x∧(dx up y=dx up x→y=x):=by
 refine jj h (fun hy=>by rw [fZ] at hy;cases hy) fun x hx ih hy=>?_
 rw [fO h hx] at hy
 have hd:=kr h hx
 rcases List.mem_cons.1 hy with rfl | hy
 ·exact ⟨Nat.le_refl _,fun _=>rfl⟩
 ·have:=(ih hy).1
  exact ⟨by omega,fun e=>by omega⟩
theorem abQ (h:fA L up) {a b:Int}:∀ x,x=0∨x∈L→a∈cm up x→b∈cm up x→dx up a=dx up b→a=b:=by
 refine jj h (fun ha=>by rw [fZ] at ha;cases ha) fun x hx ih ha hb e=>?_
 have da:=D0 h x (.inr hx) ha
 have db:=D0 h x (.inr hx) hb
 rw [fO h hx] at ha hb
 rcases List.mem_cons.1 ha with rfl | ha
 ·exact (db.2 e.symm).symm
 ·rcases List.mem_cons.1 hb with rfl | hb
  ·exact da.2 e
  ·exact ih ha hb e
theorem XZ (h:fA L up):∀ x,x=0∨x∈L→(cm up x).Nodup:=by
 refine jj h (by rw [fZ];exact List.nodup_nil) fun x hx ih=>?_
 rw [fO h hx,List.nodup_cons]
 refine ⟨fun hm=>?_,ih⟩
 have:=(D0 h (up x) (h.cl x hx) hm).1
 have:=kr h hx
 omega
theorem lO {x k:Int}:k∈l8 L up x↔k∈L∧up k=x:=by
 unfold l8
 rw [List.mem_filter,beq_iff_eq]
theorem HG {α β:Type} {f g:α→List β}:∀ {l:List α},(∀ a∈l,f a=g a)→l.flatMap f=l.flatMap g
 | [],_=>rfl
 | a :: l,h=>by
  rw [List.flatMap_cons,List.flatMap_cons,h a (List.mem_cons_self ..),HG fun b hb=>h b (List.mem_cons_of_mem _ hb)]
theorem Ru (h:fA L up):∀ (n m:Nat) (x:Int),x∈L→14≤n+dx up x→14≤m+dx up x→Hf L up n x=Hf L up m x
 | 0,_,x,hx,h1,_=>by have:=(qk h hx).2;omega
 | n+1,0,x,hx,_,h2=>by have:=(qk h hx).2;omega
 | n+1,m+1,x,hx,h1,h2=>by
  show x :: _=x :: _
  rw [HG fun k hk=>?_]
  obtain ⟨hk1,hk2⟩:=lO.1 hk
  have:=kr h hk1
  rw [hk2] at this
  exact Ru h n m k hk1 (by omega) (by omega)
theorem tP (h:fA L up) {x:Int} (hx:x∈L):nF L up x=x :: (l8 L up x).flatMap (nF L up):=by
 show x :: _=x :: _
 rw [HG fun k hk=>?_]
 obtain ⟨hk1,hk2⟩:=lO.1 hk
 have:=kr h hk1
 have:=(qk h hx).1
 rw [← hk2] at this
 exact Ru h 13 14 k hk1 (by omega) (by omega)
theorem IT (h:fA L up) {P:Int→Prop} (h1:∀ x∈L,(∀ k∈l8 L up x,P k)→P x):∀ x∈L,P x:=by
 have key:∀ (n:Nat) (x:Int),14≤n+dx up x→x∈L→P x:=by
  intro n
  induction n with
  | zero=>intro x hd hx;have:=(qk h hx).2;omega
  | succ n ih =>
   intro x hd hx
   refine h1 x hx fun k hk=>?_
   obtain ⟨hk1,hk2⟩:=lO.1 hk
   have:=kr h hk1
   rw [hk2] at this
   exact ih k (by omega) hk1
 exact fun x hx=>key 14 x (by omega) hx
theorem mA (h:fA L up):∀ x∈L,∀ y∈nF L up x,y∈L∧x∈cm up y:=by
 refine IT h fun x hx ih y hy=>?_
 rw [tP h hx] at hy
 rcases List.mem_cons.1 hy with rfl | hy
 ·exact ⟨hx,Jo h hx⟩
 ·obtain ⟨k,hk,hy⟩:=List.mem_flatMap.1 hy
  obtain ⟨hk1,hk2⟩:=lO.1 hk
  obtain ⟨h1,h2⟩:=ih k hk y hy
  have:=ada h y (.inr h1) h2 (by rw [hk2];exact h.nz x hx)
  rw [hk2] at this
  exact ⟨h1,this⟩
theorem abR (h:fA L up) {k:Int} (hk:k∈L):∀ x∈L,up k∈nF L up x→k∈nF L up x:=by
 refine IT h fun x hx ih hz=>?_
 rw [tP h hx] at hz ⊢
 rcases List.mem_cons.1 hz with e | hz
 ·have hkk:k∈l8 L up x:=lO.2 ⟨hk,e⟩
  exact List.mem_cons_of_mem _ (List.mem_flatMap.2 ⟨k,hkk,by rw [tP h hk];exact List.mem_cons_self ..⟩)
 ·obtain ⟨j,hj,hz⟩:=List.mem_flatMap.1 hz
  exact List.mem_cons_of_mem _ (List.mem_flatMap.2 ⟨j,hj,ih j hj hz⟩)
theorem YY (h:fA L up) {x:Int} (hx:x∈L):∀ y,y=0∨y∈L→x∈cm up y→y∈nF L up x:=by
 refine jj h (fun hy=>by rw [fZ] at hy;cases hy) fun y hy ih hxy=>?_
 rw [fO h hy] at hxy
 rcases List.mem_cons.1 hxy with rfl | hxy
 ·rw [tP h hx];exact List.mem_cons_self ..
 ·exact abR h hy x hx (ih hxy)
theorem tS (h:fA L up) {x y:Int} (hx:x∈L):y∈nF L up x↔y∈L∧x∈cm up y :=
 ⟨mA h x hx y,fun ⟨h1,h2⟩=>YY h hx y (.inr h1) h2⟩
theorem Pf (h:fA L up):∀ x∈L,(nF L up x).Nodup:=by
 refine IT h fun x hx ih=>?_
 rw [tP h hx,List.nodup_cons]
 have hkn:(l8 L up x).Nodup:=h.nd.filter _
 constructor
 ·intro hm
  obtain ⟨k,hk,hm⟩:=List.mem_flatMap.1 hm
  obtain ⟨hk1,hk2⟩:=lO.1 hk
  have h1:=(mA h k hk1 x hm).2
  have h2:=(D0 h x (.inr hx) h1).1
  have:=kr h hk1
  rw [hk2] at this
  omega
 ·rw [List.Nodup,List.pairwise_flatMap]
  refine ⟨fun k hk=>ih k hk,?_⟩
  refine hkn.imp_of_mem ?_
  intro a b ha hb hab y hy z hz e
  subst e
  obtain ⟨mj,tq⟩:=lO.1 ha
  obtain ⟨dZ,e_⟩:=lO.1 hb
  obtain ⟨y1,y2⟩:=mA h a mj y hy
  obtain ⟨_,z2⟩:=mA h b dZ y hz
  have da:=kr h mj
  have db:=kr h dZ
  rw [tq] at da
  rw [e_] at db
  exact hab (abQ h y (.inr y1) y2 z2 (by omega))
theorem CT:∀ {l m:List Int},l.Nodup→(∀ x∈l,x∈m)→l.length≤m.length
 | [],_,_,_=>Nat.zero_le _
 | a :: l,m,hn,hs=>by
  obtain ⟨h1,h2⟩:=List.nodup_cons.1 hn
  have ha:=hs a (List.mem_cons_self ..)
  have:=CT (m:=m.erase a) h2 fun x hx=>(List.mem_erase_of_ne (fun e=>h1 (by rw [← e];exact hx))).2 (hs x (List.mem_cons_of_mem _ hx))
  rw [List.length_erase_of_mem ha] at this
  have hp:=List.length_pos_of_mem ha
  rw [List.length_cons]
  omega
theorem abS (h:fA L up) {x:Int} (hx:x∈L):(nF L up x).length≤L.length:=CT (Pf h x hx) fun y hy=>(mA h x hx y hy).1
def gE (up:Int→Int) (x:Int):Int:=(cm up x).getLastD 0
theorem Rv:gE up 0=0:=by unfold gE;rw [fZ];rfl
theorem rT (h:fA L up) {x:Int} (hx:x∈L):gE up x=if up x=0 then x else gE up (up x):=by
 unfold gE
 rw [fO h hx]
 split
 ·rename_i e;rw [e,fZ];rfl
 ·rename_i e
  have:=(h.cl x hx).resolve_left e
  rw [fO h this]
  rfl
theorem Ju (h:fA L up):∀ x,x=0∨x∈L→x∈L→gE up x∈cm up x∧up (gE up x)=0:=by
 refine jj h (fun hx=>absurd rfl (h.nz 0 hx)) fun x hx ih _=>?_
 rw [rT h hx]
 split
 ·rename_i e;exact ⟨Jo h hx,e⟩
 ·rename_i e
  have h1:=(h.cl x hx).resolve_left e
  obtain ⟨k1,k2⟩:=ih h1
  exact ⟨by rw [fO h hx];exact List.mem_cons_of_mem _ k1,k2⟩
theorem zP (h:fA L up) {x:Int} (hx:x∈L):gE up x=x↔up x=0:=by
 constructor
 ·intro e
  have:=(Ju h x (.inr hx) hx).2
  rw [e] at this
  exact this
 ·intro e;rw [rT h hx,if_pos e]
theorem acJ (h:fA L up) {y:Int}:∀ x,x=0∨x∈L→y∈cm up x→gE up y=gE up x:=by
 refine jj h (fun hy=>by rw [fZ] at hy;cases hy) fun x hx ih hy=>?_
 rw [fO h hx] at hy
 rcases List.mem_cons.1 hy with rfl | hy
 ·rfl
 ·rw [ih hy,rT h hx]
  split
  ·rename_i e;rw [e,fZ] at hy;cases hy
  ·rfl
end
set_option linter.unusedVariables false
theorem IW:∀ g l m t,Bw g l m=some t→aq E0 g l m t:=by
 intro g l m t h
 unfold Bw at h
 split at h
 ·rename_i ts x;cases h
  exact aq.n1 (Z_ x.den m)
 ·rename_i ts x rr;cases h
  refine aq.asked fun hq=>aq.args (l':=[bB ts,u32 x.den,bB rr]) (fun R vs ha=>by
   match vs,ha with
   | [v,w,z],ha=>exact ⟨ha.1,ha.2.1,ha.2.2.1,trivial⟩) ?_
  intro A hs
  exact Ry x.den m A ⟨fun p hp=>hq p hp,hs⟩
 ·rename_i ts x;cases h
  exact aq.n1 (Y1 x.den m)
 ·rename_i ts x q;cases h
  exact aq.n2 (aaa x.den q.den m)
 ·exact Qp _ _ _ _ h
theorem abY:bf VB:=bf.with aU _ _ IW
theorem Kg:bf Hj:=bf.with aU _ _ IW
section
variable {ts:Array Value} {h:Int}
theorem ae9 (u q n:Int) (c:Nat→Int):(gT u q n c).size=12:=rfl
theorem CD (ts:Array Value) (h:Int):(dO ts h).size=12∧aA .u32 (dO ts h) 0∧aa (dO ts h) 0=aG ts h:=by
 unfold dO
 cases hg:aB ts h with
 | true=>exact ⟨rfl,rfl,rfl⟩
 | false =>
  refine ⟨rfl,rfl,?_⟩
  unfold aG
  rw [hg]
  rfl
theorem Xy (h:Int) (m:aj):aq E0 94 [bB ts,u32 h] m (bu [aM ts,aN h] (.ret (vv (aG ts h)) m)):=by
 refine aq.pure aU (by kernel_rfl:E0.fn 94=some Tryz.f94) (by kernel_rfl:Tryz.f94.body=some (Tryz.f94.body.getD .skip)) (by kernel_rfl) (by kernel_rfl) fun hq=>?_
 have hb:aM ts:=hq _ (by simp)
 have hh:aN h:=hq _ (by simp)
 refine (Good.ret [] (bA abY 1000 (ab0 ts h (aG ts h)) ?_ (fun s m h=>h) fun _ _ h=>h.elim)).mono fun _ _ h=>h.1
 obtain ⟨g1,g2,g3⟩:=CD ts h
 have hs:=hb.sz
 have bG:0≤h∧h<4294967296:=hh
 simp only [hs,hb,bG,g1,g2,g3,and_true,true_and]
theorem IX:∀ g l m t,Bx g l m=some t→aq E0 g l m t:=by
 intro g l m t h
 unfold Bx at h
 split at h
 ·rename_i ts x;cases h
  exact aq.n1 (Xy x.den m)
 ·exact IW _ _ _ _ h
theorem ql:bf pV:=bf.with aU _ _ IX
def af (ts:Array Value):List Int:=d_ (aF ts)
structure ay (ts:Array Value):Prop where
 ok:aM ts
 fo:fA (af ts) (aG ts)
theorem bU (hb:aM ts) {x:Int}:x∈af ts↔aB ts x=true:=Wh hb.bk
theorem ab' (hb:aM ts) (hd:∀ x,aB ts x=true→(ko (aG ts) 14 x).length≤13):ay ts:=by
 refine ⟨hb,zh hb.bk,fun x hx=>?_,fun x hx=>?_,fun x hx=>hd x ((bU hb).1 hx)⟩
 ·have:=(wE hb.bk ((bU hb).1 hx)).2
  omega
 ·have hg:=(bU hb).1 hx
  unfold aG
  rw [hg,if_pos rfl]
  split
  ·rename_i e;exact .inr ((bU hb).2 e)
  ·exact .inl rfl
theorem iA (hb:aM ts) {x:Int} (hx:x=0∨x∈af ts):aN x:=by
 rcases hx with rfl | hx
 ·exact ⟨by decide,by decide⟩
 ·exact (wE hb.bk ((bU hb).1 hx)).1
def aY (ts:Array Value) (h:Int):Nat:=if aB ts h=true then dx (aG ts) h else 0
def aO (ts:Array Value) (h:Int):Int:=if aB ts h=true then gE (aG ts) h else 0
def fm (ts:Array Value) (a h:Int):Bool:=aB ts h&&decide (a∈cm (aG ts) h)
theorem jK (l:pD):dN l l=True:=eq_true rfl
theorem adu (hf:ay ts) (h:Int) {D:Nat} (hD:D≤13):∀ x,x=0∨x∈af ts→∀ n:Nat,n+dx (aG ts) x=D→Good Tryz.prog (bM 0 [] (i64 (.o (D:Int))) aT) 0 (yA ts h x (n:Int)) (yB ts h x (n:Int)):=by
 have hs:=hf.ok.sz
 have hb:=hf.ok
 refine jj hf.fo (fun n hn=>?_) fun x hx ih n hn=>?_
 ·rw [wD,Nat.add_zero] at hn
  subst hn
  refine bD ql 1000 (VC ts h 0 (n:Int) (n:Int) (fun _ _=>False)) ?_ (fun _ _ h=>h) (fun fs m hb=>SH (fun _ _ h=>h.elim) hb)
  simp only [bne_self_eq_false,dJ,q6]
 ·refine bD ql 1000 (VC ts h x (n:Int) (D:Int) (fun x' n'=>x'=aG ts x∧n'=((n+1:Nat):Int))) ?_ (fun _ _ h=>h) (fun fs m hb=>SH (fun x' n' ⟨e1,e2⟩=>by
   rw [e1,e2]
   have:=kr hf.fo hx
   exact ih (n+1) (by omega)) hb)
  have d:(x != 0)=true:=bne_iff_ne.2 (hf.fo.nz x hx)
  have hx':0≤x∧x<4294967296:=iA hb (.inr hx)
  have:=kr hf.fo hx
  have en:ah .add .i64 (n:Int) 1=((n+1:Nat):Int):=by rw [dn,cC (by omega) (by omega)];omega
  simp only [d,hs,hb,hx',en,jK,dJ,wL,O8,q6]
theorem Xz (h:Int) (m:aj):aq E0 47 [bB ts,u32 h] m (bu [ay ts,aN h] (.ret (i64 (.o (aY ts h:Int))) m)):=by
 refine aq.pure aU (by kernel_rfl:E0.fn 47=some Tryz.f47) (by kernel_rfl:Tryz.f47.body=some (Tryz.f47.body.getD .skip)) (by kernel_rfl) (by kernel_rfl) fun hq=>?_
 have hf:ay ts:=hq _ (by simp)
 have hh:aN h:=hq _ (by simp)
 have bG:0≤h∧h<4294967296:=hh
 have hs:=hf.ok.sz
 have bK:(64:Nat)≤448:=by decide
 have cQ:bP (aF ts):=hf.ok.bk
 refine (Good.ret [] (bA ql 1000 (aeD ts h (aY ts h:Int) (fun x n=>x=h∧n=((0:Nat):Int)∧aB ts h=true)) ?_ (fun s m h=>h) fun fs m hb=>abU (fun x n ⟨e1,e2,e3⟩=>by
  rw [e1,e2]
  have hl:=(bU hf.ok).2 e3
  have e:aY ts h=dx (aG ts) h:=by unfold aY;rw [if_pos e3]
  rw [e]
  exact adu hf h (qk hf.fo hl).2 h (.inr hl) 0 (by omega)) hb)).mono fun _ _ h=>h.1
 cases hg:bF (aF ts) h with
 | false =>
  have e:aY ts h=0:=by unfold aY;rw [show aB ts h=false from hg];rfl
  simp only [eg,hg,e,hs,bK,cQ,bG,Bool.not_false,q6]
  rfl
 | true =>
  have hg':aB ts h=true:=hg
  simp only [eg,hg,hg',hs,bK,cQ,bG,jK,Bool.not_true,wL,O8,q6]
  rfl
theorem adv (hf:ay ts) (h:Int) {D:Int}:∀ x,x=0∨x∈af ts→∀ n:Int,(x=0→n=D)→(x≠0→gE (aG ts) x=D)→Good Tryz.prog (bM 0 [] (vv D) aT) 0 (yC ts h x n) (yD ts h x n):=by
 have hs:=hf.ok.sz
 have hb:=hf.ok
 refine jj hf.fo (fun n hn _=>?_) fun x hx ih n _ hn=>?_
 ·have e:=hn rfl
  refine bD ql 1000 (VD ts h 0 n D (fun _ _=>False)) ?_ (fun _ _ h=>h) (fun fs m hb=>SJ (fun _ _ h=>h.elim) hb)
  simp only [e,bne_self_eq_false,dJ,q6]
 ·refine bD ql 1000 (VD ts h x n D (fun x' n'=>x'=aG ts x∧n'=x)) ?_ (fun _ _ h=>h) (fun fs m hb=>SJ (fun x' n' ⟨e1,e2⟩=>by
   rw [e1,e2]
   have hr:=rT hf.fo hx
   have hn:=hn (hf.fo.nz x hx)
   exact ih x (fun e=>by rw [if_pos e] at hr;rw [← hr];exact hn) (fun e=>by rw [if_neg e] at hr;rw [← hr];exact hn)) hb)
  have d:(x != 0)=true:=bne_iff_ne.2 (hf.fo.nz x hx)
  have hx':0≤x∧x<4294967296:=iA hb (.inr hx)
  simp only [d,hs,hb,hx',jK,dJ,wL,O9,q6]
theorem Y2 (h:Int) (m:aj):aq E0 39 [bB ts,u32 h] m (bu [ay ts,aN h] (.ret (vv (aO ts h)) m)):=by
 refine aq.pure aU (by kernel_rfl:E0.fn 39=some Tryz.f39) (by kernel_rfl:Tryz.f39.body=some (Tryz.f39.body.getD .skip)) (by kernel_rfl) (by kernel_rfl) fun hq=>?_
 have hf:ay ts:=hq _ (by simp)
 have hh:aN h:=hq _ (by simp)
 have bG:0≤h∧h<4294967296:=hh
 have hs:=hf.ok.sz
 have bK:(64:Nat)≤448:=by decide
 have cQ:bP (aF ts):=hf.ok.bk
 refine (Good.ret [] (bA ql 1000 (aeE ts h (aO ts h) (fun x n=>x=h∧aB ts h=true)) ?_ (fun s m h=>h) fun fs m hb=>abV (fun x n ⟨e1,e3⟩=>by
  rw [e1]
  have hl:=(bU hf.ok).2 e3
  have e:aO ts h=gE (aG ts) h:=by unfold aO;rw [if_pos e3]
  rw [e]
  exact adv hf h h (.inr hl) n (fun e=>absurd e (hf.fo.nz h hl)) (fun _=>rfl)) hb)).mono fun _ _ h=>h.1
 cases hg:bF (aF ts) h with
 | false =>
  have e:aO ts h=0:=by unfold aO;rw [show aB ts h=false from hg];rfl
  simp only [eg,hg,e,hs,bK,cQ,bG,Bool.not_false,q6]
 | true =>
  have hg':aB ts h=true:=hg
  simp only [eg,hg,hg',hs,bK,cQ,bG,jK,Bool.not_true,wL,O9,q6]
theorem adw (hf:ay ts) (a h:Int) {o:Bool}:∀ x,x=0∨x∈af ts→decide (a∈cm (aG ts) x)=o→Good Tryz.prog (bM 0 [] (sB (.o o)) aT) 0 (yE ts a h x) (yF ts a h x):=by
 have hs:=hf.ok.sz
 have hb:=hf.ok
 refine jj hf.fo (fun ho=>?_) fun x hx ih ho=>?_
 ·have e:o=false:=by rw [← ho,fZ];rfl
  refine bD ql 1000 (VE ts a h 0 o (fun _=>False)) ?_ (fun _ _ h=>h) (fun fs m hb=>SL (fun _ h=>h.elim) hb)
  simp only [e,bne_self_eq_false,dJ,q6]
 ·refine bD ql 1000 (VE ts a h x o (fun x'=>x'=aG ts x∧(x==a)=false)) ?_ (fun _ _ h=>h) (fun fs m hb=>SL (fun x' ⟨e1,e2⟩=>by
   rw [e1]
   refine ih ?_
   rw [← ho,fO hf.fo hx]
   have e2:x≠a:=beq_eq_false_iff_ne.1 e2
   simp only [List.mem_cons,(show (a=x)=False from eq_false fun e=>e2 e.symm),false_or]) hb)
  have d:(x != 0)=true:=bne_iff_ne.2 (hf.fo.nz x hx)
  have hx':0≤x∧x<4294967296:=iA hb (.inr hx)
  cases c:(x==a) with
  | true =>
   have e:o=true:=by
    have e2:x=a:=beq_iff_eq.1 c
    rw [← ho,fO hf.fo hx,e2]
    simp
   simp only [d,e,dJ,q6]
  | false =>
   simp only [d,hs,hb,hx',jK,dJ,wL,O_,q6]
theorem aab (a h:Int) (m:aj):aq E0 64 [bB ts,u32 a,u32 h] m (bu [ay ts,aN h] (.ret (sB (.o (fm ts a h))) m)):=by
 refine aq.pure aU (by kernel_rfl:E0.fn 64=some Tryz.f64) (by kernel_rfl:Tryz.f64.body=some (Tryz.f64.body.getD .skip)) (by kernel_rfl) (by kernel_rfl) fun hq=>?_
 have hf:ay ts:=hq _ (by simp)
 have hh:aN h:=hq _ (by simp)
 have bG:0≤h∧h<4294967296:=hh
 have hs:=hf.ok.sz
 have bK:(64:Nat)≤448:=by decide
 have cQ:bP (aF ts):=hf.ok.bk
 refine (Good.ret [] (bA ql 1000 (aeF ts a h (fm ts a h) (fun x=>x=h∧aB ts h=true)) ?_ (fun s m h=>h) fun fs m hb=>abW (fun x ⟨e1,e3⟩=>by
  rw [e1]
  have hl:=(bU hf.ok).2 e3
  exact adw hf a h h (.inr hl) (by unfold fm;rw [e3];rfl)) hb)).mono fun _ _ h=>h.1
 cases hg:bF (aF ts) h with
 | false =>
  have e:fm ts a h=false:=by unfold fm;rw [show aB ts h=false from hg];rfl
  simp only [eg,hg,e,hs,bK,cQ,bG,Bool.not_false,q6]
 | true =>
  have hg':aB ts h=true:=hg
  simp only [eg,hg,hg',hs,bK,cQ,bG,jK,Bool.not_true,wL,O_,q6]
def dz (ts:Array Value) (h up:Int):Int:=if aB ts h=false∨(up≠0∧aB ts up=false) then 4 else if h∈cm (aG ts) up then 12 else 0
def bz (ts:Array Value) (h up:Int):Array Value:=ts.setIfInBounds (pl h) (.int .u32 up)
def bO (ts:Array Value) (h up:Int):Array Value:=if dz ts h up=0 then bz ts h up else ts
theorem adx (hf:ay ts) {h up:Int} (hh:aB ts h=true) (hu:up=0∨aB ts up=true) {zz:Array Value} (hz:zz.size=448):∀ x,x=0∨x∈af ts→(h∈cm (aG ts) x↔h∈cm (aG ts) up)→Good Tryz.prog (bM 0 [] (fu (bO ts h up) (dz ts h up)) aT) 0 (yG ts h up x zz) (yH ts h up x zz):=by
 have hs:=hf.ok.sz
 have hb:=hf.ok
 have cQ:bP (aF ts):=hf.ok.bk
 have bK:(64:Nat)≤448:=by decide
 obtain ⟨s1,s2,s3,s4,s5,s6,s7⟩:=dX hb hh
 have bG:0≤h∧h<4294967296:=s6
 have es:(aP h).toNat=sl h:=rfl
 have n1:¬ (aB ts h=false∨(up≠0∧aB ts up=false)):=by
  rintro (k | ⟨k1,k2⟩)
  ·rw [hh] at k;cases k
  ·rcases hu with k | k
   ·exact k1 k
   ·rw [k] at k2;cases k2
 refine jj hf.fo (fun hi=>?_) fun x hx ih hi=>?_
 ·have n2:h∉cm (aG ts) up:=fun k=>by have:=hi.2 k;rw [fZ] at this;cases this
  have e1:dz ts h up=0:=by unfold dz;rw [if_neg n1,if_neg n2]
  have e2:bO ts h up=bz ts h up:=by unfold bO;rw [if_pos e1]
  refine bD Kg 1000 (VF ts h up 0 zz (bO ts h up) (dz ts h up) (fun _ _=>False)) ?_ (fun _ _ h=>h) (fun fs m hb=>SM (fun _ _ h=>h.elim) hb)
  have e3:ts.setIfInBounds (64+sl h*12) (.int .u32 up)=bz ts h up:=rfl
  have e4:(bz ts h up).size=448:=by unfold bz;rw [pY];exact hs
  have y:64+sl h*12<448:=by omega
  simp only [bne_self_eq_false,e1,e2,e3,e4,es,hs,hz,bG,s1,s2,y,q6]
 ·refine bD Kg 1000 (VF ts h up x zz (bO ts h up) (dz ts h up) (fun x' z'=>x'=aG ts x∧z'=zz∧(x==h)=false)) ?_ (fun _ _ h=>h) (fun fs m hb=>SM (fun x' z' ⟨e1,e2,e3⟩=>by
   rw [e1,e2]
   refine ih ?_
   rw [← hi,fO hf.fo hx]
   have e3:x≠h:=beq_eq_false_iff_ne.1 e3
   rw [List.mem_cons]
   exact ⟨.inr,fun k=>k.resolve_left fun e=>e3 e.symm⟩) hb)
  have d:(x != 0)=true:=bne_iff_ne.2 (hf.fo.nz x hx)
  have hx':0≤x∧x<4294967296:=iA hb (.inr hx)
  cases c:(x==h) with
  | true =>
   have e:h∈cm (aG ts) up:=by
    rw [← hi,fO hf.fo hx,beq_iff_eq.1 c]
    exact List.mem_cons_self ..
   have e1:dz ts h up=12:=by unfold dz;rw [if_neg n1,if_pos e]
   have e2:bO ts h up=ts:=by unfold bO;rw [if_neg (by rw [e1];decide)]
   simp only [d,e1,e2,hs,hz,q6]
  | false =>
   have tA:=(bU hb).1 hx
   obtain ⟨x1,x2,x3,x4,x5,x6,x7⟩:=dX hb tA
   have r:=hb.rg _ x3
   have VG:(aP x).toNat=sl x:=rfl
   have t0:aA .u32 ts (64+sl x*12):=r.u
   have lA:0≤aa ts (64+sl x*12)∧aa ts (64+sl x*12)<4294967296:=r.hu
   cases hp:bF (aF ts) (aa ts (64+sl x*12)) with
   | true =>
    have eu:aG ts x=aa ts (64+sl x*12):=by unfold aG;rw [tA,if_pos rfl];exact if_pos hp
    simp only [eg,d,hp,eu,VG,hs,bK,cQ,hx',lA,x1,x2,t0,Da,q6]
   | false =>
    have eu:aG ts x=0:=by unfold aG;rw [tA,if_pos rfl];exact if_neg (fun k=>by have k:bF (aF ts) (aa ts (64+sl x*12))=true:=k;rw [hp] at k;cases k)
    simp only [eg,d,hp,eu,VG,hs,bK,cQ,hx',lA,x1,x2,t0,Da,q6]
theorem XA (h up:Int) (m:aj):aq E0 62 [bB ts,u32 h,u32 up] m (bu [ay ts,aN h,aN up] (.ret (fu (bO ts h up) (dz ts h up)) m)):=by
 refine aq.pure aU (by kernel_rfl:E0.fn 62=some Tryz.f62) (by kernel_rfl:Tryz.f62.body=some (Tryz.f62.body.getD .skip)) (by kernel_rfl) (by kernel_rfl) fun hq=>?_
 have hf:ay ts:=hq _ (by simp)
 have hh:aN h:=hq _ (by simp)
 have hu:aN up:=hq _ (by simp)
 have bG:0≤h∧h<4294967296:=hh
 have iO:0≤up∧up<4294967296:=hu
 have hs:=hf.ok.sz
 have bK:(64:Nat)≤448:=by decide
 have cQ:bP (aF ts):=hf.ok.bk
 refine (Good.ret [] (bA Kg 1000 (aeG ts h up (bO ts h up) (dz ts h up) (fun x z=>x=up∧z.size=448∧aB ts h=true∧(up=0∨aB ts up=true))) ?_ (fun s m h=>h) fun fs m hb=>abX (fun x z ⟨e1,e2,e3,e4⟩=>by
  rw [e1]
  exact adx hf e3 e4 e2 up (e4.imp id (bU hf.ok).2) Iff.rfl) hb)).mono fun _ _ h=>h.1
 have bad:(aB ts h=false∨(up≠0∧aB ts up=false))→bO ts h up=ts∧dz ts h up=4:=fun k=>by
  have e1:dz ts h up=4:=by unfold dz;rw [if_pos k]
  exact ⟨by unfold bO;rw [if_neg (by rw [e1];decide)],e1⟩
 cases hg:bF (aF ts) h with
 | false =>
  obtain ⟨e1,e2⟩:=bad (.inl hg)
  simp only [eg,hg,e1,e2,hs,bK,cQ,bG,cF,Bool.not_true,Bool.not_false,q6]
 | true =>
  have hg':aB ts h=true:=hg
  by_cases hz:up=0
  ·have d:(up != 0)=false:=by rw [hz];rfl
   simp only [eg,hg,hg',d,hz,bne_self_eq_false,hs,bK,cQ,bG,true_or,Da,q8,q6]
   rfl
  ·have d:(up != 0)=true:=bne_iff_ne.2 hz
   cases cA:bF (aF ts) up with
   | false =>
    obtain ⟨e1,e2⟩:=bad (.inr ⟨hz,cA⟩)
    simp only [eg,hg,cA,d,e1,e2,hs,bK,cQ,bG,iO,q8,q6]
   | true =>
    have pK:aB ts up=true:=cA
    simp only [eg,hg,hg',cA,pK,d,hs,bK,cQ,bG,iO,or_true,Da,q8,q6]
    rfl
end
set_option linter.unusedVariables false
noncomputable def az (ts:Array Value) (h:Int):List Int:=if aB ts h=true then l8 (af ts) (aG ts) h else []
noncomputable def By (g:FuncId) (l:List SV) (m:aj):Option Tree:=match g,l with
 | 88,[.s (.agg (.op ts)),.s (.c (.f (.int .u32 h)))]=>some (.need [aM ts,aN h.den] (lf (az ts h.den) 30 m))
 | 47,[.s (.agg (.op ts)),.s (.c (.f (.int .u32 h)))]=>some (.need [ay ts,aN h.den] (.ret (i64 (.o (aY ts h.den:Int))) m))
 | 39,[.s (.agg (.op ts)),.s (.c (.f (.int .u32 h)))]=>some (.need [ay ts,aN h.den] (.ret (vv (aO ts h.den)) m))
 | 64,[.s (.agg (.op ts)),.s (.c (.f (.int .u32 a))),.s (.c (.f (.int .u32 h)))]=>some (.need [ay ts,aN h.den] (.ret (sB (.o (fm ts a.den h.den))) m))
 | 62,[.s (.agg (.op ts)),.s (.c (.f (.int .u32 h))),.s (.c (.f (.int .u32 u)))]=>some (.need [ay ts,aN h.den,aN u.den] (.ret (fu (bO ts h.den u.den) (dz ts h.den u.den)) m))
 | g,l=>Bx g l m
noncomputable def tB:Env:=⟨Tryz.prog,dg,Bx,dy [88*1000+5]⟩
noncomputable def VH:Env:=⟨Tryz.prog,dg,By,dy [97*1000+3]⟩
noncomputable def wj:Env:=⟨Tryz.prog,dg,By,dy [97*1000+3,86*1000+3]⟩
noncomputable def jT:pD:=vZ Tryz.f58 0 58
noncomputable def g_:pD:=vZ Tryz.f86 0 86
noncomputable def jd:SV:=.s (.c (.f (.lit (.slice none 0 0))))
noncomputable def fK (i n:Nat):SV:=.s (.c (.f (.slice i (.l 0) (.o n) (.full 1))))
noncomputable def tC (i n:Nat):SC:=.f (.slice i (.l 0) (.o n) (.full 1))
noncomputable def zd (i n:Nat):SC:=.f (.slice i (.l 0) (.o n) (.cut 1))
noncomputable def jy:List bh:=cY Tryz.f88 5
noncomputable def sW (ts:Array Value) (h:Int) (n:Nat) (rs:Array Value) (i:Int):List av:=[dw 88 Tryz.f88 [(1,.s (.c (.f (.int .u32 (.o h))))),(2,ptr 0 (.l 0)),(5,jd),(14,fK 1 n),(15,i64 (.o (n:Int))),(16,i64 (.o i))] jy]
noncomputable def sX (ts:Array Value) (h:Int) (n:Nat) (rs:Array Value) (i:Int):aj:=cD 2 [(0,⟨.op ts,39,true⟩),(1,⟨.pop rs,30,true⟩)]
def Gq (ts:Array Value) (h:Int) (n:Nat) (rs:Array Value) (Q:Int→Prop) (fs:List av) (m:aj):Prop:=(match b9 fs 0 with | some f0=>(match dh f0 16 with | some i=>(match aV f0 2 with | some p0=>(match fG f0 14 with | some p1=>Q i∧cV 0 [(0,p0),(1,p1)] (sW ts h n rs i) (sX ts h n rs i) fs m | none=>False) | none=>False) | none=>False) | none=>False)
noncomputable def LD:List bh:=cY Tryz.f88 5
noncomputable def BX (ts:Array Value) (h:Int) (n:Nat) (rs:Array Value) (i:Int) (k:Nat) (cs:Array Value):List av:=[dw 88 Tryz.f88 [(1,.s (.c (.f (.int .u32 (.o h))))),(2,ptr 0 (.l 0)),(5,fK 2 k),(14,fK 1 n),(15,i64 (.o (n:Int))),(16,i64 (.o i))] LD]
noncomputable def BY (ts:Array Value) (h:Int) (n:Nat) (rs:Array Value) (i:Int) (k:Nat) (cs:Array Value):aj:=cD 3 [(0,⟨.op ts,39,true⟩),(1,⟨.pop rs,30,true⟩),(2,⟨.pop cs,30,true⟩)]
def Gr (ts:Array Value) (h:Int) (n:Nat) (rs:Array Value) (Q:Int→Nat→Array Value→Prop) (fs:List av) (m:aj):Prop:=(match b9 fs 0 with | some f0=>(match dh f0 16 with | some i=>(match aV f0 2 with | some p0=>(match fG f0 14 with | some p1=>(match fG f0 5 with | some p2=>(match qR f0 5 with | some k=>(match cO m p2 with | some cs=>Q i k cs∧cV 0 [(0,p0),(1,p1),(2,p2)] (BX ts h n rs i k cs) (BY ts h n rs i k cs) fs m | none=>False) | none=>False) | none=>False) | none=>False) | none=>False) | none=>False) | none=>False)
def Hl (ts:Array Value) (h:Int) (n:Nat) (rs:Array Value) (QZ:Int→Prop) (QS:Int→Nat→Array Value→Prop) (fs:List av) (m:aj):Prop:=match fs with | f :: _=>(match f.tm.get 5 with | some (.s (.c (.f (.slice _ _ _ _))))=>Gr ts h n rs QS fs m | _=>Gq ts h n rs QZ fs m) | []=>False
def iS (s:SV) (m:aj):Prop:=match s with | .s (.c (.f (.lit (.slice none 0 0))))=>True | _=>False
noncomputable def Tw (ts:Array Value) (h:Int) (n:Nat) (rs:Array Value):Tree:=run tB 1000 0 [a_ 88 Tryz.f88.ntmps [bB ts,u32 h] (Tryz.f88.body.getD .skip)] aT
def Fx (ts:Array Value) (h:Int) (n:Nat) (rs:Array Value) (Ho:Int→Prop) (fs:List av) (m:aj):Prop:=Gq ts h n rs Ho fs m
noncomputable def nY:List bh:=cY Tryz.f86 3
noncomputable def fF:List bh:=.fD 5 :: jX Tryz.f58 0
noncomputable def vw (j:Nat) (ts:Array Value) (q:Nat) (os:Array Value) (n:Nat) (cs:Array Value):List av:=[xS 86 Tryz.f86 [(0,iH 5),(1,ptr 2 (.l 0)),(4,ptr 7 (.l 0))] nY (vm (j)),lq 58 Tryz.f58 [(5,ptr 1 (.l 0))] fF 4]
noncomputable def vA (j:Nat) (ts:Array Value) (q:Nat) (os:Array Value) (n:Nat) (cs:Array Value):aj:=yy (vn (j)) (nu 60 [(1,⟨.ls [tC 3 q],73,true⟩),(2,⟨.op ts,39,true⟩),(3,⟨.pop os,30,true⟩),(6,⟨.pop cs,30,true⟩),(7,⟨.ls [zd 6 n],73,true⟩)] [(4,.gZ),(5,jR Tryz.f58 0 58 (i_ Tryz.f58.ntmps [(5,ptr 1 (.l 0))]) 4)])
def ML (j:Nat) (ts:Array Value) (Q:Nat→Array Value→Nat→Array Value→Prop) (fs:List av) (m:aj):Prop:=(match b9 fs 0 with | some f0=>(match b9 fs 1 with | some f1=>(match aV f1 5 with | some p1=>(match aV f0 1 with | some p2=>(match iL m p1 0 with | some p3=>(match jS f0 0 with | some p5=>(match lu m p5 with | some p4=>(match aV f0 4 with | some p7=>(match iL m p7 0 with | some p6=>(match pJ m p1 0 with | some q=>(match cO m p3 with | some os=>(match pJ m p7 0 with | some n=>(match cO m p6 with | some cs=>Q q os n cs∧cV 0 ([(1,p1),(2,p2),(3,p3),(4,p4),(5,p5),(6,p6),(7,p7)]++vo (j) f0.gN) (vw j ts q os n cs) (vA j ts q os n cs) fs m | none=>False) | none=>False) | none=>False) | none=>False) | none=>False) | none=>False) | none=>False) | none=>False) | none=>False) | none=>False) | none=>False) | none=>False) | none=>False)
noncomputable def mO:List bh:=cY Tryz.f97 3
noncomputable def k9:List bh:=.fD 65 :: jX Tryz.f86 0
noncomputable def LF:List bh:=.fD 5 :: jX Tryz.f58 0
noncomputable def BZ (j:Nat) (ts:Array Value) (r:Nat) (ks:Array Value) (i:Int) (q:Nat) (os:Array Value) (n:Nat) (cs:Array Value):List av:=[dw 97 Tryz.f97 [(0,iH 65),(1,ptr 63 (.l 0)),(3,i64 (.o i))] mO,xS 86 Tryz.f86 [(0,iH 5),(1,ptr 2 (.l 0)),(4,ptr 7 (.l 0))] k9 (vm (j+1)),lq 58 Tryz.f58 [(5,ptr 1 (.l 0))] LF 4]
noncomputable def B0 (j:Nat) (ts:Array Value) (r:Nat) (ks:Array Value) (i:Int) (q:Nat) (os:Array Value) (n:Nat) (cs:Array Value):aj:=yy (vn (j+1)) (nu 66 [(1,⟨.ls [tC 61 q],73,true⟩),(2,⟨.op ts,39,true⟩),(6,⟨.pop cs,30,true⟩),(7,⟨.ls [zd 6 n],73,true⟩),(61,⟨.pop os,30,true⟩),(62,⟨.pop ks,30,true⟩),(63,⟨.ls [tC 62 r],73,true⟩)] [(4,.gZ),(5,jR Tryz.f58 0 58 (i_ Tryz.f58.ntmps [(5,ptr 1 (.l 0))]) 4),(65,jR Tryz.f86 0 86 (i_ Tryz.f86.ntmps [(0,iH 5),(1,ptr 2 (.l 0)),(4,ptr 7 (.l 0))]) (20+j))])
def MM (j:Nat) (ts:Array Value) (r:Nat) (ks:Array Value) (Q:Int→Nat→Array Value→Nat→Array Value→Prop) (fs:List av) (m:aj):Prop:=(match b9 fs 0 with | some f0=>(match b9 fs 1 with | some f1=>(match b9 fs 2 with | some f2=>(match dh f0 3 with | some i=>(match aV f2 5 with | some p1=>(match aV f1 1 with | some p2=>(match jS f1 0 with | some p5=>(match lu m p5 with | some p4=>(match aV f1 4 with | some p7=>(match iL m p7 0 with | some p6=>(match iL m p1 0 with | some tD=>(match aV f0 1 with | some ze=>(match iL m ze 0 with | some p62=>(match jS f0 0 with | some p65=>(match pJ m p1 0 with | some q=>(match cO m tD with | some os=>(match pJ m p7 0 with | some n=>(match cO m p6 with | some cs=>Q i q os n cs∧cV 0 ([(1,p1),(2,p2),(4,p4),(5,p5),(6,p6),(7,p7),(61,tD),(62,p62),(63,ze),(65,p65)]++vo (j+1) f1.gN) (BZ j ts r ks i q os n cs) (B0 j ts r ks i q os n cs) fs m | none=>False) | none=>False) | none=>False) | none=>False) | none=>False) | none=>False) | none=>False) | none=>False) | none=>False) | none=>False) | none=>False) | none=>False) | none=>False) | none=>False) | none=>False) | none=>False) | none=>False) | none=>False)
noncomputable def LG:List bh:=cY Tryz.f97 3
noncomputable def n5:List bh:=.fD 13 :: jX Tryz.f86 0
noncomputable def LH:List bh:=.fD 5 :: jX Tryz.f58 0
noncomputable def Gs (ts:Array Value) (h:Int) (r:Nat) (ks:Array Value) (i:Int):List av:=[dw 97 Tryz.f97 [(0,iH 13),(1,ptr 11 (.l 0)),(3,i64 (.o i))] LG,lq 86 Tryz.f86 [(0,iH 5),(1,ptr 2 (.l 0)),(4,ptr 7 (.l 0))] n5 12,lq 58 Tryz.f58 [(5,ptr 1 (.l 0))] LH 4]
noncomputable def Gu (ts:Array Value) (h:Int) (r:Nat) (ks:Array Value) (i:Int):aj:=nu 14 [(1,⟨.ls [.f (.slice 9 (.l 0) (.l 1) (.full 1))],73,true⟩),(2,⟨.op ts,39,true⟩),(6,⟨.ls [.f (.int .u32 (.o h))],30,true⟩),(7,⟨.ls [.f (.slice 6 (.l 0) (.l 0) (.n (.l 1)))],73,true⟩),(9,⟨.pre [.f (.int .u32 (.o h))],30,true⟩),(10,⟨.pop ks,30,true⟩),(11,⟨.ls [tC 10 r],73,true⟩)] [(4,.gZ),(5,jR Tryz.f58 0 58 (i_ Tryz.f58.ntmps [(5,ptr 1 (.l 0))]) 4),(12,.gZ),(13,jR Tryz.f86 0 86 (i_ Tryz.f86.ntmps [(0,iH 5),(1,ptr 2 (.l 0)),(4,ptr 7 (.l 0))]) 12)]
def Gv (ts:Array Value) (h:Int) (r:Nat) (ks:Array Value) (Q:Int→Prop) (fs:List av) (m:aj):Prop:=(match b9 fs 0 with | some f0=>(match b9 fs 1 with | some f1=>(match b9 fs 2 with | some f2=>(match dh f0 3 with | some i=>(match aV f2 5 with | some p1=>(match aV f1 1 with | some p2=>(match jS f1 0 with | some p5=>(match lu m p5 with | some p4=>(match aV f1 4 with | some p7=>(match iL m p7 0 with | some p6=>(match iL m p1 0 with | some p9=>(match aV f0 1 with | some q_=>(match iL m q_ 0 with | some kL=>(match jS f0 0 with | some wk=>(match lu m wk with | some zf=>Q i∧cV 0 [(1,p1),(2,p2),(4,p4),(5,p5),(6,p6),(7,p7),(9,p9),(10,kL),(11,q_),(12,zf),(13,wk)] (Gs ts h r ks i) (Gu ts h r ks i) fs m | none=>False) | none=>False) | none=>False) | none=>False) | none=>False) | none=>False) | none=>False) | none=>False) | none=>False) | none=>False) | none=>False) | none=>False) | none=>False) | none=>False) | none=>False)
noncomputable def Uh (ts:Array Value) (h:Int):Tree:=run VH 1000 0 [a_ 58 Tryz.f58.ntmps [bB ts,u32 h] (Tryz.f58.body.getD .skip)] aT
def Cx (j:Nat) (ts:Array Value) (r:Nat) (ks:Array Value) (QA:Nat→Array Value→Nat→Array Value→Prop) (QB:Int→Nat→Array Value→Nat→Array Value→Prop) (fs:List av) (m:aj):Prop:=match Nat.beq (atR fs) (86*1000+3) with | true=>ML (j+1) ts QA fs m | false=>MM j ts r ks QB fs m
theorem zN (r:Nat→Option Nat):ak r jy jy:=ak.it (by kernel_rfl)
theorem IY (r:Nat→Option Nat):ak r LD LD:=ak.it (by kernel_rfl)
theorem IZ (r:Nat→Option Nat):ak r nY nY:=ak.it (by kernel_rfl)
theorem ae_ {l:List (Nat × Nat)}:ak (aD 0 ([(1,1),(2,2),(3,3),(4,4),(5,5),(6,6),(7,7)]++l)) fF fF:=ak.rf rfl (by kernel_rfl)
theorem XC:ak (aD 0 [(1,1),(2,2),(3,3),(4,4),(5,5),(6,6),(7,7)]) fF fF:=ak.rf rfl (by kernel_rfl)
theorem Db (r:Nat→Option Nat):ak r mO mO:=ak.it (by kernel_rfl)
theorem ae' {l:List (Nat × Nat)}:ak (aD 0 ([(1,1),(2,2),(4,4),(5,5),(6,6),(7,7),(61,61),(62,62),(63,63),(65,65)]++l)) k9 k9:=ak.rf rfl (by kernel_rfl)
theorem ae1:ak (aD 0 [(1,1),(2,2),(4,4),(5,5),(6,6),(7,7),(61,61),(62,62),(63,63),(65,65)]) k9 k9:=ak.rf rfl (by kernel_rfl)
theorem afa {l:List (Nat × Nat)}:ak (aD 0 ([(1,1),(2,2),(4,4),(5,5),(6,6),(7,7),(61,61),(62,62),(63,63),(65,65)]++l)) LF LF:=ak.rf rfl (by kernel_rfl)
theorem afb (r:Nat→Option Nat):ak r LG LG:=ak.it (by kernel_rfl)
theorem afc {l:List (Nat × Nat)}:ak (aD 0 ([(1,1),(2,2),(4,4),(5,5),(6,6),(7,7),(9,9),(10,10),(11,11),(12,12),(13,13)]++l)) n5 n5:=ak.rf rfl (by kernel_rfl)
theorem XD:ak (aD 0 [(1,1),(2,2),(4,4),(5,5),(6,6),(7,7),(9,9),(10,10),(11,11),(12,12),(13,13)]) n5 n5:=ak.rf rfl (by kernel_rfl)
theorem afd {l:List (Nat × Nat)}:ak (aD 0 ([(1,1),(2,2),(4,4),(5,5),(6,6),(7,7),(9,9),(10,10),(11,11),(12,12),(13,13)]++l)) LH LH:=ak.rf rfl (by kernel_rfl)
theorem RD {A:SV→aj→Prop} {ts:Array Value} {h:Int} {n:Nat} {rs:Array Value} {Q:Int→Prop} {fs:List av} {m:aj} (H:∀ i,Q i→Good Tryz.prog A 0 (sW ts h n rs i) (sX ts h n rs i)) (hb:Gq ts h n rs Q fs m):Good Tryz.prog A 0 fs m:=by
 unfold Gq at hb
 iterate 4 (split at hb;rotate_left;exact hb.elim)
 exact Good.c_ hb.2 (H _ hb.1)
theorem Jt {A:SV→aj→Prop} {ts:Array Value} {h:Int} {n:Nat} {rs:Array Value} {Q:Int→Nat→Array Value→Prop} {fs:List av} {m:aj} (H:∀ i k cs,Q i k cs→Good Tryz.prog A 0 (BX ts h n rs i k cs) (BY ts h n rs i k cs)) (hb:Gr ts h n rs Q fs m):Good Tryz.prog A 0 fs m:=by
 unfold Gr at hb
 iterate 7 (split at hb;rotate_left;exact hb.elim)
 exact Good.c_ hb.2 (H _ _ _ hb.1)
theorem SO {A:SV→aj→Prop} {ts:Array Value} {h:Int} {n:Nat} {rs:Array Value} {Ho:Int→Prop} {fs:List av} {m:aj} (hkZ:∀ i',Ho i'→Good Tryz.prog A 0 (sW ts h n rs i') (sX ts h n rs i')) (hb:Fx ts h n rs Ho fs m):Good Tryz.prog A 0 fs m:=by
 unfold Fx at hb
 exact RD hkZ hb
theorem aac {A:SV→aj→Prop} {j:Nat} {ts:Array Value} {Q:Nat→Array Value→Nat→Array Value→Prop} {fs:List av} {m:aj} (H:∀ q os n cs,Q q os n cs→Good Tryz.prog A 0 (vw j ts q os n cs) (vA j ts q os n cs)) (hb:ML j ts Q fs m):Good Tryz.prog A 0 fs m:=by
 unfold ML at hb
 iterate 13 (split at hb;rotate_left;exact hb.elim)
 exact Good.c_ hb.2 (H _ _ _ _ hb.1)
theorem aad {A:SV→aj→Prop} {j:Nat} {ts:Array Value} {r:Nat} {ks:Array Value} {Q:Int→Nat→Array Value→Nat→Array Value→Prop} {fs:List av} {m:aj} (H:∀ i q os n cs,Q i q os n cs→Good Tryz.prog A 0 (BZ j ts r ks i q os n cs) (B0 j ts r ks i q os n cs)) (hb:MM j ts r ks Q fs m):Good Tryz.prog A 0 fs m:=by
 unfold MM at hb
 iterate 18 (split at hb;rotate_left;exact hb.elim)
 exact Good.c_ hb.2 (H _ _ _ _ _ hb.1)
theorem RE {A:SV→aj→Prop} {ts:Array Value} {h:Int} {r:Nat} {ks:Array Value} {Q:Int→Prop} {fs:List av} {m:aj} (H:∀ i,Q i→Good Tryz.prog A 0 (Gs ts h r ks i) (Gu ts h r ks i)) (hb:Gv ts h r ks Q fs m):Good Tryz.prog A 0 fs m:=by
 unfold Gv at hb
 iterate 15 (split at hb;rotate_left;exact hb.elim)
 exact Good.c_ hb.2 (H _ hb.1)
set_option maxRecDepth 100000
theorem VI (ts:Array Value) (h:Int) (n:Nat) (rs:Array Value) (i:Int) (QZ:Int→Prop) (QS:Int→Nat→Array Value→Prop):(stepT tB.go (run tB 1000) 0 (sW ts h n rs i) (sX ts h n rs i)).vc iS (Hl ts h n rs QZ QS) =
  ((decide (i<(↑n:Int))=true→((0≤i∧i<(↑n:Int))∧True)∧(aA .u32 rs (0+i.toNat*1)∧True)∧(ts.size=448∧True)∧(aM ts∧(0≤aa rs (0+i.toNat*1)∧aa rs (0+i.toNat*1)<4294967296)∧True)∧((aG ts (aa rs (0+i.toNat*1))==h)=true→QS (ah .add .i64 i 1) (1:Nat) #[Value.int .u32 (aa rs (0+i.toNat*1))]∧cN∧ak (aD 0 [(0,0),(1,1),(2,3)]) jy jy∧h=h∧(↑n:Int)=(↑n:Int)∧(1:Nat)=1∧ah .add .i64 i 1=ah .add .i64 i 1∧n=n∧39=39∧ts=ts∧30=30∧rs=rs∧30=30∧#[Value.int .u32 (aa rs (0+i.toNat*1))]=#[Value.int .u32 (aa rs (0+i.toNat*1))]∧True)∧((aG ts (aa rs (0+i.toNat*1))==h)=false→QZ (ah .add .i64 i 1)∧cN∧ak (aD 0 [(0,0),(1,1)]) jy jy∧h=h∧(↑n:Int)=(↑n:Int)∧Value.slice none 0 0=Value.slice none 0 0∧ah .add .i64 i 1=ah .add .i64 i 1∧n=n∧39=39∧ts=ts∧30=30∧rs=rs∧True))∧(decide (i<(↑n:Int))=false→True)):=by kernel_rfl
theorem kd2 (ts:Array Value) (h:Int) (n:Nat) (rs:Array Value) (i:Int) (kF:Nat) (cj:Array Value) (QZ:Int→Prop) (QS:Int→Nat→Array Value→Prop):(stepT tB.go (run tB 1000) 0 (sW ts h n rs i) (sX ts h n rs i)).vc (dL kF cj 30) (Hl ts h n rs QZ QS) =
  ((decide (i<(↑n:Int))=true→((0≤i∧i<(↑n:Int))∧True)∧(aA .u32 rs (0+i.toNat*1)∧True)∧(ts.size=448∧True)∧(aM ts∧(0≤aa rs (0+i.toNat*1)∧aa rs (0+i.toNat*1)<4294967296)∧True)∧((aG ts (aa rs (0+i.toNat*1))==h)=true→QS (ah .add .i64 i 1) (1:Nat) #[Value.int .u32 (aa rs (0+i.toNat*1))]∧cN∧ak (aD 0 [(0,0),(1,1),(2,3)]) jy jy∧h=h∧(↑n:Int)=(↑n:Int)∧(1:Nat)=1∧ah .add .i64 i 1=ah .add .i64 i 1∧n=n∧39=39∧ts=ts∧30=30∧rs=rs∧30=30∧#[Value.int .u32 (aa rs (0+i.toNat*1))]=#[Value.int .u32 (aa rs (0+i.toNat*1))]∧True)∧((aG ts (aa rs (0+i.toNat*1))==h)=false→QZ (ah .add .i64 i 1)∧cN∧ak (aD 0 [(0,0),(1,1)]) jy jy∧h=h∧(↑n:Int)=(↑n:Int)∧Value.slice none 0 0=Value.slice none 0 0∧ah .add .i64 i 1=ah .add .i64 i 1∧n=n∧39=39∧ts=ts∧30=30∧rs=rs∧True))∧(decide (i<(↑n:Int))=false→False)):=by kernel_rfl
theorem VJ (ts:Array Value) (h:Int) (n:Nat) (rs:Array Value) (i:Int) (k:Nat) (cs:Array Value) (kF:Nat) (cj:Array Value) (QS:Int→Nat→Array Value→Prop):(stepT tB.go (run tB 1000) 0 (BX ts h n rs i k cs) (BY ts h n rs i k cs)).vc (dL kF cj 30) (Gr ts h n rs QS) =
  ((decide (i<(↑n:Int))=true→((0≤i∧i<(↑n:Int))∧True)∧(aA .u32 rs (0+i.toNat*1)∧True)∧(ts.size=448∧True)∧(aM ts∧(0≤aa rs (0+i.toNat*1)∧aa rs (0+i.toNat*1)<4294967296)∧True)∧((aG ts (aa rs (0+i.toNat*1))==h)=true→(((k+1)*4≤140737488355328∧k+1≤140737488355328)∧k*1=cs.size∧True)∧QS (ah .add .i64 i 1) (k+1) (cs++#[Value.int .u32 (aa rs (0+i.toNat*1))])∧cN∧ak (aD 0 [(0,0),(1,1),(2,4)]) jy jy∧h=h∧(↑n:Int)=(↑n:Int)∧k+1=k+1∧ah .add .i64 i 1=ah .add .i64 i 1∧n=n∧39=39∧ts=ts∧30=30∧rs=rs∧30=30∧cs++#[Value.int .u32 (aa rs (0+i.toNat*1))]=cs++#[Value.int .u32 (aa rs (0+i.toNat*1))]∧True)∧((aG ts (aa rs (0+i.toNat*1))==h)=false→QS (ah .add .i64 i 1) k cs∧cN∧ak (aD 0 [(0,0),(1,1),(2,2)]) jy jy∧h=h∧(↑n:Int)=(↑n:Int)∧k=k∧ah .add .i64 i 1=ah .add .i64 i 1∧n=n∧39=39∧ts=ts∧30=30∧rs=rs∧30=30∧cs=cs∧True))∧(decide (i<(↑n:Int))=false→kF=k∧30=30∧cj=cs∧True)):=by kernel_rfl
noncomputable def pG (ts:Array Value):Array Value:=Array.extract ts 0 64
theorem kdN (ts:Array Value) (h:Int) (n:Nat) (rs:Array Value) (Q:Int→Prop):(Tw ts h n rs).vc iS (Fx ts h n rs Q) =
  ((64≤ts.size∧True)∧(bP (pG ts)∧(0≤h∧h<4294967296)∧True)∧((!bF (pG ts) h)=true→True)∧((!bF (pG ts) h)=false→(ts.size=448∧True)∧(64≤ts.size∧True)∧(bP (pG ts)∧True)∧(decide ((d_ (pG ts)).length=0)=true→False)∧(decide ((d_ (pG ts)).length=0)=false→Q (0:Int)∧cN∧ak (aD 0 [(0,0),(1,2)]) jy jy∧h=h∧(↑n:Int)=(↑((d_ (pG ts)).length):Int)∧Value.slice none 0 0=Value.slice none 0 0∧(0:Int)=(0:Int)∧n=(d_ (pG ts)).length∧39=39∧ts=ts∧30=30∧rs=aL (d_ (pG ts))∧True))):=by kernel_rfl
theorem aeH (ts:Array Value) (h:Int) (n:Nat) (rs:Array Value) (kF:Nat) (cj:Array Value) (Q:Int→Prop):(Tw ts h n rs).vc (dL kF cj 30) (Fx ts h n rs Q) =
  ((64≤ts.size∧True)∧(bP (Array.extract ts 0 64)∧(0≤h∧h<4294967296)∧True)∧((!bF (Array.extract ts 0 64) h)=true→False)∧((!bF (Array.extract ts 0 64) h)=false→(ts.size=448∧True)∧(64≤ts.size∧True)∧(bP (Array.extract ts 0 64)∧True)∧(decide ((d_ (Array.extract ts 0 64)).length=0)=true→False)∧(decide ((d_ (Array.extract ts 0 64)).length=0)=false→Q (0:Int)∧cN∧ak (aD 0 [(0,0),(1,2)]) jy jy∧h=h∧(↑n:Int)=(↑((d_ (Array.extract ts 0 64)).length):Int)∧Value.slice none 0 0=Value.slice none 0 0∧(0:Int)=(0:Int)∧n=(d_ (Array.extract ts 0 64)).length∧39=39∧ts=ts∧30=30∧rs=aL (d_ (Array.extract ts 0 64))∧True))):=by kernel_rfl
theorem unN (ts:Array Value) (h:Int) (r:Nat) (ks:Array Value) (Q:Int→Prop):(Uh ts h).vc iS (Gv ts h r ks Q) =
  ((ts.size=448∧True)∧(64≤ts.size∧True)∧(bP (Array.extract ts 0 64)∧(0≤h∧h<4294967296)∧True)∧((!bF (Array.extract ts 0 64) h)=true→True)∧((!bF (Array.extract ts 0 64) h)=false→(ts.size=448∧True)∧(aM ts∧(0≤h∧h<4294967296)∧True)∧(decide ((az ts h).length=0)=true→False)∧(decide ((az ts h).length=0)=false→(decide (ah .sub .i64 (↑((az ts h).length):Int) (1:Int)≥0)=true→Q (ah .sub .i64 (↑((az ts h).length):Int) (1:Int))∧cN∧ak (aD 0 [(1,1),(2,2),(4,4),(5,5),(6,6),(7,7),(9,9),(10,10),(11,11),(12,12),(13,13)]) mO mO∧ah .sub .i64 (↑((az ts h).length):Int) (1:Int)=ah .sub .i64 (↑((az ts h).length):Int) (1:Int)∧cN∧ak (aD 0 [(1,1),(2,2),(4,4),(5,5),(6,6),(7,7),(9,9),(10,10),(11,11),(12,12),(13,13)]) n5 n5∧cN∧ak (aD 0 [(1,1),(2,2),(4,4),(5,5),(6,6),(7,7),(9,9),(10,10),(11,11),(12,12),(13,13)]) fF fF∧73=73∧73=73∧73=73∧r=(az ts h).length∧30=30∧h=h∧39=39∧ts=ts∧30=30∧h=h∧30=30∧ks=aL (az ts h)∧dN jT jT∧dN g_ g_∧True)∧(decide (ah .sub .i64 (↑((az ts h).length):Int) (1:Int)≥0)=false→False)))):=by kernel_rfl
theorem aeI (ts:Array Value) (h:Int) (r:Nat) (ks:Array Value) (kF:Nat) (cj:Array Value) (Q:Int→Prop):(Uh ts h).vc (dL kF cj 30) (Gv ts h r ks Q) =
  ((ts.size=448∧True)∧(64≤ts.size∧True)∧(bP (Array.extract ts 0 64)∧(0≤h∧h<4294967296)∧True)∧((!bF (Array.extract ts 0 64) h)=true→False)∧((!bF (Array.extract ts 0 64) h)=false→(ts.size=448∧True)∧(aM ts∧(0≤h∧h<4294967296)∧True)∧(decide ((az ts h).length=0)=true→kF=(1:Nat)∧30=30∧cj=#[Value.int .u32 h]∧True)∧(decide ((az ts h).length=0)=false→(decide (ah .sub .i64 (↑((az ts h).length):Int) (1:Int)≥0)=true→Q (ah .sub .i64 (↑((az ts h).length):Int) (1:Int))∧cN∧ak (aD 0 [(1,1),(2,2),(4,4),(5,5),(6,6),(7,7),(9,9),(10,10),(11,11),(12,12),(13,13)]) mO mO∧ah .sub .i64 (↑((az ts h).length):Int) (1:Int)=ah .sub .i64 (↑((az ts h).length):Int) (1:Int)∧cN∧ak (aD 0 [(1,1),(2,2),(4,4),(5,5),(6,6),(7,7),(9,9),(10,10),(11,11),(12,12),(13,13)]) n5 n5∧cN∧ak (aD 0 [(1,1),(2,2),(4,4),(5,5),(6,6),(7,7),(9,9),(10,10),(11,11),(12,12),(13,13)]) fF fF∧73=73∧73=73∧73=73∧r=(az ts h).length∧30=30∧h=h∧39=39∧ts=ts∧30=30∧h=h∧30=30∧ks=aL (az ts h)∧dN jT jT∧dN g_ g_∧True)∧(decide (ah .sub .i64 (↑((az ts h).length):Int) (1:Int)≥0)=false→kF=(1:Nat)∧30=30∧cj=#[Value.int .u32 h]∧True)))):=by kernel_rfl
theorem unI (ts:Array Value) (h:Int) (r:Nat) (ks:Array Value) (i:Int) (kF:Nat) (cj:Array Value) (QA:Nat→Array Value→Nat→Array Value→Prop) (QB:Int→Nat→Array Value→Nat→Array Value→Prop):(stepT wj.go (run wj 1000) 0 (Gs ts h r ks i) (Gu ts h r ks i)).vc (dL kF cj 30) (Cx 0 ts r ks QA QB) =
  (((0≤i∧i<(↑r:Int))∧True)∧(aA .u32 ks (0+i.toNat*1)∧True)∧(decide (ah .sub .i64 i 1≥0)=true→QB (ah .sub .i64 i 1) (1:Nat) #[Value.int .u32 h] (1:Nat) #[Value.int .u32 (aa ks (0+i.toNat*1))]∧cN∧ak (aD 0 [(1,1),(2,2),(4,4),(5,5),(6,15),(7,7),(61,9),(62,10),(63,11),(65,13),(20,12)]) mO mO∧ah .sub .i64 i 1=ah .sub .i64 i 1∧cN∧ak (aD 0 [(1,1),(2,2),(4,4),(5,5),(6,15),(7,7),(61,9),(62,10),(63,11),(65,13),(20,12)]) k9 n5∧cN∧ak (aD 0 [(1,1),(2,2),(4,4),(5,5),(6,15),(7,7),(61,9),(62,10),(63,11),(65,13),(20,12)]) fF fF∧73=73∧(1:Nat)=1∧73=73∧(1:Nat)=1∧73=73∧r=r∧30=30∧#[Value.int .u32 h]=#[Value.int .u32 h]∧39=39∧ts=ts∧30=30∧#[Value.int .u32 (aa ks (0+i.toNat*1))]=#[Value.int .u32 (aa ks (0+i.toNat*1))]∧30=30∧ks=ks∧dN jT jT∧dN g_ g_∧True)∧(decide (ah .sub .i64 i 1≥0)=false→QA (1:Nat) #[Value.int .u32 h] (1:Nat) #[Value.int .u32 (aa ks (0+i.toNat*1))]∧cN∧ak (aD 0 [(1,1),(2,2),(3,9),(4,4),(5,5),(6,15),(7,7),(20,12)]) nY nY∧cN∧ak (aD 0 [(1,1),(2,2),(3,9),(4,4),(5,5),(6,15),(7,7),(20,12)]) fF fF∧73=73∧(1:Nat)=1∧30=30∧#[Value.int .u32 h]=#[Value.int .u32 h]∧73=73∧(1:Nat)=1∧39=39∧ts=ts∧30=30∧#[Value.int .u32 (aa ks (0+i.toNat*1))]=#[Value.int .u32 (aa ks (0+i.toNat*1))]∧dN jT jT∧True)):=by kernel_rfl
set_option linter.unusedVariables false
theorem uj:bf tB:=bf.with aU _ _ IX
section
variable {ts:Array Value} {h:Int}
def cG (ts:Array Value) (h:Int) (i:Nat):List Int:=((af ts).take i).filter fun k=>aG ts k==h
theorem tJ {i:Nat} (hi:i<(af ts).length):cG ts h (i+1)=if (aG ts ((af ts).getD i 0)==h)=true then cG ts h i++[(af ts).getD i 0] else cG ts h i:=by
 unfold cG
 rw [List.take_add_one,List.getElem?_eq_getElem hi,List.getD_eq_getElem?_getD,List.getElem?_eq_getElem hi,List.filter_append]
 simp only [Option.toList_some,Option.getD_some]
 rw [List.filter_cons,List.filter_nil]
 split <;> simp
theorem RU (i:Nat):(cG ts h i).length≤i:=by
 have:=List.length_filter_le (fun k=>aG ts k==h) ((af ts).take i)
 rw [List.length_take] at this
 unfold cG
 omega
theorem Dl (hg:aB ts h=true):cG ts h (af ts).length=az ts h:=by
 unfold cG az l8
 rw [List.take_length,if_pos hg]
theorem QD {i j:Nat} (hj:j≤(af ts).length) (hi:i≤j) (e:cG ts h j=[]):cG ts h i=[]:=by
 induction j with
 | zero =>
  obtain rfl:i=0:=by omega
  exact e
 | succ j ih =>
  by_cases c:i=j+1
  ·rw [c];exact e
  ·refine ih (by omega) (by omega) ?_
   rw [tJ (by omega)] at e
   split at e
   ·simp at e
   ·exact e
theorem iw (ts:Array Value):(af ts).length≤32:=Dj 32
theorem fN {l:List Int} {i:Nat} (hi:i<l.length):(aL l)[i]?=some (.int .u32 (l.getD i 0)):=by
 unfold aL
 rw [List.getElem?_toArray,List.getElem?_map,List.getD_eq_getElem?_getD,List.getElem?_eq_getElem hi]
 rfl
theorem rP (x:Int):#[Value.int .u32 x]=aL [x]:=rfl
theorem nV {i:Nat} (hb:aM ts) (hi:i<(af ts).length):(af ts).getD i 0∈af ts:=by
 rw [List.getD_eq_getElem?_getD,List.getElem?_eq_getElem hi];exact List.getElem_mem _
theorem I0 {n:Nat} {rs:Array Value} {A:SV→aj→Prop} {QZ:Int→Prop} {QS:Int→Nat→Array Value→Prop} {fs:List av} {m:aj} (hz:∀ i,QZ i→Good Tryz.prog A 0 (sW ts h n rs i) (sX ts h n rs i)) (hs:∀ i k cs,QS i k cs→Good Tryz.prog A 0 (BX ts h n rs i k cs) (BY ts h n rs i k cs)) (hb:Hl ts h n rs QZ QS fs m):Good Tryz.prog A 0 fs m:=by
 unfold Hl at hb
 split at hb
 ·split at hb
  ·exact Jt hs hb
  ·exact RD hz hb
 ·exact hb.elim
theorem ady (hb:aM ts):∀ (k i:Nat),i+k=(af ts).length→Good Tryz.prog (dL (cG ts h (af ts).length).length (aL (cG ts h (af ts).length)) 30) 0 (BX ts h (af ts).length (aL (af ts)) (i:Int) (cG ts h i).length (aL (cG ts h i))) (BY ts h (af ts).length (aL (af ts)) (i:Int) (cG ts h i).length (aL (cG ts h i))):=by
 have hs:=hb.sz
 have hlen:=iw ts
 intro k
 induction k with
 | zero =>
  intro i hi
  obtain rfl:i=(af ts).length:=by omega
  refine bD uj 1000 (VJ ts h _ _ _ _ _ (cG ts h (af ts).length).length (aL (cG ts h (af ts).length)) (fun _ _ _=>False)) ?_ (fun _ _ h=>h) (fun fs m hb=>Jt (fun _ _ _ h=>h.elim) hb)
  have d:decide (((af ts).length:Int)<((af ts).length:Int))=false:=decide_eq_false (by omega)
  simp only [d,q6]
 | succ k ih =>
  intro i hi
  refine bD uj 1000 (VJ ts h _ _ (i:Int) _ _ (cG ts h (af ts).length).length (aL (cG ts h (af ts).length)) (fun i' k' c'=>i'=((i+1:Nat):Int)∧k'=(cG ts h (i+1)).length∧c'=aL (cG ts h (i+1)))) ?_ (fun _ _ h=>h) (fun fs m hb=>Jt (fun i' k' c' ⟨e1,e2,e3⟩=>by rw [e1,e2,e3];exact ih (i+1) (by omega)) hb)
  have hi':i<(af ts).length:=by omega
  have d:decide ((i:Int)<((af ts).length:Int))=true:=decide_eq_true (by omega)
  have ei:ah .add .i64 (i:Int) 1=((i+1:Nat):Int):=by rw [dn,cC (by omega) (by omega)];omega
  have g1:aA .u32 (aL (af ts)) i:=bw (fN hi')
  have g2:aa (aL (af ts)) i=(af ts).getD i 0:=bI (fN hi')
  have hy:0≤(af ts).getD i 0∧(af ts).getD i 0<4294967296:=iA hb (.inr (nV hb hi'))
  have jo:0≤(i:Int):=by omega
  have jC:(i:Int)<((af ts).length:Int):=by omega
  have hl:(cG ts h i).length≤i:=RU i
  have je:(((cG ts h i).length+1)*4≤140737488355328∧(cG ts h i).length+1≤140737488355328):=⟨by omega,by omega⟩
  rw [tJ hi']
  cases c:(aG ts ((af ts).getD i 0)==h)
  all_goals
   simp only [d,ei,g1,g2,hy,jo,jC,hs,hb,je,c,pW,pZ,List.length_append,List.length_cons,List.length_nil,if_true,if_false,decide_true,zN,IY,q7,q6]
theorem aeJ (hb:aM ts) (hne:cG ts h (af ts).length≠[]):∀ (k i:Nat),i+k=(af ts).length→cG ts h i=[]→Good Tryz.prog (dL (cG ts h (af ts).length).length (aL (cG ts h (af ts).length)) 30) 0 (sW ts h (af ts).length (aL (af ts)) (i:Int)) (sX ts h (af ts).length (aL (af ts)) (i:Int)):=by
 have hs:=hb.sz
 have hlen:=iw ts
 intro k
 induction k with
 | zero =>
  intro i hi he
  obtain rfl:i=(af ts).length:=by omega
  exact absurd he hne
 | succ k ih =>
  intro i hi he
  refine bD uj 1000 (kd2 ts h _ _ (i:Int) (cG ts h (af ts).length).length (aL (cG ts h (af ts).length)) (fun i'=>i'=((i+1:Nat):Int)∧cG ts h (i+1)=[]) (fun i' k' c'=>i'=((i+1:Nat):Int)∧k'=(cG ts h (i+1)).length∧c'=aL (cG ts h (i+1)))) ?_ (fun _ _ h=>h) (fun fs m hb'=>I0 (fun i' ⟨e1,e2⟩=>by rw [e1];exact ih (i+1) (by omega) e2) (fun i' k' c' ⟨e1,e2,e3⟩=>by rw [e1,e2,e3];exact ady hb k (i+1) (by omega)) hb')
  have hi':i<(af ts).length:=by omega
  have d:decide ((i:Int)<((af ts).length:Int))=true:=decide_eq_true (by omega)
  have ei:ah .add .i64 (i:Int) 1=((i+1:Nat):Int):=by rw [dn,cC (by omega) (by omega)];omega
  have g1:aA .u32 (aL (af ts)) i:=bw (fN hi')
  have g2:aa (aL (af ts)) i=(af ts).getD i 0:=bI (fN hi')
  have hy:0≤(af ts).getD i 0∧(af ts).getD i 0<4294967296:=iA hb (.inr (nV hb hi'))
  have jo:0≤(i:Int):=by omega
  have jC:(i:Int)<((af ts).length:Int):=by omega
  rw [tJ hi',he]
  cases c:(aG ts ((af ts).getD i 0)==h)
  all_goals
   simp only [d,ei,g1,g2,hy,jo,jC,hs,hb,c,rP,List.nil_append,List.length_cons,List.length_nil,if_true,if_false,decide_true,zN,IY,q7,q6]
theorem adz (hb:aM ts) (hne:cG ts h (af ts).length=[]):∀ (k i:Nat),i+k=(af ts).length→Good Tryz.prog iS 0 (sW ts h (af ts).length (aL (af ts)) (i:Int)) (sX ts h (af ts).length (aL (af ts)) (i:Int)):=by
 have hs:=hb.sz
 have hlen:=iw ts
 intro k
 induction k with
 | zero =>
  intro i hi
  obtain rfl:i=(af ts).length:=by omega
  refine bD uj 1000 (VI ts h _ _ _ (fun _=>False) (fun _ _ _=>False)) ?_ (fun _ _ h=>h) (fun fs m hb=>I0 (fun _ h=>h.elim) (fun _ _ _ h=>h.elim) hb)
  have d:decide (((af ts).length:Int)<((af ts).length:Int))=false:=decide_eq_false (by omega)
  simp only [d,q6]
 | succ k ih =>
  intro i hi
  refine bD uj 1000 (VI ts h _ _ (i:Int) (fun i'=>i'=((i+1:Nat):Int)) (fun i' k' c'=>False)) ?_ (fun _ _ h=>h) (fun fs m hb'=>I0 (fun i' e1=>by rw [e1];exact ih (i+1) (by omega)) (fun _ _ _ h=>h.elim) hb')
  have hi':i<(af ts).length:=by omega
  have d:decide ((i:Int)<((af ts).length:Int))=true:=decide_eq_true (by omega)
  have ei:ah .add .i64 (i:Int) 1=((i+1:Nat):Int):=by rw [dn,cC (by omega) (by omega)];omega
  have g1:aA .u32 (aL (af ts)) i:=bw (fN hi')
  have g2:aa (aL (af ts)) i=(af ts).getD i 0:=bI (fN hi')
  have hy:0≤(af ts).getD i 0∧(af ts).getD i 0<4294967296:=iA hb (.inr (nV hb hi'))
  have jo:0≤(i:Int):=by omega
  have jC:(i:Int)<((af ts).length:Int):=by omega
  have he:=QD (h:=h) (i:=i+1) (Nat.le_refl _) (by omega) hne
  have c:(aG ts ((af ts).getD i 0)==h)=false:=by
   rw [tJ hi'] at he
   split at he
   ·simp at he
   ·rename_i k;simpa using k
  simp only [d,ei,g1,g2,hy,jo,jC,hs,hb,c,decide_true,zN,IY,q7,q6]
theorem Ui:E0.fn 88=some Tryz.f88:=by kernel_rfl
theorem SP:Tryz.f88.body=some (Tryz.f88.body.getD .skip):=by kernel_rfl
theorem Uj (ts:Array Value):d_ (aF ts)=af ts:=rfl
theorem Y3 (h:Int) (m:aj):aq E0 88 [bB ts,u32 h] m (.need [aM ts,aN h] (lf (az ts h) 30 m)):=by
 refine aq.asked fun hq=>?_
 have hb:aM ts:=hq _ (by simp)
 have hh:aN h:=hq _ (by simp)
 have bG:0≤h∧h<4294967296:=hh
 have hs:=hb.sz
 have bK:(64:Nat)≤448:=by decide
 have cQ:bP (aF ts):=hb.bk
 refine aq.two (fun hz=>?_) (fun hz=>?_)
 ·have he:az ts h=[]:=List.eq_nil_of_length_eq_zero (of_decide_eq_true hz)
  refine (show aq E0 88 [bB ts,u32 h] m (bu [] _) from aq.pure aU Ui SP (by kernel_rfl) (by kernel_rfl) fun hq=>?_)
  refine (bA uj 1000 (kdN ts h (af ts).length (aL (af ts)) (fun i=>i=((0:Nat):Int)∧aB ts h=true)) ?_ (fun s m h=>h) fun fs m hm=>SO (A:=iS) (fun i ⟨e,e2⟩=>by rw [e];exact adz hb (by rw [Dl e2];exact he) (af ts).length 0 (by omega)) hm).mono ?_
  unfold pG
  ·cases hg:bF (aF ts) h with
   | false =>
    simp only [eg,hg,hs,bK,cQ,bG,Bool.not_false,q6]
   | true =>
    have hg':aB ts h=true:=hg
    have hp:=List.length_pos_of_mem ((bU hb).2 hg')
    have c0:decide ((d_ (ts.extract 0 64)).length=0)=false:=decide_eq_false (by show ¬ (af ts).length=0;omega)
    ·simp only [c0]
     simp only [eg,Uj,hg,hg',hs,bK,cQ,bG,Bool.not_true,zN,q6]
     try rfl
  ·intro s m' hs
   unfold iS at hs
   split at hs
   ·rfl
   ·exact hs.elim
 ·have hne:az ts h≠[]:=fun e=>by
   have:=of_decide_eq_false hz
   rw [e] at this
   exact this rfl
  have hg':aB ts h=true:=by
   cases c:aB ts h with
   | true=>rfl
   | false=>exact absurd (by unfold az;rw [c];rfl) hne
  have hg:bF (aF ts) h=true:=hg'
  have ha:=Dl hg'
  refine (show aq E0 88 [bB ts,u32 h] m (bu [] _) from aq.fresh aU Ui SP (by kernel_rfl) rfl fun _=>?_)
  refine Good.ni ((bA uj 1000 (aeH ts h (af ts).length (aL (af ts)) (az ts h).length (aL (az ts h)) (fun i=>i=((0:Nat):Int))) ?_ (fun s m h=>h) fun fs m hm=>SO (A:=dL (az ts h).length (aL (az ts h)) 30) (fun i e=>by rw [e,← ha];exact aeJ hb (by rw [ha];exact hne) (af ts).length 0 (by omega) rfl) hm).mono fun s m h=>?_)
  ·have hl:(af ts).length≠0:=by
    intro e
    have e0:=List.eq_nil_of_length_eq_zero e
    have BF:=hne
    rw [← ha] at BF
    apply BF
    unfold cG
    rw [e0]
    rfl
   have c:decide ((af ts).length=0)=false:=decide_eq_false hl
   have c0:decide ((d_ (ts.extract 0 64)).length=0)=false:=c
   simp only [c0]
   simp only [eg,Uj,hg,hs,bK,cQ,bG,Bool.not_true,zN,q6]
   rfl
  ·unfold dL at h
   split at h
   ·exact ⟨_,h⟩
   ·exact h.elim
end
set_option linter.unusedVariables false
def LI (j:Nat) (ts:Array Value) (r:Nat) (ks:Array Value) (q:Nat) (os:Array Value) (n:Nat) (cs:Array Value) (kF:Nat) (cj:Array Value) (QA:Nat→Array Value→Nat→Array Value→Prop) (QB:Int→Nat→Array Value→Nat→Array Value→Prop):Prop :=
 (((0≤ah .sub .i64 (↑n) 1∧ah .sub .i64 (↑n) 1<(↑n:Int))∧True)∧(aA .u32 cs (0+Int.toNat (ah .sub .i64 (↑n) 1)*1)∧True)∧(0≤ah .sub .i64 (↑n) 1∧Int.toNat (ah .sub .i64 (↑n) 1)≤n∧True)∧(((q+1)*4≤140737488355328∧q+1≤140737488355328)∧q*1=Array.size os∧True)∧(Array.size ts=448∧True)∧(aM ts∧(0≤aa cs (0+Int.toNat (ah .sub .i64 (↑n) 1)*1)∧aa cs (0+Int.toNat (ah .sub .i64 (↑n) 1)*1)<4294967296)∧True)∧(decide (List.length (az ts (aa cs (0+Int.toNat (ah .sub .i64 (↑n) 1)*1)))=0)=true→(decide ((↑(Int.toNat (ah .sub .i64 (↑n) 1)):Int)>0)=true→QA (q+1) (os++#[Value.int .u32 (aa cs (0+Int.toNat (ah .sub .i64 (↑n) 1)*1))]) (Int.toNat (ah .sub .i64 (↑n) 1)) cs∧cN∧ak (aD 0 ([(1,1),(2,2),(3,61),(4,4),(5,5),(6,6),(7,7)]++(20+j,63) :: dj j)) nY nY∧cN∧ak (aD 0 ([(1,1),(2,2),(3,61),(4,4),(5,5),(6,6),(7,7)]++(20+j,63) :: dj j)) fF fF∧73=73∧q+1=q+1∧30=30∧os++#[Value.int .u32 (aa cs (0+Int.toNat (ah .sub .i64 (↑n) 1)*1))]=os++#[Value.int .u32 (aa cs (0+Int.toNat (ah .sub .i64 (↑n) 1)*1))]∧73=73∧Int.toNat (ah .sub .i64 (↑n) 1)=Int.toNat (ah .sub .i64 (↑n) 1)∧39=39∧ts=ts∧30=30∧cs=cs∧dN jT jT∧True)∧(decide ((↑(Int.toNat (ah .sub .i64 (↑n) 1)):Int)>0)=false→kF=q+1∧30=30∧cj=os++#[Value.int .u32 (aa cs (0+Int.toNat (ah .sub .i64 (↑n) 1)*1))]∧True))∧(decide (List.length (az ts (aa cs (0+Int.toNat (ah .sub .i64 (↑n) 1)*1)))=0)=false→(decide (ah .sub .i64 (↑(List.length (az ts (aa cs (0+Int.toNat (ah .sub .i64 (↑n) 1)*1)))):Int) (1:Int)≥0)=true→QB (ah .sub .i64 (↑(List.length (az ts (aa cs (0+Int.toNat (ah .sub .i64 (↑n) 1)*1)))):Int) (1:Int)) (q+1) (os++#[Value.int .u32 (aa cs (0+Int.toNat (ah .sub .i64 (↑n) 1)*1))]) (Int.toNat (ah .sub .i64 (↑n) 1)) cs∧cN∧ak (aD 0 ([(1,1),(2,2),(4,4),(5,5),(6,6),(7,7),(61,61),(62,62),(63,63),(65,65)]++(20+j,64) :: dj j)) mO mO∧ah .sub .i64 (↑(List.length (az ts (aa cs (0+Int.toNat (ah .sub .i64 (↑n) 1)*1)))):Int) (1:Int)=ah .sub .i64 (↑(List.length (az ts (aa cs (0+Int.toNat (ah .sub .i64 (↑n) 1)*1)))):Int) (1:Int)∧cN∧ak (aD 0 ([(1,1),(2,2),(4,4),(5,5),(6,6),(7,7),(61,61),(62,62),(63,63),(65,65)]++(20+j,64) :: dj j)) k9 k9∧cN∧ak (aD 0 ([(1,1),(2,2),(4,4),(5,5),(6,6),(7,7),(61,61),(62,62),(63,63),(65,65)]++(20+j,64) :: dj j)) fF fF∧73=73∧q+1=q+1∧73=73∧Int.toNat (ah .sub .i64 (↑n) 1)=Int.toNat (ah .sub .i64 (↑n) 1)∧73=73∧r=List.length (az ts (aa cs (0+Int.toNat (ah .sub .i64 (↑n) 1)*1)))∧30=30∧os++#[Value.int .u32 (aa cs (0+Int.toNat (ah .sub .i64 (↑n) 1)*1))]=os++#[Value.int .u32 (aa cs (0+Int.toNat (ah .sub .i64 (↑n) 1)*1))]∧39=39∧ts=ts∧30=30∧cs=cs∧30=30∧ks=aL (az ts (aa cs (0+Int.toNat (ah .sub .i64 (↑n) 1)*1)))∧dN jT jT∧dN g_ g_∧True)∧(decide (ah .sub .i64 (↑(List.length (az ts (aa cs (0+Int.toNat (ah .sub .i64 (↑n) 1)*1)))):Int) (1:Int)≥0)=false→(decide ((↑(Int.toNat (ah .sub .i64 (↑n) 1)):Int)>0)=true→QA (q+1) (os++#[Value.int .u32 (aa cs (0+Int.toNat (ah .sub .i64 (↑n) 1)*1))]) (Int.toNat (ah .sub .i64 (↑n) 1)) cs∧cN∧ak (aD 0 ([(1,1),(2,2),(3,61),(4,4),(5,5),(6,6),(7,7)]++(20+j,64) :: dj j)) nY nY∧cN∧ak (aD 0 ([(1,1),(2,2),(3,61),(4,4),(5,5),(6,6),(7,7)]++(20+j,64) :: dj j)) fF fF∧73=73∧q+1=q+1∧30=30∧os++#[Value.int .u32 (aa cs (0+Int.toNat (ah .sub .i64 (↑n) 1)*1))]=os++#[Value.int .u32 (aa cs (0+Int.toNat (ah .sub .i64 (↑n) 1)*1))]∧73=73∧Int.toNat (ah .sub .i64 (↑n) 1)=Int.toNat (ah .sub .i64 (↑n) 1)∧39=39∧ts=ts∧30=30∧cs=cs∧dN jT jT∧True)∧(decide ((↑(Int.toNat (ah .sub .i64 (↑n) 1)):Int)>0)=false→kF=q+1∧30=30∧cj=os++#[Value.int .u32 (aa cs (0+Int.toNat (ah .sub .i64 (↑n) 1)*1))]∧True))))
theorem aae:∀ j,j<33→∀ (ts:Array Value) (r:Nat) (ks:Array Value) (q:Nat) (os:Array Value) (n:Nat) (cs:Array Value) (kF:Nat) (cj:Array Value) (QA:Nat→Array Value→Nat→Array Value→Prop) (QB:Int→Nat→Array Value→Nat→Array Value→Prop),(stepT wj.go (run wj 1000) 0 (vw j ts q os n cs) (vA j ts q os n cs)).vc (dL kF cj 30) (Cx j ts r ks QA QB)=LI j ts r ks q os n cs kF cj QA QB
 | 0,_ | 1,_ | 2,_ | 3,_ | 4,_ | 5,_ | 6,_ | 7,_ | 8,_ | 9,_ | 10,_ | 11,_ | 12,_ | 13,_ | 14,_ | 15,_ | 16,_ | 17,_ | 18,_ | 19,_ | 20,_ | 21,_ | 22,_ | 23,_ | 24,_ | 25,_ | 26,_ | 27,_ | 28,_ | 29,_ | 30,_ | 31,_ | 32,_=>fun ts r ks q os n cs kF cj QA QB=>by kernel_rfl
 | n+33,h=>by omega
def LJ (j:Nat) (ts:Array Value) (r:Nat) (ks:Array Value) (i:Int) (q:Nat) (os:Array Value) (n:Nat) (cs:Array Value) (kF:Nat) (cj:Array Value) (QA:Nat→Array Value→Nat→Array Value→Prop) (QB:Int→Nat→Array Value→Nat→Array Value→Prop):Prop :=
 ((((0:Int)≤i∧i<(↑r:Int))∧True)∧(aA IntKind.u32 ks ((0:Nat)+Int.toNat i*1)∧True)∧(((n+1)*4≤(140737488355328:Nat)∧n+1≤(140737488355328:Nat))∧n*1≤Array.size cs∧True)∧(decide (ah BinOp.sub IntKind.i64 i (1:Int)≥(0:Int))=true→QB (ah BinOp.sub IntKind.i64 i (1:Int)) q os (n+1) (Array.extract cs (0:Nat) (n*1)++#[Value.int IntKind.u32 (aa ks ((0:Nat)+Int.toNat i*1))])∧cN∧ak (aD 0 ([(1,1),(2,2),(4,4),(5,5),(6,67),(7,7),(61,61),(62,62),(63,63),(65,65)]++dj (j+1))) mO mO∧ah BinOp.sub IntKind.i64 i (1:Int)=ah BinOp.sub IntKind.i64 i (1:Int)∧cN∧ak (aD 0 ([(1,1),(2,2),(4,4),(5,5),(6,67),(7,7),(61,61),(62,62),(63,63),(65,65)]++dj (j+1))) k9 k9∧cN∧ak (aD 0 ([(1,1),(2,2),(4,4),(5,5),(6,67),(7,7),(61,61),(62,62),(63,63),(65,65)]++dj (j+1))) fF fF∧(73:TypeId)=(73:TypeId)∧q=q∧(73:TypeId)=(73:TypeId)∧n+1=n+1∧(73:TypeId)=(73:TypeId)∧r=r∧(30:TypeId)=(30:TypeId)∧os=os∧(39:TypeId)=(39:TypeId)∧ts=ts∧(30:TypeId)=(30:Nat)∧Array.extract cs (0:Nat) (n*1)++#[Value.int IntKind.u32 (aa ks ((0:Nat)+Int.toNat i*1))]=Array.extract cs (0:Nat) (n*1)++#[Value.int IntKind.u32 (aa ks ((0:Nat)+Int.toNat i*1))]∧(30:TypeId)=(30:TypeId)∧ks=ks∧dN jT jT∧dN g_ g_∧True)∧(decide (ah BinOp.sub IntKind.i64 i (1:Int)≥(0:Int))=false→(decide ((↑(n+1):Int)>(0:Int))=true→QA q os (n+1) (Array.extract cs (0:Nat) (n*1)++#[Value.int IntKind.u32 (aa ks ((0:Nat)+Int.toNat i*1))])∧cN∧ak (aD 0 ([(1,1),(2,2),(3,61),(4,4),(5,5),(6,67),(7,7)]++dj (j+1))) nY nY∧cN∧ak (aD 0 ([(1,1),(2,2),(3,61),(4,4),(5,5),(6,67),(7,7)]++dj (j+1))) fF fF∧(73:TypeId)=(73:TypeId)∧q=q∧(30:TypeId)=(30:TypeId)∧os=os∧(73:TypeId)=(73:TypeId)∧n+1=n+1∧(39:TypeId)=(39:TypeId)∧ts=ts∧(30:TypeId)=(30:Nat)∧Array.extract cs (0:Nat) (n*1)++#[Value.int IntKind.u32 (aa ks ((0:Nat)+Int.toNat i*1))]=Array.extract cs (0:Nat) (n*1)++#[Value.int IntKind.u32 (aa ks ((0:Nat)+Int.toNat i*1))]∧dN jT jT∧True)∧(decide ((↑(n+1):Int)>(0:Int))=false→kF=q∧(30:TypeId)=(30:TypeId)∧cj=os∧True)))
theorem RF:∀ j,j<33→∀ (ts:Array Value) (r:Nat) (ks:Array Value) (i:Int) (q:Nat) (os:Array Value) (n:Nat) (cs:Array Value) (kF:Nat) (cj:Array Value) (QA:Nat→Array Value→Nat→Array Value→Prop) (QB:Int→Nat→Array Value→Nat→Array Value→Prop),(stepT wj.go (run wj 1000) 0 (BZ j ts r ks i q os n cs) (B0 j ts r ks i q os n cs)).vc (dL kF cj 30) (Cx j ts r ks QA QB)=LJ j ts r ks i q os n cs kF cj QA QB
 | 0,_ | 1,_ | 2,_ | 3,_ | 4,_ | 5,_ | 6,_ | 7,_ | 8,_ | 9,_ | 10,_ | 11,_ | 12,_ | 13,_ | 14,_ | 15,_ | 16,_ | 17,_ | 18,_ | 19,_ | 20,_ | 21,_ | 22,_ | 23,_ | 24,_ | 25,_ | 26,_ | 27,_ | 28,_ | 29,_ | 30,_ | 31,_ | 32,_=>fun ts r ks i q os n cs kF cj QA QB=>by kernel_rfl
 | n+33,h=>by omega
set_option linter.unusedVariables false
theorem I1:∀ g l m t,By g l m=some t→aq E0 g l m t:=by
 intro g l m t h
 unfold By at h
 split at h
 ·rename_i ts x;cases h
  exact aq.n1 (Y3 x.den m)
 ·rename_i ts x;cases h
  exact aq.n1 (Xz x.den m)
 ·rename_i ts x;cases h
  exact aq.n1 (Y2 x.den m)
 ·rename_i ts a x;cases h
  exact aq.n2 (aab a.den x.den m)
 ·rename_i ts x u;cases h
  exact aq.n2 (XA x.den u.den m)
 ·exact IX _ _ _ _ h
theorem SQ:bf VH:=bf.with aU _ _ I1
theorem D4:bf wj:=bf.with aU _ _ I1
section
variable {ts:Array Value} {h:Int}
def gX (cs:Array Value) (st:List Int):Prop:=st.length≤cs.size∧∀ i,i<st.length→cs[i]?=some (.int .u32 (st.getD i 0))
theorem gX.pop {cs:Array Value} {st:List Int} {x:Int} (hs:gX cs (st++[x])):gX cs st∧cs[st.length]?=some (.int .u32 x):=by
 obtain ⟨h1,h2⟩:=hs
 rw [List.length_append] at h1 h2
 refine ⟨⟨by omega,fun i hi=>?_⟩,?_⟩
 ·rw [h2 i (by omega),List.getD_eq_getElem?_getD,List.getElem?_append_left hi,List.getD_eq_getElem?_getD]
 ·have:=h2 st.length (by simp)
  rw [this,List.getD_eq_getElem?_getD,List.getElem?_append_right (Nat.le_refl _),Nat.sub_self]
  rfl
theorem gX.push {cs:Array Value} {st:List Int} {x:Int} (hs:gX cs st):gX (cs.extract 0 st.length++#[.int .u32 x]) (st++[x]):=by
 obtain ⟨h1,h2⟩:=hs
 have e:(cs.extract 0 st.length).size=st.length:=by rw [Array.size_extract];omega
 refine ⟨by rw [Array.size_append,e,List.length_append];exact Nat.le_refl _,fun i hi=>?_⟩
 rw [List.length_append] at hi
 by_cases c:i<st.length
 ·rw [Array.getElem?_append_left (by omega),ext_get (by omega) (by omega),Nat.zero_add,h2 i c,List.getD_eq_getElem?_getD,List.getD_eq_getElem?_getD,List.getElem?_append_left c]
 ·have hi':i=st.length:=by
   have:i<st.length+1:=hi
   omega
  rw [hi',Array.getElem?_append_right (by omega),e,Nat.sub_self,List.getD_eq_getElem?_getD,List.getElem?_append_right (Nat.le_refl _),Nat.sub_self]
  rfl
def aJ (ts:Array Value) (h:Int):List Int:=if aB ts h=true then nF (af ts) (aG ts) h else []
theorem mD (hf:ay ts) {x:Int} (hx:x∈af ts):(nF (af ts) (aG ts) x).length≤32:=Nat.le_trans (abS hf.fo hx) (iw ts)
theorem HH {st:List Int} (h:st≠[]):∃ s x,st=s++[x]:=⟨st.dropLast,st.getLast h,(List.dropLast_concat_getLast h).symm⟩
theorem nK (hf:ay ts) {x:Int} (hx:x∈af ts):az ts x=l8 (af ts) (aG ts) x:=by
 unfold az;rw [if_pos ((bU hf.ok).1 hx)]
theorem mB (ts:Array Value) (x:Int):(az ts x).length≤32:=by
 unfold az
 split
 ·exact Nat.le_trans (List.length_filter_le _ _) (iw ts)
 ·exact Nat.zero_le _
abbrev bn (ts:Array Value) (x:Int):List Int:=nF (af ts) (aG ts) x
theorem Dc {f:Int→List Int}:∀ {l:List Int},(∀ y∈l,1≤(f y).length)→l.length≤(l.flatMap f).length
 | [],_=>Nat.le_refl _
 | a :: l,h=>by
  have:=Dc (l:=l) fun y hy=>h y (List.mem_cons_of_mem _ hy)
  have:=h a (List.mem_cons_self ..)
  rw [List.flatMap_cons,List.length_append,List.length_cons]
  omega
theorem iX (hf:ay ts) {x:Int} (hx:x∈af ts):bn ts x=x :: (l8 (af ts) (aG ts) x).flatMap (bn ts):=tP hf.fo hx
theorem Dd {j r:Nat} {ks:Array Value} {A:SV→aj→Prop} {QA:Nat→Array Value→Nat→Array Value→Prop} {QB:Int→Nat→Array Value→Nat→Array Value→Prop} {fs:List av} {m:aj} (hA:∀ q os n cs,QA q os n cs→Good Tryz.prog A 0 (vw (j+1) ts q os n cs) (vA (j+1) ts q os n cs)) (hB:∀ i q os n cs,QB i q os n cs→Good Tryz.prog A 0 (BZ j ts r ks i q os n cs) (B0 j ts r ks i q os n cs)) (hb:Cx j ts r ks QA QB fs m):Good Tryz.prog A 0 fs m:=by
 unfold Cx at hb
 split at hb
 ·exact aac hA hb
 ·exact aad hB hb
theorem kW {i:Int} (h:0≤i∧i<1000000):ah .sub .i64 i 1=i - 1:=by rw [zQ,cC (by omega) (by omega)]
theorem Tx {j r:Nat} {ks:Array Value} {i:Int} {q:Nat} {os:Array Value} {n:Nat} {cs:Array Value} {kF:Nat} {cj:Array Value} {QA:Nat→Array Value→Nat→Array Value→Prop} {QB:Int→Nat→Array Value→Nat→Array Value→Prop} (hr:r≤1000) (hn:n≤1000)
  (h1:0≤i∧i<(r:Int)) (h2:aA .u32 ks i.toNat) (h4:n≤cs.size) (hB:1≤i→QB (i - 1) q os (n+1) (cs.extract 0 n++#[.int .u32 (aa ks i.toNat)])) (hA:¬ 1≤i→QA q os (n+1) (cs.extract 0 n++#[.int .u32 (aa ks i.toNat)])):LJ j ts r ks i q os n cs kF cj QA QB:=by
 have e:=kW (i:=i) ⟨h1.1,by omega⟩
 have d2:decide (((n+1:Nat):Int)>0)=true:=decide_eq_true (by omega)
 have je:((n+1)*4≤140737488355328∧n+1≤140737488355328):=⟨by omega,by omega⟩
 have t1:ak (aD 0 ([(1,1),(2,2),(4,4),(5,5),(6,67),(7,7),(61,61),(62,62),(63,63),(65,65)]++dj (j+1))) k9 k9:=ak.rf rfl (by kernel_rfl)
 have t2:ak (aD 0 ([(1,1),(2,2),(4,4),(5,5),(6,67),(7,7),(61,61),(62,62),(63,63),(65,65)]++dj (j+1))) fF fF:=ak.rf rfl (by kernel_rfl)
 have t3:ak (aD 0 ([(1,1),(2,2),(3,61),(4,4),(5,5),(6,67),(7,7)]++dj (j+1))) fF fF:=ak.rf rfl (by kernel_rfl)
 unfold LJ
 simp only [e,d2,je,h1,h2,h4,t1,t2,t3,jK,Nat.mul_one,Nat.zero_add,IZ,Db,q6]
 refine ⟨fun k=>hB (by have:=of_decide_eq_true k;omega),fun k=>hA (by have:=of_decide_eq_false k;omega)⟩
section
variable {U:List Int}
theorem Ty {j:Nat} {o bE K:List Int} (hj:j<32) (hK:K.length≤32) (hst:bE.length≤64)
  (hA:∀ cs,gX cs (bE++K.reverse)→Good Tryz.prog (dL U.length (aL U) 30) 0 (vw (j+1) ts o.length (aL o) (bE++K.reverse).length cs) (vA (j+1) ts o.length (aL o) (bE++K.reverse).length cs)) :
  ∀ (i:Nat) (cs:Array Value),i<K.length→gX cs (bE++(K.drop (i+1)).reverse)→Good Tryz.prog (dL U.length (aL U) 30) 0 (BZ j ts K.length (aL K) (i:Int) o.length (aL o) (bE++(K.drop (i+1)).reverse).length cs) (B0 j ts K.length (aL K) (i:Int) o.length (aL o) (bE++(K.drop (i+1)).reverse).length cs):=by
 intro i
 induction i with
 | zero =>
  intro cs hi hs
  have j7:=hs.push (x:=K.getD 0 0)
  have e0:(bE++(K.drop (0+1)).reverse)++[K.getD 0 0]=bE++K.reverse:=by
   rw [List.append_assoc]
   congr 1
   cases K with
   | nil=>exact absurd hi (by simp)
   | cons a l=>simp
  rw [e0] at j7
  have el:(bE++(K.drop (0+1)).reverse).length+1=(bE++K.reverse).length:=by
   have:=congrArg List.length e0
   simp only [List.length_append,List.length_cons,List.length_nil] at this ⊢
   omega
  have hk:=fN hi
  have hl:(bE++(K.drop (0+1)).reverse).length≤96:=by rw [List.length_append,List.length_reverse,List.length_drop];omega
  refine bD D4 1000 (RF j (by omega) ts _ _ _ _ _ _ _ U.length (aL U) (fun q os n c=>q=o.length∧os=aL o∧n=(bE++K.reverse).length∧gX c (bE++K.reverse)) (fun _ _ _ _ _=>False)) ?_ (fun _ _ h=>h) (fun fs m hb=>Dd (fun q os n c ⟨e1,e2,e3,e4⟩=>by rw [e1,e2,e3];exact hA c e4) (fun _ _ _ _ _ h=>h.elim) hb)
  refine Tx (by omega) (by omega) ⟨by omega,by omega⟩ (bw hk) hs.1 (fun k=>absurd k (by decide)) (fun _=>⟨rfl,rfl,el,?_⟩)
  rw [show (((0:Nat):Int)).toNat=0 from rfl,bI hk]
  exact j7
 | succ i ih =>
  intro cs hi hs
  have j7:=hs.push (x:=K.getD (i+1) 0)
  have e0:(bE++(K.drop (i+1+1)).reverse)++[K.getD (i+1) 0]=bE++(K.drop (i+1)).reverse:=by
   rw [List.append_assoc]
   congr 1
   rw [List.drop_eq_getElem_cons hi,List.reverse_cons,List.getD_eq_getElem?_getD,List.getElem?_eq_getElem hi]
   rfl
  rw [e0] at j7
  have el:(bE++(K.drop (i+1+1)).reverse).length+1=(bE++(K.drop (i+1)).reverse).length:=by
   have:=congrArg List.length e0
   simp only [List.length_append,List.length_cons,List.length_nil] at this ⊢
   omega
  have hk:=fN hi
  have hl:(bE++(K.drop (i+1+1)).reverse).length≤96:=by rw [List.length_append,List.length_reverse,List.length_drop];omega
  refine bD D4 1000 (RF j (by omega) ts _ _ _ _ _ _ _ U.length (aL U) (fun _ _ _ _=>False) (fun i' q os n c=>i'=(i:Int)∧q=o.length∧os=aL o∧n=(bE++(K.drop (i+1)).reverse).length∧gX c (bE++(K.drop (i+1)).reverse))) ?_ (fun _ _ h=>h) (fun fs m hb=>Dd (fun _ _ _ _ h=>h.elim) (fun i' q os n c ⟨e0,e1,e2,e3,e4⟩=>by rw [e0,e1,e2,e3];exact ih c (by omega) e4) hb)
  refine Tx (by omega) (by omega) ⟨by omega,by omega⟩ (by rw [Int.toNat_natCast];exact bw hk) hs.1 (fun _=>⟨by omega,rfl,rfl,el,?_⟩) (fun k=>absurd (show (1:Int)≤((i+1:Nat):Int) by omega) k)
  rw [Int.toNat_natCast,bI hk]
  exact j7
end
theorem adA {j r:Nat} {ks:Array Value} {q:Nat} {os:Array Value} {n':Nat} {cs:Array Value} {x:Int} {kF:Nat} {cj:Array Value} {QA:Nat→Array Value→Nat→Array Value→Prop} {QB:Int→Nat→Array Value→Nat→Array Value→Prop} (hb:aM ts) (hx:cs[n']?=some (.int .u32 x)) (tw:aN x) (hq:q≤1000) (hos:os.size=q) (hn:n'≤1000)
  (h0:az ts x=[]→(n'≠0→QA (q+1) (os++#[.int .u32 x]) n' cs)∧(n'=0→kF=q+1∧cj=os++#[.int .u32 x]))
  (h1:az ts x≠[]→QB (((az ts x).length - 1:Nat):Int) (q+1) (os++#[.int .u32 x]) n' cs∧r=(az ts x).length∧ks=aL (az ts x)):LI j ts r ks q os (n'+1) cs kF cj QA QB:=by
 have e:ah .sub .i64 (((n'+1:Nat):Int)) 1=(n':Int):=by rw [kW ⟨by omega,by omega⟩];omega
 have g1:aA .u32 cs n':=bw hx
 have g2:aa cs n'=x:=bI hx
 have yI:0≤x∧x<4294967296:=tw
 have je:((q+1)*4≤140737488355328∧q+1≤140737488355328):=⟨by omega,by omega⟩
 have hs:=hb.sz
 have y0:0≤(n':Int):=by omega
 have y1:(n':Int)<((n'+1:Nat):Int):=by omega
 have y2:n'≤n'+1:=by omega
 have kq:=mB ts x
 have t1:∀ k,ak (aD 0 ([(1,1),(2,2),(3,61),(4,4),(5,5),(6,6),(7,7)]++(20+j,k) :: dj j)) fF fF:=fun k=>ak.rf rfl (by kernel_rfl)
 have t2:∀ k,ak (aD 0 ([(1,1),(2,2),(4,4),(5,5),(6,6),(7,7),(61,61),(62,62),(63,63),(65,65)]++(20+j,k) :: dj j)) k9 k9:=fun k=>ak.rf rfl (by kernel_rfl)
 have t3:∀ k,ak (aD 0 ([(1,1),(2,2),(4,4),(5,5),(6,6),(7,7),(61,61),(62,62),(63,63),(65,65)]++(20+j,k) :: dj j)) fF fF:=fun k=>ak.rf rfl (by kernel_rfl)
 unfold LI
 simp only [e,g1,g2,yI,je,hs,hb,hos,y0,y1,y2,t1,t2,t3,jK,and_true,true_and,IZ,Db,q7,lz]
 constructor
 ·intro k
  obtain ⟨a,b⟩:=h0 (List.eq_nil_of_length_eq_zero (of_decide_eq_true k))
  exact ⟨fun c=>a (by have:=of_decide_eq_true c;omega),fun c=>b (by have:=of_decide_eq_false c;omega)⟩
 ·intro k
  have hne:az ts x≠[]:=fun e=>of_decide_eq_false k (by rw [e];rfl)
  have hp:=List.length_pos_iff.2 hne
  obtain ⟨a,b,c⟩:=h1 hne
  have e2:ah .sub .i64 ((az ts x).length:Int) 1=(((az ts x).length - 1:Nat):Int):=by rw [kW ⟨by omega,by omega⟩];omega
  have d:decide ((((az ts x).length - 1:Nat):Int)≥0)=true:=decide_eq_true (by omega)
  simp only [e2,d,true_implies,Bool.true_eq_false,false_implies,and_true]
  exact ⟨a,b,c⟩
theorem I2 (o:List Int) (x:Int):aL o++#[.int .u32 x]=aL (o++[x]):=(pZ o x).symm
theorem adB (hf:ay ts) {h:Int} (hh:h∈af ts):∀ (rem:Nat) (o st:List Int) (cs:Array Value),(bn ts h).length - o.length<rem→st≠[]→gX cs st→(∀ y∈st,y∈af ts)→o++st.reverse.flatMap (bn ts)=bn ts h→Good Tryz.prog (dL (bn ts h).length (aL (bn ts h)) 30) 0 (vw o.length ts o.length (aL o) st.length cs) (vA o.length ts o.length (aL o) st.length cs):=by
 have hU:(bn ts h).length≤32:=mD hf hh
 have hb:=hf.ok
 intro rem
 induction rem with
 | zero=>intro o st cs hr;omega
 | succ rem ih =>
  intro o st cs hr hne hs hsub hsum
  obtain ⟨bE,x,rfl⟩:=HH hne
  have hx:x∈af ts:=hsub x (by simp)
  obtain ⟨hs0,jo⟩:=hs.pop
  have ij:(o++[x])++((l8 (af ts) (aG ts) x).flatMap (bn ts)++bE.reverse.flatMap (bn ts))=bn ts h:=by
   rw [← hsum,List.reverse_append,List.reverse_cons,List.reverse_nil,List.nil_append,List.cons_append,List.nil_append,List.flatMap_cons,iX hf hx]
   simp only [List.append_assoc,List.cons_append,List.nil_append]
  have ho:o.length<(bn ts h).length:=by
   have:=congrArg List.length ij
   simp only [List.length_append,List.length_cons,List.length_nil] at this
   omega
  have wh:(bE++[x]).length=bE.length+1:=by rw [List.length_append];rfl
  have B1:bE.length≤64:=by
   have h1:=Dc (f:=bn ts) (l:=bE.reverse) fun y hy=>by
    rw [iX hf (hsub y (List.mem_append_left _ (List.mem_reverse.1 hy)))]
    exact Nat.le_add_left 1 _
   rw [List.length_reverse] at h1
   have h2:=congrArg List.length ij
   simp only [List.length_append,List.length_cons,List.length_nil] at h2
   omega
  have kd:=nK hf hx
  have kq:=mB ts x
  rw [wh]
  have eo:(o++[x]).length=o.length+1:=by rw [List.length_append];rfl
  have Uk:o.length<32:=by omega
  refine bD D4 1000 (aae o.length (by omega) ts (az ts x).length (aL (az ts x)) _ _ _ _ (bn ts h).length (aL (bn ts h))
   (fun q os n c=>q=(o++[x]).length∧os=aL (o++[x])∧n=bE.length∧c=cs∧bE≠[]∧az ts x=[])
   (fun i q os n c=>i=(((az ts x).length - 1:Nat):Int)∧q=(o++[x]).length∧os=aL (o++[x])∧n=bE.length∧c=cs∧az ts x≠[])) ?_ (fun _ _ h=>h)
   (fun fs m hg=>Dd (fun q os n c ⟨e1,e2,e3,e4,e5,e6⟩=>?_) (fun i q os n c ⟨e0,e1,e2,e3,e4,e5⟩=>?_) hg)
  ·refine adA hb jo (iA hb (.inr hx)) (by omega) (pW o) (by omega) (fun k=>⟨fun k2=>⟨eo.symm,I2 o x,rfl,rfl,fun e=>k2 (by rw [e];rfl),k⟩,fun k2=>?_⟩) (fun k=>⟨⟨rfl,eo.symm,I2 o x,rfl,rfl,k⟩,rfl,rfl⟩)
   have e0:bE=[]:=List.eq_nil_of_length_eq_zero k2
   rw [kd] at k
   rw [k,e0] at ij
   have e3:bn ts h=o++[x]:=by
    rw [← ij]
    simp
   rw [e3,eo]
   exact ⟨rfl,(I2 o x).symm⟩
  ·rw [e1,e2,e3,e4,← eo]
   rw [kd] at e6
   rw [e6] at ij
   refine ih (o++[x]) bE cs (by rw [eo];omega) e5 hs0 (fun y hy=>hsub y (List.mem_append_left _ hy)) ?_
   simpa using ij
  ·rw [e0,e1,e2,e3,e4]
   have hp:=List.length_pos_iff.2 e5
   have pF:(az ts x).drop ((az ts x).length - 1+1)=[]:=List.drop_eq_nil_of_le (by omega)
   have:=Ty (ts:=ts) (U:=bn ts h) (j:=o.length) (o:=o++[x]) (bE:=bE) (K:=az ts x) (by omega) kq B1 (fun c hc=>?_) ((az ts x).length - 1) cs (by omega) (by rw [pF];simpa using hs0)
   ·rw [pF] at this
    simpa using this
   ·rw [← eo]
    have Bz:∀ y∈bE++(az ts x).reverse,y∈af ts:=fun y hy=>by
     rcases List.mem_append.1 hy with k | k
     ·exact hsub y (List.mem_append_left _ k)
     ·rw [kd] at k
      exact (lO.1 (List.mem_reverse.1 k)).1
    refine ih (o++[x]) (bE++(az ts x).reverse) c (by rw [eo];omega) (fun e=>e5 (by simpa using (List.append_eq_nil_iff.1 e).2)) hc Bz ?_
    ·rw [List.reverse_append,List.reverse_reverse,List.flatMap_append,kd]
     exact ij
end
section
variable {ts:Array Value} {h:Int}
theorem adC (hf:ay ts) (hh:h∈af ts) (hne:az ts h≠[]):Good Tryz.prog (dL (bn ts h).length (aL (bn ts h)) 30) 0 (Gs ts h (az ts h).length (aL (az ts h)) (((az ts h).length - 1:Nat):Int)) (Gu ts h (az ts h).length (aL (az ts h)) (((az ts h).length - 1:Nat):Int)):=by
 have hU:(bn ts h).length≤32:=mD hf hh
 have hp:=List.length_pos_iff.2 hne
 have kq:=mB ts h
 have kd:=nK hf hh
 have hsum:[h]++(([]:List Int)++(az ts h).reverse).reverse.flatMap (bn ts)=bn ts h:=by
  rw [List.nil_append,List.reverse_reverse,kd,iX hf hh]
  rfl
 have hA:∀ cs,gX cs (([]:List Int)++(az ts h).reverse)→Good Tryz.prog (dL (bn ts h).length (aL (bn ts h)) 30) 0 (vw (0+1) ts [h].length (aL [h]) (([]:List Int)++(az ts h).reverse).length cs) (vA (0+1) ts [h].length (aL [h]) (([]:List Int)++(az ts h).reverse).length cs):=fun cs hc =>
  adB hf hh _ [h] _ cs (Nat.lt_succ_self _) (fun e=>hne (by simpa using e)) hc (fun y hy=>by
   rw [List.nil_append] at hy
   have hy:=List.mem_reverse.1 hy
   rw [kd] at hy
   exact (lO.1 hy).1) hsum
 have hi:(az ts h).length - 1<(az ts h).length:=by omega
 have hk:=fN hi
 have sY:gX #[Value.int .u32 ((az ts h).getD ((az ts h).length - 1) 0)] [(az ts h).getD ((az ts h).length - 1) 0]:=⟨Nat.le_refl _,fun i hi=>by
  obtain rfl:i=0:=by simpa using hi
  rfl⟩
 have mN:(az ts h).drop ((az ts h).length - 1)=[(az ts h).getD ((az ts h).length - 1) 0]:=by
  rw [List.drop_eq_getElem_cons hi,List.drop_eq_nil_of_le (by omega),List.getD_eq_getElem?_getD,List.getElem?_eq_getElem hi]
  rfl
 refine bD D4 1000 (unI ts h _ _ _ (bn ts h).length (aL (bn ts h))
  (fun q os n c=>q=1∧os=aL [h]∧n=1∧(az ts h).length=1∧c=#[Value.int .u32 ((az ts h).getD ((az ts h).length - 1) 0)])
  (fun i q os n c=>i=(((az ts h).length - 2:Nat):Int)∧q=1∧os=aL [h]∧n=1∧2≤(az ts h).length∧c=#[Value.int .u32 ((az ts h).getD ((az ts h).length - 1) 0)])) ?_ (fun _ _ h=>h)
  (fun fs m hg=>Dd (fun q os n c ⟨e1,e2,e3,e4,e5⟩=>?_) (fun i q os n c ⟨e0,e1,e2,e3,e4,e5⟩=>?_) hg)
 ·have e:ah .sub .i64 (((az ts h).length - 1:Nat):Int) 1=(((az ts h).length - 1:Nat):Int) - 1:=kW ⟨by omega,by omega⟩
  have g1:aA .u32 (aL (az ts h)) ((az ts h).length - 1):=bw hk
  have g2:aa (aL (az ts h)) ((az ts h).length - 1)=(az ts h).getD ((az ts h).length - 1) 0:=bI hk
  have y0:0≤(((az ts h).length - 1:Nat):Int):=by omega
  have y1:(((az ts h).length - 1:Nat):Int)<((az ts h).length:Int):=by omega
  have t1:ak (aD 0 [(1,1),(2,2),(4,4),(5,5),(6,15),(7,7),(61,9),(62,10),(63,11),(65,13),(20,12)]) k9 n5:=ak.NO rfl (by kernel_rfl)
  have t2:ak (aD 0 [(1,1),(2,2),(4,4),(5,5),(6,15),(7,7),(61,9),(62,10),(63,11),(65,13),(20,12)]) fF fF:=ak.rf rfl (by kernel_rfl)
  have t3:ak (aD 0 [(1,1),(2,2),(3,9),(4,4),(5,5),(6,15),(7,7),(20,12)]) fF fF:=ak.rf rfl (by kernel_rfl)
  simp only [e,g1,g2,y0,y1,t1,t2,t3,rP,jK,and_true,true_and,IZ,Db,q7,lz]
  refine ⟨fun k=>?_,fun k=>?_⟩
  ·have:=of_decide_eq_true k
   exact ⟨by omega,by omega⟩
  ·have:=of_decide_eq_false k
   omega
 ·rw [e1,e2,e3,e5]
  have hx:(az ts h).reverse=[(az ts h).getD ((az ts h).length - 1) 0]:=by
   have:=mN
   rw [e4] at this ⊢
   have hd:(az ts h).drop (1 - 1)=az ts h:=rfl
   rw [hd] at this
   rw [this]
   rfl
  have:=hA _ (by rw [List.nil_append,hx];exact sY)
  rw [List.nil_append,hx] at this
  exact this
 ·rw [e0,e1,e2,e3,e5]
  have hd:(az ts h).length - 2+1=(az ts h).length - 1:=by omega
  have:=Ty (ts:=ts) (U:=bn ts h) (j:=0) (o:=[h]) (bE:=[]) (K:=az ts h) (by omega) kq (Nat.zero_le _) hA ((az ts h).length - 2) #[Value.int .u32 ((az ts h).getD ((az ts h).length - 1) 0)] (by omega) (by rw [hd,mN];exact sY)
  rw [hd,mN] at this
  exact this
theorem Ul:E0.fn 58=some Tryz.f58:=by kernel_rfl
theorem SR:Tryz.f58.body=some (Tryz.f58.body.getD .skip):=by kernel_rfl
theorem XE (h:Int) (m:aj):aq E0 58 [bB ts,u32 h] m (.need [ay ts,aN h] (lf (aJ ts h) 30 m)):=by
 refine aq.asked fun hq=>?_
 have hf:ay ts:=hq _ (by simp)
 have hb:=hf.ok
 have hh:aN h:=hq _ (by simp)
 have bG:0≤h∧h<4294967296:=hh
 have hs:=hb.sz
 have bK:(64:Nat)≤448:=by decide
 have cQ:bP (aF ts):=hb.bk
 refine aq.two (fun hz=>?_) (fun hz=>?_)
 ·have he:aJ ts h=[]:=List.eq_nil_of_length_eq_zero (of_decide_eq_true hz)
  have hg:bF (aF ts) h=false:=by
   cases c:bF (aF ts) h with
   | false=>rfl
   | true =>
    exfalso
    have c':aB ts h=true:=c
    unfold aJ at he
    rw [if_pos c',tP hf.fo ((bU hb).2 c')] at he
    cases he
  refine (show aq E0 58 [bB ts,u32 h] m (bu [] _) from aq.pure aU Ul SR (by kernel_rfl) (by kernel_rfl) fun hq=>?_)
  refine (bA SQ 1000 (unN ts h 0 #[] (fun i=>False)) ?_ (fun s m h=>h) fun fs m hm=>RE (A:=iS) (fun i e=>e.elim) hm).mono ?_
  ·simp only [eg,hg,hs,bK,cQ,bG,Bool.not_false,q6]
  ·intro s m' hs
   unfold iS at hs
   split at hs
   ·rfl
   ·exact hs.elim
 ·have hne:aJ ts h≠[]:=fun e=>by
   have:=of_decide_eq_false hz
   rw [e] at this
   exact this rfl
  have hg':aB ts h=true:=by
   cases c:aB ts h with
   | true=>rfl
   | false=>exact absurd (by unfold aJ;rw [c];rfl) hne
  have hg:bF (aF ts) h=true:=hg'
  have hl:=(bU hb).2 hg'
  have eu:aJ ts h=bn ts h:=by unfold aJ;rw [if_pos hg']
  have kd:=nK hf hl
  have kq:=mB ts h
  rw [eu]
  refine (show aq E0 58 [bB ts,u32 h] m (bu [] _) from aq.fresh aU Ul SR (by kernel_rfl) rfl fun _=>?_)
  refine Good.ni ((bA SQ 1000 (aeI ts h (az ts h).length (aL (az ts h)) (bn ts h).length (aL (bn ts h)) (fun i=>i=(((az ts h).length - 1:Nat):Int)∧az ts h≠[])) ?_ (fun s m h=>h) fun fs m hm=>RE (A:=dL (bn ts h).length (aL (bn ts h)) 30) (fun i ⟨e,e2⟩=>by rw [e];exact adC hf hl e2) hm).mono fun s m h=>?_)
  ·simp only [eg,hg,hs,bK,hb,cQ,bG,Bool.not_true,q6]
   constructor
   ·intro k
    have e0:=List.eq_nil_of_length_eq_zero (of_decide_eq_true k)
    have e1:bn ts h=[h]:=by rw [iX hf hl,← kd,e0];rfl
    rw [e1]
    exact ⟨rfl,rfl⟩
   ·intro k
    have hne:az ts h≠[]:=fun e=>of_decide_eq_false k (by rw [e];rfl)
    have hp:=List.length_pos_iff.2 hne
    have e2:ah .sub .i64 ((az ts h).length:Int) 1=(((az ts h).length - 1:Nat):Int):=by rw [kW ⟨by omega,by omega⟩];omega
    have d:decide ((((az ts h).length - 1:Nat):Int)≥0)=true:=decide_eq_true (by omega)
    simp only [e2,d,jK,XC,Db,XD,q6]
    exact ⟨hne,ak.rf rfl (by kernel_rfl)⟩
  ·unfold dL at h
   split at h
   ·exact ⟨_,h⟩
   ·exact h.elim
end
end Go.Proofs.YtldoopjnjlpbpaaGreatDoor
