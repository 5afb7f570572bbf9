/- For every list of acts, every task and every handle, bailiwicklaw08.OwnPlays returns true, and the arguments read behind the call as they did before; the package-level table that math/bits reads holds what the program's text lays. Condition: the table, as the card ties it. -/
import Derived.Test.YtldoopjnjlpbpaaGreatDoorCards
import Derived.Test.YtldoopjnjlpbpaaGreatDoorTie
import Derived.Test.YtldoopjnjlpbpaaGreatDoorMA
import Derived.Test.YtldoopjnjlpbpaaGreatDoorMF
import Derived.SevenTiedAt
import Derived.SizedLaws
set_option linter.unusedVariables false
set_option linter.unusedSimpArgs false
namespace Go.Proofs.YtldoopjnjlpbpaaGreatDoor
set_option maxRecDepth 100000
open Go.ChangeShapes Go.WideShapes Go.ChangeAt Go.WideMaps Go.WideElems Go.RowKit Go.Deep
theorem ac_:Tryz.f3.body=some (Tryz.f3.body.getD .skip):=rfl
theorem Z6:Tryz.prog.cellsOf 64=5:=by kernel_rfl
theorem YV {R:aX} {s:SV} {m:aj} {v:Value} (h:gD true s m) (hv:s.ok R v):v=.bool true:=by
 unfold gD at h
 split at h
 ·have hv:v=.bool _:=hv
  rw [hv,h]
 ·exact h.elim
theorem wf_u8 {n:Int} (h:(Lit.int .u8 n).wf=true):0≤n∧n≤255:=by
 simp only [Lit.wf,Bool.and_eq_true,decide_eq_true_eq] at h
 exact h
theorem C_ {k:IntKind} {cs:Array Value} {i:Nat} {n:Int} (h:cs.toList[i]?=some (.int k n)):aA k cs i∧aa cs i=n:=by
 rw [Array.getElem?_toList] at h
 exact ⟨bw h,bI h⟩
theorem wf_u32 {n:Int} (h:(Lit.int .u32 n).wf=true):aN n:=by
 simp only [Lit.wf,Bool.and_eq_true,decide_eq_true_eq] at h
 unfold aN
 have h1:0≤n:=h.1
 have h2:n≤4294967295:=h.2
 omega
theorem abP {H:Type} {enc:TypeId × Value→H} {W:World} {base:Nat} {held:Bool} {n:Nat} {cs:Array Value} {p:Nat} {y:DataW H × List MemPlace}
  (h:DataW.trod enc Tryz.prog W base (fun _=>true) held n 64 ((cs.toList.drop p).take 5)=some y):Te cs p:=by
 obtain ⟨n0,y0,h0⟩:=zK Tryz.underlying64 h 0 rfl
 obtain ⟨n1,y1,h1⟩:=zK Tryz.underlying64 h 1 rfl
 obtain ⟨n2,y2,h2⟩:=zK Tryz.underlying64 h 2 rfl
 obtain ⟨n3,y3,h3⟩:=zK Tryz.underlying64 h 3 rfl
 obtain ⟨n4,y4,h4⟩:=zK Tryz.underlying64 h 4 rfl
 obtain ⟨_,e0,_,w0⟩:=DataW.trod_int Tryz.underlying5 h0
 obtain ⟨_,e1,_,w1⟩:=DataW.trod_int Tryz.underlying23 h1
 obtain ⟨_,e2,_,w2⟩:=DataW.trod_int Tryz.underlying23 h2
 obtain ⟨_,e3,_,w3⟩:=DataW.trod_int Tryz.underlying23 h3
 obtain ⟨_,e4,_,_⟩:=DataW.trod_int Tryz.underlying3 h4
 obtain ⟨a0,b0⟩:=C_ (wQ (sub_one e0))
 obtain ⟨a1,b1⟩:=C_ (wQ (sub_one e1))
 obtain ⟨a2,b2⟩:=C_ (wQ (sub_one e2))
 obtain ⟨a3,b3⟩:=C_ (wQ (sub_one e3))
 have a4:=YW (wQ (sub_one e4))
 have w0:=wf_u8 w0
 have w1:=wf_u32 w1
 have w2:=wf_u32 w2
 have w3:=wf_u32 w3
 rw [← b0] at w0
 rw [← b1] at w1
 rw [← b2] at w2
 rw [← b3] at w3
 exact ⟨a0,a1,a2,a3,a4,w0,w1,w2,w3⟩
def Kb (W:World) (v:Value):Prop :=
 v=.slice none 0 0∨∃ b off len cap cs ty fz,v=.slice (some ⟨b,off,none⟩) len cap∧len≤cap∧W.heap[b]?=some (.cells cs ty fz)∧DT cs off len
theorem Z7 {H:Type} {enc:TypeId × Value→H} {W:World} {base base':Nat} {fuel:Nat} {v:Value} {held:Bool} {x:DataW H × List MemPlace}
  (hok:Value.okWide Tryz.prog W .any base 22 v) (h:DataW.trod enc Tryz.prog W base' (fun _=>true) held fuel 22 [v]=some x):Kb W v:=by
 obtain ⟨A,len,cap,rfl⟩:=okWide_slice Tryz.underlying22 hok
 rcases Wd Tryz.underlying22 Z6 hok h with ⟨rfl,rfl,rfl⟩ | ⟨b,off,cs,ty,fz,rfl,hl,hm,ho,hj⟩
 ·exact .inl rfl
 ·refine .inr ⟨b,off,len,cap,cs,ty,fz,rfl,hl,ho,fun j hlt=>?_⟩
  obtain ⟨n,y,hy⟩:=hj j hlt
  exact abP hy
theorem Qm {W:World} {l:List SV} {args:Array Value} {m:aj} {R:aX} (hg:Good Tryz.prog (gD true) m.next [a_ 3 Tryz.f3.ntmps l (Tryz.f3.body.getD .skip)] m) (hl:aK (SV.ok R) l args.toList) (hR:Rel W.heap.size (fun _=>False) W R m W) :
  Calls Tryz.prog 3 args W fun e w'=>e=.returned (.bool true)∧Below W.heap.size W w':=by
 have h:=rI Tryz.func3 ac_ hg hl hR
 unfold lT at h
 refine h.mono ?_
 rintro e w' ⟨v,rfl,s',m',R',hr,_,fq,hv⟩
 exact ⟨by rw [YV hr hv],YX fq.fr⟩
theorem Xu {W:World} {v:Value} {a b:Int} (hL:laidMetH Tryz.prog sG W) (hv:Kb W v) (ha:aN a) :
  Calls Tryz.prog 3 #[v,.int .i64 b,.int .u32 a] W fun e w'=>e=.returned (.bool true)∧Below W.heap.size W w':=by
 have h0:=Xv hL 1
 rcases hv with rfl | ⟨k,off,n,cap,cs,ty,fz,rfl,hl,hk,hcell⟩
 ·exact Qm (m:=cD 1 []) (W7 ha) ⟨⟨_,_,rfl⟩,rfl,rfl,trivial⟩ h0
 ·obtain ⟨h1,_⟩:=Z8 h0 (V4 1) (i:=0) (b:=k) (by decide) rfl hk
  exact Qm (m:=cD 1 [(0,⟨.raw cs,ty,false⟩)]) (W6 (off:=off) (n:=n) (ty:=ty) ha hcell) ⟨⟨⟨k,cs.size⟩,cap,rfl,rfl,trivial,hl⟩,rfl,rfl,trivial⟩ h1
theorem Xw (os:Os) (args:Array Value):laidMetH Tryz.prog sG ((World.doorLaid Tryz.prog 400 os).forCall (fun _ _=>0) ⟨#[],args,[]⟩).memory :=
 laidMetH_of_parts3 (fuel:=8) (laidMet_of_run' 8 (by kernel_rfl) (by kernel_rfl)) (by kernel_rfl) (by kernel_rfl)
theorem We (os:Os) (started:os.Started) (H:Type) (enc:TypeId × Value→H) :
  ReturnsInHanded {} Tryz.checked os 3 .any (fun w args=>(Rows.ownPlaysSpec.pre enc Tryz.prog Tryz.f3 [] false w args∧laidMetH Tryz.prog sG w)∧sizedMet enc Tryz.prog Tryz.f3 (OpenSpec.ofChange Rows.ownPlaysSpec) false w args)
   (Rows.ownPlaysSpec.post enc Tryz.prog Tryz.f3 false true false false):=by
 refine returnsInHanded_of_change_and (C:=Tryz.checked) (X:=fun w _=>laidMetH Tryz.prog sG w) (fun _ _ _ hh h=>h.of_heap hh) own started (by kernel_rfl) Tryz.func3
  (ChangeSpec.witness_shaped (enc:=enc) (C:=Tryz.checked) (os:=os) (X:=fun w _=>laidMetH Tryz.prog sG w) false (World.doorLaid Tryz.prog 400 os) #[.slice none 0 0,.int .i64 0,.int .u32 0] 8 rfl (World.shaped_of_RefB (by kernel_rfl) (by kernel_rfl)) (by kernel_rfl) (by kernel_rfl) (by kernel_rfl) (Xw os _)) ?_
 intro W base args ds gs before Tv hW _ afx hL _
 have hval:∀ (j:Nat) t v,Tryz.f3.params[j]?=some t→args[j]?=some v→Value.okWide Tryz.prog W .any base t v:=Tv
 have NU:=hW
 obtain ⟨p,q,Vx,hV,rfl,hfz,hnd⟩:=hW
 have hA:DataW.TrodAll enc Tryz.prog W 0 (fun _=>true) true Tryz.f3.params.toList args.toList ds p:=Vx
 rw [Tryz.params3] at hA hval
 obtain ⟨v0,v1,v2,d0,d1,d2,p0,p1,p2,rfl,rfl,rfl,h0,h1,h2⟩:=trodAll_three hA
 obtain ⟨rfl,rfl⟩:=trodVars_none hV
 have h0k:=h0
 obtain ⟨x1,rfl,rfl,rfl,w1⟩:=open_int Tryz.underlying3 (hval 1 3 v1 rfl rfl) h1
 obtain ⟨x2,rfl,rfl,rfl,w2⟩:=open_int Tryz.underlying23 (hval 2 23 v2 rfl rfl) h2
 obtain ⟨fu0,mo⟩:=h0
 have k0:Kb W v0:=Z7 (hval 0 22 v0 rfl rfl) (by
  obtain ⟨A,len,cap,e⟩:=okWide_slice Tryz.underlying22 (hval 0 22 v0 rfl rfl)
  subst e
  exact mo)
 clear Vx Tv
 simp only [List.append_nil] at NU
 refine (Xu hL k0 (wf_u32 w2)).mono fun e' W' ⟨he,hb⟩=>?_
 subst he
 have hlt:∀ y∈p0,y.block<W.heap.size:=fun y hy=>by simpa using NU.lt y (by simpa using hy)
 refine ⟨_,rfl,VX (pa:=p0) (pv:=[]) NU (fun _ _ _=>trodAll_mk1 (shut_bool Tryz.underlying4 _)) (fun sp hsp=>?_) (fun _ _=>rfl) (by simp) hb (ok_one (by kernel_rfl) rfl (okWide_bool_mk Tryz.underlying4 _))⟩
 rw [show p0=p0++([]++[]) by simp]
 refine trodAll_mk3 ?_ (shut_int Tryz.underlying3 w1) (shut_int Tryz.underlying23 w2)
 exact Go.WideElems.Trod_stays laidOut (by kernel_rfl) (of_decide_eq_true (by kernel_rfl)) h0k (fun y hy=>hb.same (hlt y hy)) (fun y hy=>hsp y (by simpa using hy))
theorem VU:Rows.OwnPlaysSaid :=
 OpenClaim.holds_of_wide 3 Tryz.f3 rfl rfl rfl rfl rfl rfl rfl ⟨rfl,rfl,rfl,rfl,rfl⟩ rfl rfl rfl rfl rfl (by kernel_rfl) Tryz.func3 (by kernel_rfl)
  (of_decide_eq_true (by kernel_rfl)) (by unfold Func.isWrapper;first | (rw [if_pos (by decide +kernel)];kernel_rfl) | (rw [if_neg (by decide +kernel)];exact ⟨rfl,rfl⟩))
  (fun os started H enc _=>We os started H enc)
theorem ownPlaysCard_holds:Rows.OwnPlaysCardSaid :=
 Claim7.holds_tied_plain_at .later [] [.data] true (true,"c3db3cb43853a9c88eae893dd28a1217b3a87ad01b8cf5a1472041a87872bd63") false
  VU (fun _ h=>by cases h) (by kernel_rfl) (fun _ h=>by cases h) ownPlays_row_tie rfl ⟨rfl,rfl⟩ (by kernel_rfl) rfl
  (fun f fn hf hfn=>by
   obtain rfl:f=3:=Option.some.inj ((show Tryz.prog.funcNamed "bailiwick/bailiwicklaw08.OwnPlays"=some 3 by kernel_rfl).symm.trans hf) |>.symm
   obtain rfl:fn=Tryz.f3:=(Option.some.inj (Tryz.func3.symm.trans hfn)).symm
   exact ⟨by kernel_rfl,fun j t ht=>by
    rw [Tryz.params3] at ht
    have hm:t∈[22,3,23]:=by simpa using Array.mem_of_getElem? ht
    have hall:([22,3,23].all fun u=>!Tryz.prog.wantsStandIn u)=true:=by kernel_rfl
    exact (show Tryz.prog.wantsStandIn t=false by simpa using List.all_eq_true.1 hall t hm)⟩)
  (by kernel_rfl)
end Go.Proofs.YtldoopjnjlpbpaaGreatDoor
