/- What a table of bytes that the program lays holds, for the symbolic machine; a call that is told of no block. No condition. -/
import Derived.Test.YtfjbkobkjnielaaGreatDoorRows
import Derived.Test.YtfjbkobkjnielaaGreatDoorE1
import Derived.ProofKit
import Derived.LaidMore
import Derived.OpenShut
import Derived.ChangeSame
import Derived.Deep.Slices
import Derived.Deep.Fields
import Derived.Stop.Joined
import Derived.Test.YtfjbkobkjnielaaGreatDoorK15
import Derived.Test.YtfjbkobkjnielaaGreatDoorF1
import Derived.Test.YtfjbkobkjnielaaGreatDoorK14c
import Derived.IntWalk
import Derived.JoinedOf
namespace Go.Proofs.YtfjbkobkjnielaaGreatDoor
open Go.ChangeShapes Go.WideShapes Go.ChangeAt Go.WideMaps Go.WideElems Go.RowKit

theorem own : ownKnob Tryz.prog.godebug = none := by kernel_rfl
theorem laidOut : laidOutB Tryz.prog = true := by kernel_rfl
theorem gTab : Tryz.prog.globalNamed "math/bits.deBruijn64tab" = some 0 := by kernel_rfl
theorem tTab : (Tryz.prog.globals[0]?).map (·.type) = some 240 := by kernel_rfl
def tabV : List Value := (glTab.headD (0, [])).2
def tabD {H : Type} : List (DataW H) := tabV.map fun | .int k n => .lit (.int k n) | _ => .nil
theorem tabD_eq {H : Type} : (Rows.laid_math_bits_deBruijn64tab : DataW H) = .agg tabD := rfl
theorem tab_byte : ∀ i : Nat, i < 64 → ∃ n, tabV[i]? = some (.int .u8 n) := by
  intro i hi
  have : ∀ i : Fin 64, (match tabV[i.val]? with | some (.int .u8 _) => true | _ => false) = true := by decide +kernel
  have := this ⟨i, hi⟩
  revert this
  generalize tabV[i]? = v
  intro h
  split at h
  · rename_i n; exact ⟨n, rfl⟩
  · cases h
def laidL : List (String × DataW Unit) := [("math/bits.deBruijn64tab", Rows.laid_math_bits_deBruijn64tab)]
/-- The table lies there. -/
theorem tab_lies {W : World} (h : laidMetH Tryz.prog laidL W) : ∃ cs ty fz, W.heap[0]? = some (.cells cs ty fz) ∧ ∀ i : Nat, i < tabV.length → cs[i]? = tabV[i]? := by
  rw [MakeChecks.laidMetH_plain _ _ _ (by kernel_rfl)] at h
  obtain ⟨ps, ⟨g0, t0, cs0, f0, p0, q0, hg0, ht0, hv0, hd0, _, _⟩, _, _⟩ := h
  obtain rfl := Option.some.inj (gTab.symm.trans hg0)
  obtain rfl := Option.some.inj (tTab.symm.trans ht0)
  have hv0' := hv0
  unfold World.var? at hv0
  rw [gTab] at hv0
  simp only [Option.bind_some] at hv0
  split at hv0
  · rename_i cs ty fz hb
    cases hv0
    refine ⟨cs0, ty, fz, hb, ?_⟩
    obtain ⟨xs, m1, rfl, hx1, hlen, hn3, hel⟩ := DataW.trod_array Tryz.underlying240 hd0
    have c5 : Tryz.prog.cellsOf 5 = 1 := by kernel_rfl
    have cT : Tryz.prog.cellsOf 240 = 64 := by kernel_rfl
    rw [cT] at hlen
    have hlen : cs0.size = 64 := by simpa using hlen
    simp only [Prod.mk.injEq, tabD_eq, DataW.agg.injEq] at hx1
    intro i hi
    have hi : i < 64 := hi
    obtain ⟨n, hn⟩ := tab_byte i hi
    have h0 := hel i hi
    have hxi : xs[i]? = some (xs[i]'(by omega)) := List.getElem?_eq_getElem (by omega)
    rw [c5, Nat.mul_one, hxi] at h0
    have hci : cs0.toList[i]? = some (cs0[i]'(by omega)) := by rw [Array.getElem?_toList, Array.getElem?_eq_getElem (by omega)]
    have hdrop : (cs0.toList.drop i).take 1 = [cs0[i]'(by omega)] := by
      rw [List.drop_eq_getElem_cons (by rw [Array.length_toList]; omega)]
      simp
    rw [hdrop] at h0
    obtain ⟨k, e1, e2, _⟩ := DataW.trod_int Tryz.underlying5 h0
    have e3 : (xs.map (·.1))[i]? = (tabD : List (DataW Unit))[i]? := by rw [hx1.1]
    rw [List.getElem?_map, hxi] at e3
    unfold tabD at e3
    rw [List.getElem?_map, hn] at e3
    rw [e2] at e3
    simp only [Option.map_some, Option.some.injEq, DataW.lit.injEq, Lit.int.injEq] at e3
    simp only [List.cons.injEq, and_true] at e1
    rw [← Array.getElem?_toList, hci, e1, hn, e3.2]
  · cases hv0
theorem tab_small {W : World} (h : laidMetH Tryz.prog laidL W) : 0 < W.heap.size := by
  obtain ⟨cs, ty, fz, hb, _⟩ := tab_lies h
  exact (Array.getElem?_eq_some_iff.1 hb).1
/-- The start of a call: no block is known. -/
theorem rel_start {W : World} (h : laidMetH Tryz.prog laidL W) (n : Nat) : Rel W.heap.size (fun _ => False) W (fun _ => none) ⟨n, .nil, []⟩ W :=
  ⟨fun _ _ _ _ _ _ h => by (cases h), fun _ _ h => by (cases h), fun _ _ h => by (cases h), fun i b h => by (have h : (Tr.nil : Tr SBlk).get i = some b := h; rw [Tr.get_nil] at h; cases h), Nat.le_refl _, BelowF.refl _ _ _, fun _ _ h => by (cases h), fun _ _ _ _ _ _ h => by (cases h), fun g cs hg => by
    have e : (g, cs) = (0, tabV) := by
      have : glTab = [(0, tabV)] := rfl
      rw [this] at hg
      simpa using hg
    cases e
    obtain ⟨cs', ty, fz, h1, h2⟩ := tab_lies h
    exact ⟨tab_small h, fun x => x, cs', ty, fz, h1, h2⟩⟩
theorem below_of {n0 : Nat} {w0 w : World} (h : BelowF n0 (fun _ => False) w0 w) : Below n0 w0 w := ⟨h.os, h.tape, h.output, h.size, fun k hk => h.block k hk fun x => x⟩
section
variable {H : Type} {enc : TypeId × Value → H} {P : Program}
theorem post_of_below {f : Func} {s : ChangeSpec} {apart fresh handsOn again : Bool} {W W' : World} {args : Array Value} {v : Value} {ds gs : List (DataW H)} {before pa pv : List MemPlace}
    (hW : DataW.Whole enc P f.params.toList s.vars apart W args.toList ds gs before)
    (hres : ∀ (b : Nat) (sp : Nat → Bool) (hd : Bool), DataW.TrodAll enc P W' b sp hd f.resultTypes.toList (v.resultList f.resultTypes.size) (s.fn H (ds ++ gs)).results [])
    (hargs : ∀ sp : Nat → Bool, (∀ p ∈ before, sp p.block = true) → DataW.TrodAll enc P W' 0 sp true f.params.toList args.toList (s.fn H (ds ++ gs)).args pa)
    (hvars : ∀ sp : Nat → Bool, (∀ p ∈ before, sp p.block = true) → DataW.TrodVars enc P W' sp s.vars (s.fn H (ds ++ gs)).vars pv)
    (hps : before = pa ++ pv) (hb : Below W.heap.size W W')
    (hok : ∀ (j : Nat) (t : TypeId) (r : Value), f.resultTypes[j]? = some t → (v.resultList f.resultTypes.size)[j]? = some r → Value.okWide P W' .any 0 t r) :
    s.post enc P f apart fresh handsOn again W args v W' := by
  have hlt : ∀ p ∈ before, p.block < W.heap.size := fun p hp => hW.lt p hp
  have hold : ∀ p ∈ before, (fun b => decide (b < W.heap.size)) p.block = true := fun p hp => by simpa using hlt p hp
  refine ⟨ds, gs, before, [], pa, pv, hW, hres _ _ _, hargs _ hold, hvars _ hold, World.keptBut_mono (fun p hp => ⟨hp, ?_⟩) (hb.frame (· ∈ before)), fun _ => ?_⟩
  · rw [hps, List.mem_append] at hp
    exact Or.inr hp
  · obtain ⟨_, _, _, _, _, hz, hn⟩ := hW
    refine ⟨hok, _, _, ([] ++ pa) ++ pv, ⟨[] ++ pa, pv, trodAll_append (hargs _ (fun _ _ => rfl)) (hres _ _ _), hvars _ (fun _ _ => rfl), rfl, ?_, ?_⟩, ?_⟩
    · intro b off hp
      have hin : MemPlace.cell b off ∈ before := by rw [hps]; simpa using hp
      rw [hb.frozen (hlt _ hin)]
      exact hz b off hin
    · intro ha
      have := hn ha
      rw [hps] at this
      simpa using this
    · intro p hp _
      rw [hps]
      simpa using hp
end
end Go.Proofs.YtfjbkobkjnielaaGreatDoor
/- Blocks that came in, told to the symbolic machine one by one; slices that came in. No condition. -/
namespace Go.Proofs.YtfjbkobkjnielaaGreatDoor
noncomputable section
open Go.ChangeShapes Go.WideShapes Go.ChangeAt Go.RowKit Go.Deep
theorem sub_get {l : List Value} {a b o : Nat} {v : Value} (h : ((l.drop a).take b)[o]? = some v) : l[a + o]? = some v := by
  rw [List.getElem?_take] at h
  split at h
  · rw [List.getElem?_drop] at h; exact h
  · cases h
theorem sub_one {l : List Value} {a b : Nat} {v : Value} (h : (l.drop a).take b = [v]) : l[a]? = some v := by
  have : ((l.drop a).take b)[0]? = some v := by rw [h]; rfl
  exact sub_get this
section
variable {H : Type} {enc : TypeId × Value → H} {P : Program} {w : World} {base : Nat} {spare : Nat → Bool} {held : Bool}
theorem field_of {t : TypeId} {fs : Array Field} {fuel : Nat} {cs : List Value} {x : DataW H × List MemPlace} (ht : P.underlying t = some (.struct fs)) (h : DataW.trod enc P w base spare held fuel t cs = some x)
    (i : Nat) {f : Field} (hf : fs[i]? = some f) : ∃ n y, DataW.trod enc P w base spare held n f.type ((cs.drop f.offset).take (P.cellsOf f.type)) = some y := by
  obtain ⟨ys, n, _, _, _, hyl, hg⟩ := DataW.trod_struct ht h
  have hlt : i < fs.size := (Array.getElem?_eq_some_iff.1 hf).1
  have hys : ys[i]? = some (ys[i]'(by omega)) := List.getElem?_eq_getElem (by omega)
  exact ⟨n, _, (hg i f hf).trans hys⟩
theorem add_none (b off n : Nat) : (⟨b, off, none⟩ : Addr).add n = ⟨b, off + n, none⟩ := by
  unfold Addr.add
  split
  · rename_i e; subst e; rfl
  · rfl
/-- A slice that came in: where it lies, and each element as it reads. -/
theorem slice_cells {t e : TypeId} {base' C : Nat} {fuel : Nat} {A : Option Addr} {len cap : Nat} {x : DataW H × List MemPlace} (ht : P.underlying t = some (.slice e)) (hC : P.cellsOf e = C)
    (hok : Value.okWide P w .any base t (.slice A len cap)) (h : DataW.trod enc P w base' (fun _ => true) held fuel t [.slice A len cap] = some x) :
    (A = none ∧ len = 0 ∧ cap = 0) ∨ ∃ b off cs ty fz, A = some ⟨b, off, none⟩ ∧ len ≤ cap ∧ cap ≤ maxLen ∧ w.heap[b]? = some (.cells cs ty fz) ∧
      ∀ j, j < len → ∃ n y, DataW.trod enc P w base' (fun _ => true) held n e ((cs.toList.drop (off + j * C)).take C) = some y := by
  rcases open_slice ht h with ⟨hcs, hx⟩ | ⟨a, len', cap', m, n, D, Pl, hcs, _, hl, hmx, hm, hx, hi⟩
  · simp at hcs
    exact .inl hcs
  · simp at hcs
    obtain ⟨rfl, rfl, rfl⟩ := hcs
    simp at hm
    subst hm
    obtain ⟨b, off, spot⟩ := a
    simp only [Value.okWide, ht, Cell.okWide, Cell.ok] at hok
    obtain ⟨_, _, _, hs, _, _, hsh, _⟩ := hok
    have hs : spot = none := hs
    subst hs
    cases ho : w.heap[b]? with
    | none => simp [World.shape?, ho] at hsh
    | some o =>
      have hcells : ∃ cs ty fz, o = .cells cs ty fz := by
        cases o <;> first | exact ⟨_, _, _, rfl⟩ | simp [World.shape?, ho] at hsh
      obtain ⟨cs, ty, fz, rfl⟩ := hcells
      refine .inr ⟨b, off, cs, ty, fz, rfl, hl, hmx, ho, fun j hj => ?_⟩
      obtain ⟨cs', hc, ht'⟩ := hi j (by omega)
      rw [hC] at hc
      obtain ⟨_, hcl, hat⟩ := World.cells?_some hc
      refine ⟨n, (D j, Pl j), ?_⟩
      rw [← ht']
      congr 1
      apply List.ext_getElem?
      intro i
      rw [List.getElem?_take]
      by_cases hi' : i < C
      · rw [if_pos hi', ← hat i hi', add_none, add_none]
        simp [World.cell?, ho, Nat.add_assoc]
      · rw [if_neg hi', List.getElem?_eq_none (by omega)]
end

/-- Nothing of what is known may be written. -/
def OnlyRead (m : SMem) : Prop := m.xs = [] ∧ ∀ i b, getB m.bl i = some b → b.wr = false
theorem rel_add {W : World} {R : Ren} {m : SMem} (hR : Rel W.heap.size (fun _ => False) W R m W) (ho : OnlyRead m) {i b : Nat} {cs : Array Value} {ty : TypeId} {fz : Nat × Nat} (hi : i < m.next) (hn : R i = none) (hb : W.heap[b]? = some (.cells cs ty fz)) :
    Rel W.heap.size (fun _ => False) W (fun j => if j = i then some ⟨b, cs.size⟩ else R j) ⟨m.next, m.bl.set i (some ⟨.raw cs, ty, false⟩), m.xs⟩ W ∧ OnlyRead ⟨m.next, m.bl.set i (some ⟨.raw cs, ty, false⟩), m.xs⟩ := by
  have ho' : OnlyRead ⟨m.next, m.bl.set i (some ⟨.raw cs, ty, false⟩), m.xs⟩ := by
    refine ⟨ho.1, fun j c hc => ?_⟩
    have hc : (m.bl.set i (some ⟨.raw cs, ty, false⟩)).get j = some c := hc
    rw [Tr.get_set] at hc
    split at hc
    · cases hc; rfl
    · exact ho.2 j c hc
  have hlt : b < W.heap.size := (Array.getElem?_eq_some_iff.1 hb).1
  refine ⟨⟨fun j k g h x y h1 h2 h3 h4 h5 h6 => ?_, fun j g h => ?_, fun j g h => ?_, fun j c hc => ?_, Nat.le_refl _, BelowF.refl _ _ _, fun j x hx => ?_, fun j k g h x y _ _ _ h4 => ?_, fun g cs hg => ?_⟩, ho'⟩
  · have e1 := ho'.2 _ _ h4
    have e2 := ho'.2 _ _ h5
    rw [e1, e2] at h6
    rcases h6 with h6 | h6 <;> cases h6
  · split at h
    · cases h; exact hlt
    · exact hR.lt j g h
  · split at h
    · rename_i e; rw [e]; exact hi
    · exact hR.nx j g h
  · have hc : (m.bl.set i (some ⟨.raw cs, ty, false⟩)).get j = some c := hc
    rw [Tr.get_set] at hc
    split at hc
    · rename_i e
      cases hc
      exact ⟨⟨b, cs.size⟩, cs, fz, by simp [e], hb, rfl, rfl, fun h => by cases h⟩
    · rename_i e
      obtain ⟨g, cs', fz', k1, k2, k3, k4, k5⟩ := hR.blk j c hc
      refine ⟨g, cs', fz', by simp [e, k1], k2, k3, SA.monoM (fun l g hl => ?_) k4, k5⟩
      by_cases el : l = i
      · rw [el, hn] at hl; cases hl
      · rw [if_neg el]; exact hl
  · have hx : getX m.xs j = some x := hx
    rw [ho.1] at hx; cases hx
  · have h4 : getX m.xs j = some x := h4
    rw [ho.1] at h4; cases h4
  · exact hR.gl g cs hg
theorem onlyRead_nil (n : Nat) : OnlyRead ⟨n, .nil, []⟩ := ⟨rfl, fun i b h => by
  have h : (Tr.nil : Tr SBlk).get i = some b := h
  rw [Tr.get_nil] at h; cases h⟩
theorem isInt_of {k : IntKind} {cs : Array Value} {i : Nat} {n : Int} (h : cs.toList[i]? = some (.int k n)) : IsInt k cs i := by
  rw [Array.getElem?_toList] at h
  unfold IsInt intAt
  rw [h]
end
end Go.Proofs.YtfjbkobkjnielaaGreatDoor
/- Of linear: the closed test. No condition. -/
namespace Go.Proofs.YtfjbkobkjnielaaGreatDoor
set_option maxRecDepth 1000000 in
theorem wk_fast : (runC E0 100000 0 [callFr 4 Tryz.f4.ntmps [] (Tryz.f4.body.getD .skip)] ⟨0, .nil, []⟩).allTrue = true := by kernel_rfl
theorem wk_true : (run E0 100000 0 [callFr 4 Tryz.f4.ntmps [] (Tryz.f4.body.getD .skip)] ⟨0, .nil, []⟩).allTrue = true := by
  rw [← runC_eq]
  exact wk_fast
theorem wk_fn : E0.fn 4 = some Tryz.f4 := by kernel_rfl
theorem wk_body : Tryz.f4.body = some (Tryz.f4.body.getD .skip) := by kernel_rfl
theorem wk_con (m : SMem) : Con E0 4 [] m (needs [] (.ret (sB (.l true)) m)) :=
  Con.pure E0_ok wk_fn wk_body (by kernel_rfl) (by kernel_rfl) fun _ => good_true E0_ok wk_true
def conS (g : FuncId) (l : List SV) (m : SMem) : Option Tree :=
  match g, l with
  | 4, [] => some (.ret (sB (.l true)) m)
  | _, _ => none
/-- The closed test by its contract; one stops at each loop. -/
noncomputable def ES : Env := ⟨Tryz.prog, fnOf, conS, fun _ _ x => isLoop x⟩
theorem ES_ok : EnvOk ES := by
  refine EnvOk.with E0_ok _ _ fun g l m t h => ?_
  unfold conS at h
  split at h
  · cases h; exact wk_con m
  · cases h
end Go.Proofs.YtfjbkobkjnielaaGreatDoor
/- Of linear: states. No condition. -/
namespace Go.Proofs.YtfjbkobkjnielaaGreatDoor
noncomputable section
def reTm : List Tm → List SFr → List SFr
  | t :: ts, ⟨fn, _, td, dfs, md, kind, rnd⟩ :: cs => ⟨fn, t, td, dfs, md, kind, rnd⟩ :: reTm ts cs
  | _, _ => []
def Tree.no : Tree → Tree
  | .br _ _ e => e
  | .need _ t => t.no
  | t => t
def boolR (b : Bool) (s : SV) (_ : SMem) : Prop := match s with
  | .s (.c (.f (.bool x))) => x.den = b
  | _ => False
def prS (off n : Nat) : SV := .s (.c (.f (.slice 0 (.o off) (.o n) .any)))
def prM (cs : Array Value) (ty : TypeId) : SMem := ⟨1, (Tr.nil : Tr SBlk).set 0 (some ⟨.raw cs, ty, false⟩), []⟩
def lawC (x : SV) (b : Int) : List SFr := [callFr 3 Tryz.f3.ntmps [x, i64 (.o b)] (Tryz.f3.body.getD .skip)]
/-- The first loop: moments. -/
def aR (off n : Nat) (cs : Array Value) (ty : TypeId) (b : Int) : Tree := run ES 1000 1 (lawC (prS off n) b) (prM cs ty)
def aF (off n : Nat) (b i : Int) : List SFr := reTm [tmOf Tryz.f3.ntmps [(0, prS off n), (1, i64 (.o b)), (5, i64 (.o i))]] ((aR 0 0 #[] 0 0).fsAt 4)
def aS (off n : Nat) (cs : Array Value) (ty : TypeId) (b i : Int) : Tree := stepT ES.go (run ES 1000) 1 (headF (aF off n b i)) (prM cs ty)
/-- The second one: the copy is widened. -/
def vOf (b : Int) : Int := min (max b 0) 100000
def mS (n : Nat) : SV := .s (.c (.f (.slice 2 (.l 0) (.o n) (.full 14))))
def bFs : List SFr := (aS 0 0 #[] 0 0 0).no.fsE
def bF (off n : Nat) (b v j : Int) : List SFr := reTm [tmOf Tryz.f5.ntmps [(1, i64 (.o v)), (5, mS n), (13, i64 (.o n)), (14, i64 (.o j))], tmOf Tryz.f3.ntmps [(0, prS off n), (1, i64 (.o b))]] bFs
def bM (cs : Array Value) (ty : TypeId) (ms : Array Value) : SMem := ⟨3, ((Tr.nil : Tr SBlk).set 0 (some ⟨.raw cs, ty, false⟩)).set 2 (some ⟨.pop ms, 35, true⟩), []⟩
def bS (off n : Nat) (cs : Array Value) (ty : TypeId) (b v j : Int) (ms : Array Value) : Tree := stepT ES.go (run ES 1000) 1 (headF (bF off n b v j)) (bM cs ty ms)
/-- The third one: what is wanted. -/
def cFs : List SFr := (bS 0 0 #[] 0 0 0 0 #[]).fsAt 17
def cF (off n : Nat) (v i : Int) : List SFr := reTm [tmOf Tryz.f3.ntmps [(0, prS off n), (6, mS n), (7, i64 (.o v)), (8, i64 (.o i))]] cFs
def cS (off n : Nat) (cs : Array Value) (ty : TypeId) (v i : Int) (ms : Array Value) : Tree := stepT ES.go (run ES 1000) 1 (headF (cF off n v i)) (bM cs ty ms)
def hF (h : Bool) (fs : List SFr) : List SFr := cond h (headF fs) fs
def aN (h : Bool) (off n : Nat) (cs : Array Value) (ty : TypeId) (b : Int) (Q : Int → Prop) (fs : List SFr) (m : SMem) : Prop := match fs with
  | f :: _ => match rdI f 5 with
    | some i => Q i ∧ subOk 1 [] (hF h (aF off n b i)) (prM cs ty) fs m
    | none => False
  | [] => False
def bN (h : Bool) (off n : Nat) (cs : Array Value) (ty : TypeId) (b v : Int) (Q : Int → Array Value → Prop) (fs : List SFr) (m : SMem) : Prop := match fs with
  | f :: _ => match rdI f 14, rdS f 5 m with
    | some j, some (some (sid, _, ms)) => Q j ms ∧ subOk 1 [(2, sid)] (hF h (bF off n b v j)) (bM cs ty ms) fs m
    | _, _ => False
  | [] => False
def cN (h : Bool) (off n : Nat) (cs : Array Value) (ty : TypeId) (Q : Int → Int → Array Value → Prop) (fs : List SFr) (m : SMem) : Prop := match fs with
  | f :: _ => match rdI f 7, rdI f 8, rdS f 6 m with
    | some v, some i, some (some (sid, _, ms)) => Q v i ms ∧ subOk 1 [(2, sid)] (hF h (cF off n v i)) (bM cs ty ms) fs m
    | _, _, _ => False
  | [] => False
def at5 : List SFr → Bool
  | f :: _ => Nat.beq f.fn 5
  | [] => false
def nA (off n : Nat) (cs : Array Value) (ty : TypeId) (b : Int) (Q : Int → Prop) (Q2 : Int → Array Value → Prop) (fs : List SFr) (m : SMem) : Prop := match at5 fs with
  | true => bN false off n cs ty b (vOf b) Q2 fs m
  | false => aN true off n cs ty b Q fs m
def nB (off n : Nat) (cs : Array Value) (ty : TypeId) (b v : Int) (Q : Int → Array Value → Prop) (Q2 : Int → Int → Array Value → Prop) (fs : List SFr) (m : SMem) : Prop := match at5 fs with
  | true => bN true off n cs ty b v Q fs m
  | false => cN false off n cs ty Q2 fs m
def aT : List SIt := headTd (aF 0 0 0 0)
def aH : List SIt := headTd (headF (aF 0 0 0 0))
def bT : List SIt := headTd (bF 0 0 0 0 0)
def bH : List SIt := headTd (headF (bF 0 0 0 0 0))
def bT1 : List SIt := headTd ((bF 0 0 0 0 0).drop 1)
def cT : List SIt := headTd (cF 0 0 0 0)
def cH : List SIt := headTd (headF (cF 0 0 0 0))
end
end Go.Proofs.YtfjbkobkjnielaaGreatDoor
/- Of linear: the loops' rounds, as propositions. No condition. -/
namespace Go.Proofs.YtfjbkobkjnielaaGreatDoor
set_option maxRecDepth 100000
theorem k_start (off n : Nat) (cs : Array Value) (ty : TypeId) (b : Int) (Q : Int → Prop) : (aR off n cs ty b).vc (boolR true) (aN false off n cs ty b Q) =
    ((decide ((↑n : Int) > (100 : Int)) = true → true = true) ∧ (decide ((↑n : Int) > (100 : Int)) = false → Q (0 : Int) ∧ CallKind.normal = CallKind.normal ∧ TodoOk (ren 1 []) aT aT ∧ off = off ∧ n = n ∧ b = b ∧ (0 : Int) = (0 : Int) ∧ ty = ty ∧ cs = cs ∧ True)) := by kernel_rfl
theorem k_a (off n : Nat) (cs : Array Value) (ty : TypeId) (b i : Int) (Q : Int → Prop) (Q2 : Int → Array Value → Prop) : (aS off n cs ty b i).vc (boolR true) (nA off n cs ty b Q Q2) =
    ((decide (i < (↑n : Int)) = true → (((0 : Int) ≤ i ∧ i < (↑n : Int)) ∧ True) ∧ (IsInt IntKind.i64 cs (off + Int.toNat i * 14 + 12) ∧ True) ∧ ((decide (intAt cs (off + Int.toNat i * 14 + 12) < (-1000000 : Int)) == false) = true → (((0 : Int) ≤ i ∧ i < (↑n : Int)) ∧ True) ∧ (IsInt IntKind.i64 cs (off + Int.toNat i * 14 + 12) ∧ True) ∧ ((decide (intAt cs (off + Int.toNat i * 14 + 12) > (1000000 : Int)) == false) = true → (((0 : Int) ≤ i ∧ i < (↑n : Int)) ∧ True) ∧ (IsInt IntKind.i64 cs (off + Int.toNat i * 14 + 13) ∧ True) ∧ ((decide (intAt cs (off + Int.toNat i * 14 + 13) < (-1000000 : Int)) == false) = true → (((0 : Int) ≤ i ∧ i < (↑n : Int)) ∧ True) ∧ (IsInt IntKind.i64 cs (off + Int.toNat i * 14 + 13) ∧ True) ∧ (decide (intAt cs (off + Int.toNat i * 14 + 13) > (1000000 : Int)) = true → true = true) ∧ (decide (intAt cs (off + Int.toNat i * 14 + 13) > (1000000 : Int)) = false → Q (ari BinOp.add IntKind.i64 i (1 : Int)) ∧ CallKind.normal = CallKind.normal ∧ TodoOk (ren 1 []) aH aH ∧ off = off ∧ n = n ∧ b = b ∧ ari BinOp.add IntKind.i64 i (1 : Int) = ari BinOp.add IntKind.i64 i (1 : Int) ∧ ty = ty ∧ cs = cs ∧ True)) ∧ ((decide (intAt cs (off + Int.toNat i * 14 + 13) < (-1000000 : Int)) == false) = false → true = true)) ∧ ((decide (intAt cs (off + Int.toNat i * 14 + 12) > (1000000 : Int)) == false) = false → true = true)) ∧ ((decide (intAt cs (off + Int.toNat i * 14 + 12) < (-1000000 : Int)) == false) = false → true = true)) ∧ (decide (i < (↑n : Int)) = false → (off + n * 14 ≤ Array.size cs ∧ (∀ (v : Value), List.Mem v (Array.toList (Array.extract cs off (off + n * 14))) → Value.oneCell' v = true) ∧ (((0 : Nat) + n) * 96 ≤ (140737488355328 : Nat) ∧ (0 : Nat) + n ≤ (140737488355328 : Nat)) ∧ True) ∧ Q2 (0 : Int) (Array.extract cs off (off + n * 14)) ∧ CallKind.normal = CallKind.normal ∧ TodoOk (ren 1 [(2, 2)]) bT bT ∧ (vOf b = if (100000 : Int) < if (0 : Int) > b then (0 : Int) else b then (100000 : Int) else if (0 : Int) > b then (0 : Int) else b) ∧ n = (0 : Nat) + n ∧ (↑n : Int) = (↑((0 : Nat) + n) : Int) ∧ (0 : Int) = (0 : Int) ∧ CallKind.normal = CallKind.normal ∧ TodoOk (ren 1 [(2, 2)]) bT1 bT1 ∧ off = off ∧ n = n ∧ b = b ∧ ty = ty ∧ cs = cs ∧ (35 : TypeId) = (35 : Nat) ∧ Array.extract cs off (off + n * 14) = Array.extract cs off (off + n * 14) ∧ True)) := by kernel_rfl
theorem k_b (off n : Nat) (cs : Array Value) (ty : TypeId) (b v j : Int) (ms : Array Value) (Q : Int → Array Value → Prop) (Q2 : Int → Int → Array Value → Prop) : (bS off n cs ty b v j ms).vc (boolR true) (nB off n cs ty b v Q Q2) =
    ((decide (j < (↑n : Int)) = true → (((0 : Int) ≤ j ∧ j < (↑n : Int)) ∧ True) ∧ (IsInt IntKind.i64 ms ((0 : Nat) + Int.toNat j * 14 + 12) ∧ True) ∧ (((0 : Int) ≤ j ∧ j < (↑n : Int)) ∧ True) ∧ ((0 : Nat) + Int.toNat j * 14 + 12 < Array.size ms ∧ True) ∧ (((0 : Int) ≤ j ∧ j < (↑n : Int)) ∧ True) ∧ (IsInt IntKind.i64 (Array.setIfInBounds ms ((0 : Nat) + Int.toNat j * 14 + 12) (Value.int IntKind.i64 (ari BinOp.sub IntKind.i64 (intAt ms ((0 : Nat) + Int.toNat j * 14 + 12)) v))) ((0 : Nat) + Int.toNat j * 14 + 13) ∧ True) ∧ (((0 : Int) ≤ j ∧ j < (↑n : Int)) ∧ True) ∧ ((0 : Nat) + Int.toNat j * 14 + 13 < Array.size (Array.setIfInBounds ms ((0 : Nat) + Int.toNat j * 14 + 12) (Value.int IntKind.i64 (ari BinOp.sub IntKind.i64 (intAt ms ((0 : Nat) + Int.toNat j * 14 + 12)) v))) ∧ True) ∧ Q (ari BinOp.add IntKind.i64 j (1 : Int)) (Array.setIfInBounds (Array.setIfInBounds ms ((0 : Nat) + Int.toNat j * 14 + 12) (Value.int IntKind.i64 (ari BinOp.sub IntKind.i64 (intAt ms ((0 : Nat) + Int.toNat j * 14 + 12)) v))) ((0 : Nat) + Int.toNat j * 14 + 13) (Value.int IntKind.i64 (ari BinOp.add IntKind.i64 (intAt (Array.setIfInBounds ms ((0 : Nat) + Int.toNat j * 14 + 12) (Value.int IntKind.i64 (ari BinOp.sub IntKind.i64 (intAt ms ((0 : Nat) + Int.toNat j * 14 + 12)) v))) ((0 : Nat) + Int.toNat j * 14 + 13)) v))) ∧ CallKind.normal = CallKind.normal ∧ TodoOk (ren 1 [(2, 2)]) bH bH ∧ v = v ∧ n = n ∧ (↑n : Int) = (↑n : Int) ∧ ari BinOp.add IntKind.i64 j (1 : Int) = ari BinOp.add IntKind.i64 j (1 : Int) ∧ CallKind.normal = CallKind.normal ∧ TodoOk (ren 1 [(2, 2)]) bT1 bT1 ∧ off = off ∧ n = n ∧ b = b ∧ ty = ty ∧ cs = cs ∧ (35 : TypeId) = (35 : TypeId) ∧ Array.setIfInBounds (Array.setIfInBounds ms ((0 : Nat) + Int.toNat j * 14 + 12) (Value.int IntKind.i64 (ari BinOp.sub IntKind.i64 (intAt ms ((0 : Nat) + Int.toNat j * 14 + 12)) v))) ((0 : Nat) + Int.toNat j * 14 + 13) (Value.int IntKind.i64 (ari BinOp.add IntKind.i64 (intAt (Array.setIfInBounds ms ((0 : Nat) + Int.toNat j * 14 + 12) (Value.int IntKind.i64 (ari BinOp.sub IntKind.i64 (intAt ms ((0 : Nat) + Int.toNat j * 14 + 12)) v))) ((0 : Nat) + Int.toNat j * 14 + 13)) v)) = Array.setIfInBounds (Array.setIfInBounds ms ((0 : Nat) + Int.toNat j * 14 + 12) (Value.int IntKind.i64 (ari BinOp.sub IntKind.i64 (intAt ms ((0 : Nat) + Int.toNat j * 14 + 12)) v))) ((0 : Nat) + Int.toNat j * 14 + 13) (Value.int IntKind.i64 (ari BinOp.add IntKind.i64 (intAt (Array.setIfInBounds ms ((0 : Nat) + Int.toNat j * 14 + 12) (Value.int IntKind.i64 (ari BinOp.sub IntKind.i64 (intAt ms ((0 : Nat) + Int.toNat j * 14 + 12)) v))) ((0 : Nat) + Int.toNat j * 14 + 13)) v)) ∧ True) ∧ (decide (j < (↑n : Int)) = false → (((↑n : Int) != (↑n : Int)) = true → false = true) ∧ (((↑n : Int) != (↑n : Int)) = false → (decide (b < (0 : Int)) = true → Q2 (0 : Int) (0 : Int) ms ∧ CallKind.normal = CallKind.normal ∧ TodoOk (ren 1 [(2, 2)]) cT cT ∧ off = off ∧ n = n ∧ (0 : Int) = (0 : Int) ∧ (0 : Int) = (0 : Int) ∧ n = n ∧ ty = ty ∧ cs = cs ∧ (35 : TypeId) = (35 : TypeId) ∧ ms = ms ∧ True) ∧ (decide (b < (0 : Int)) = false → (decide (b > (100000 : Int)) = true → Q2 (100000 : Int) (0 : Int) ms ∧ CallKind.normal = CallKind.normal ∧ TodoOk (ren 1 [(2, 2)]) cT cT ∧ off = off ∧ n = n ∧ (100000 : Int) = (100000 : Int) ∧ (0 : Int) = (0 : Int) ∧ n = n ∧ ty = ty ∧ cs = cs ∧ (35 : TypeId) = (35 : TypeId) ∧ ms = ms ∧ True) ∧ (decide (b > (100000 : Int)) = false → Q2 b (0 : Int) ms ∧ CallKind.normal = CallKind.normal ∧ TodoOk (ren 1 [(2, 2)]) cT cT ∧ off = off ∧ n = n ∧ b = b ∧ (0 : Int) = (0 : Int) ∧ n = n ∧ ty = ty ∧ cs = cs ∧ (35 : TypeId) = (35 : TypeId) ∧ ms = ms ∧ True))))) := by kernel_rfl
theorem k_c (off n : Nat) (cs : Array Value) (ty : TypeId) (v i : Int) (ms : Array Value) (Q : Int → Int → Array Value → Prop) : (cS off n cs ty v i ms).vc (boolR true) (cN true off n cs ty Q) =
    ((decide (i < (↑n : Int)) = true → (((0 : Int) ≤ i ∧ i < (↑n : Int)) ∧ True) ∧ (IsInt IntKind.i64 cs (off + Int.toNat i * 14) ∧ IsInt IntKind.u8 cs (off + Int.toNat i * 14 + 1) ∧ IsInt IntKind.u32 cs (off + Int.toNat i * 14 + 2) ∧ IsInt IntKind.u32 cs (off + Int.toNat i * 14 + 3) ∧ IsInt IntKind.u32 cs (off + Int.toNat i * 14 + 4) ∧ IsInt IntKind.u32 cs (off + Int.toNat i * 14 + 5) ∧ IsInt IntKind.u64 cs (off + Int.toNat i * 14 + 6) ∧ IsInt IntKind.i64 cs (off + Int.toNat i * 14 + 7) ∧ IsInt IntKind.i64 cs (off + Int.toNat i * 14 + 8) ∧ IsInt IntKind.i64 cs (off + Int.toNat i * 14 + 9) ∧ IsInt IntKind.u64 cs (off + Int.toNat i * 14 + 10) ∧ IsInt IntKind.u32 cs (off + Int.toNat i * 14 + 11) ∧ IsInt IntKind.i64 cs (off + Int.toNat i * 14 + 12) ∧ IsInt IntKind.i64 cs (off + Int.toNat i * 14 + 13) ∧ True) ∧ (((0 : Int) ≤ i ∧ i < (↑n : Int)) ∧ True) ∧ (IsInt IntKind.i64 ms ((0 : Nat) + Int.toNat i * 14) ∧ IsInt IntKind.u8 ms ((0 : Nat) + Int.toNat i * 14 + 1) ∧ IsInt IntKind.u32 ms ((0 : Nat) + Int.toNat i * 14 + 2) ∧ IsInt IntKind.u32 ms ((0 : Nat) + Int.toNat i * 14 + 3) ∧ IsInt IntKind.u32 ms ((0 : Nat) + Int.toNat i * 14 + 4) ∧ IsInt IntKind.u32 ms ((0 : Nat) + Int.toNat i * 14 + 5) ∧ IsInt IntKind.u64 ms ((0 : Nat) + Int.toNat i * 14 + 6) ∧ IsInt IntKind.i64 ms ((0 : Nat) + Int.toNat i * 14 + 7) ∧ IsInt IntKind.i64 ms ((0 : Nat) + Int.toNat i * 14 + 8) ∧ IsInt IntKind.i64 ms ((0 : Nat) + Int.toNat i * 14 + 9) ∧ IsInt IntKind.u64 ms ((0 : Nat) + Int.toNat i * 14 + 10) ∧ IsInt IntKind.u32 ms ((0 : Nat) + Int.toNat i * 14 + 11) ∧ IsInt IntKind.i64 ms ((0 : Nat) + Int.toNat i * 14 + 12) ∧ IsInt IntKind.i64 ms ((0 : Nat) + Int.toNat i * 14 + 13) ∧ True) ∧ ((!(intAt ms ((0 : Nat) + Int.toNat i * 14) == intAt cs (off + Int.toNat i * 14) && (intAt ms ((0 : Nat) + Int.toNat i * 14 + 1) == intAt cs (off + Int.toNat i * 14 + 1) && (intAt ms ((0 : Nat) + Int.toNat i * 14 + 2) == intAt cs (off + Int.toNat i * 14 + 2) && (intAt ms ((0 : Nat) + Int.toNat i * 14 + 3) == intAt cs (off + Int.toNat i * 14 + 3) && (intAt ms ((0 : Nat) + Int.toNat i * 14 + 4) == intAt cs (off + Int.toNat i * 14 + 4) && (intAt ms ((0 : Nat) + Int.toNat i * 14 + 5) == intAt cs (off + Int.toNat i * 14 + 5) && intAt ms ((0 : Nat) + Int.toNat i * 14 + 6) == intAt cs (off + Int.toNat i * 14 + 6))))) && (intAt ms ((0 : Nat) + Int.toNat i * 14 + 7) == intAt cs (off + Int.toNat i * 14 + 7) && intAt ms ((0 : Nat) + Int.toNat i * 14 + 8) == intAt cs (off + Int.toNat i * 14 + 8) && (intAt ms ((0 : Nat) + Int.toNat i * 14 + 9) == intAt cs (off + Int.toNat i * 14 + 9) && (intAt ms ((0 : Nat) + Int.toNat i * 14 + 10) == intAt cs (off + Int.toNat i * 14 + 10) && intAt ms ((0 : Nat) + Int.toNat i * 14 + 11) == intAt cs (off + Int.toNat i * 14 + 11)) && (intAt ms ((0 : Nat) + Int.toNat i * 14 + 12) == ari BinOp.sub IntKind.i64 (intAt cs (off + Int.toNat i * 14 + 12)) v && intAt ms ((0 : Nat) + Int.toNat i * 14 + 13) == ari BinOp.add IntKind.i64 (intAt cs (off + Int.toNat i * 14 + 13)) v)))))) = true → false = true) ∧ ((!(intAt ms ((0 : Nat) + Int.toNat i * 14) == intAt cs (off + Int.toNat i * 14) && (intAt ms ((0 : Nat) + Int.toNat i * 14 + 1) == intAt cs (off + Int.toNat i * 14 + 1) && (intAt ms ((0 : Nat) + Int.toNat i * 14 + 2) == intAt cs (off + Int.toNat i * 14 + 2) && (intAt ms ((0 : Nat) + Int.toNat i * 14 + 3) == intAt cs (off + Int.toNat i * 14 + 3) && (intAt ms ((0 : Nat) + Int.toNat i * 14 + 4) == intAt cs (off + Int.toNat i * 14 + 4) && (intAt ms ((0 : Nat) + Int.toNat i * 14 + 5) == intAt cs (off + Int.toNat i * 14 + 5) && intAt ms ((0 : Nat) + Int.toNat i * 14 + 6) == intAt cs (off + Int.toNat i * 14 + 6))))) && (intAt ms ((0 : Nat) + Int.toNat i * 14 + 7) == intAt cs (off + Int.toNat i * 14 + 7) && intAt ms ((0 : Nat) + Int.toNat i * 14 + 8) == intAt cs (off + Int.toNat i * 14 + 8) && (intAt ms ((0 : Nat) + Int.toNat i * 14 + 9) == intAt cs (off + Int.toNat i * 14 + 9) && (intAt ms ((0 : Nat) + Int.toNat i * 14 + 10) == intAt cs (off + Int.toNat i * 14 + 10) && intAt ms ((0 : Nat) + Int.toNat i * 14 + 11) == intAt cs (off + Int.toNat i * 14 + 11)) && (intAt ms ((0 : Nat) + Int.toNat i * 14 + 12) == ari BinOp.sub IntKind.i64 (intAt cs (off + Int.toNat i * 14 + 12)) v && intAt ms ((0 : Nat) + Int.toNat i * 14 + 13) == ari BinOp.add IntKind.i64 (intAt cs (off + Int.toNat i * 14 + 13)) v)))))) = false → Q v (ari BinOp.add IntKind.i64 i (1 : Int)) ms ∧ CallKind.normal = CallKind.normal ∧ TodoOk (ren 1 [(2, 2)]) cH cH ∧ off = off ∧ n = n ∧ v = v ∧ ari BinOp.add IntKind.i64 i (1 : Int) = ari BinOp.add IntKind.i64 i (1 : Int) ∧ n = n ∧ ty = ty ∧ cs = cs ∧ (35 : TypeId) = (35 : TypeId) ∧ ms = ms ∧ True)) ∧ (decide (i < (↑n : Int)) = false → true = true)) := by kernel_rfl
end Go.Proofs.YtfjbkobkjnielaaGreatDoor
/- Of linear: rows of events, and their widened copies. No condition. -/
namespace Go.Proofs.YtfjbkobkjnielaaGreatDoor
set_option maxRecDepth 100000
/-- An event lies there. -/
structure EvAt (cs : Array Value) (p : Nat) : Prop where
  c0 : IsInt .i64 cs p
  c1 : IsInt .u8 cs (p + 1)
  c2 : IsInt .u32 cs (p + 2)
  c3 : IsInt .u32 cs (p + 3)
  c4 : IsInt .u32 cs (p + 4)
  c5 : IsInt .u32 cs (p + 5)
  c6 : IsInt .u64 cs (p + 6)
  c7 : IsInt .i64 cs (p + 7)
  c8 : IsInt .i64 cs (p + 8)
  c9 : IsInt .i64 cs (p + 9)
  c10 : IsInt .u64 cs (p + 10)
  c11 : IsInt .u32 cs (p + 11)
  c12 : IsInt .i64 cs (p + 12)
  c13 : IsInt .i64 cs (p + 13)
def EvOk (cs : Array Value) (off n : Nat) : Prop := off + n * 14 ≤ cs.size ∧ ∀ i, i < n → EvAt cs (off + i * 14)
theorem EvAt.cell {cs : Array Value} {p : Nat} (h : EvAt cs p) {c : Nat} (hc : c < 14) : ∃ k, IsInt k cs (p + c) := by
  match c, hc with
  | 0, _ => exact ⟨_, h.c0⟩
  | 1, _ => exact ⟨_, h.c1⟩
  | 2, _ => exact ⟨_, h.c2⟩
  | 3, _ => exact ⟨_, h.c3⟩
  | 4, _ => exact ⟨_, h.c4⟩
  | 5, _ => exact ⟨_, h.c5⟩
  | 6, _ => exact ⟨_, h.c6⟩
  | 7, _ => exact ⟨_, h.c7⟩
  | 8, _ => exact ⟨_, h.c8⟩
  | 9, _ => exact ⟨_, h.c9⟩
  | 10, _ => exact ⟨_, h.c10⟩
  | 11, _ => exact ⟨_, h.c11⟩
  | 12, _ => exact ⟨_, h.c12⟩
  | 13, _ => exact ⟨_, h.c13⟩
theorem is_of {cs : Array Value} {p : Nat} {k : IntKind} {n : Int} (h : cs[p]? = some (.int k n)) : intAt cs p = n ∧ IsInt k cs p := by
  have e : intAt cs p = n := by unfold intAt; rw [h]
  refine ⟨e, ?_⟩
  unfold IsInt
  rw [e]
  exact h
theorem is_eq {cs ms : Array Value} {p q : Nat} {k : IntKind} (h : IsInt k cs p) (e : ms[q]? = cs[p]?) : IsInt k ms q ∧ intAt ms q = intAt cs p := by
  have h' : ms[q]? = some (.int k (intAt cs p)) := e.trans h
  exact ⟨(is_of h').2, (is_of h').1⟩
theorem EvOk.one {cs : Array Value} {off n : Nat} (h : EvOk cs off n) : ∀ v : Value, List.Mem v (Array.toList (Array.extract cs off (off + n * 14))) → v.oneCell' = true := by
  intro v hv
  have hv : v ∈ (Array.extract cs off (off + n * 14)).toList := hv
  obtain ⟨k, hk⟩ := List.getElem?_of_mem hv
  rw [Array.getElem?_toList, Array.getElem?_extract] at hk
  split at hk
  · rename_i hlt
    have hk2 : k < n * 14 := by omega
    have hd : k = k / 14 * 14 + k % 14 := by omega
    obtain ⟨kd, hi⟩ := (h.2 (k / 14) (by omega)).cell (c := k % 14) (by omega)
    have e : off + k / 14 * 14 + k % 14 = off + k := by omega
    rw [e] at hi
    unfold IsInt at hi
    rw [hi] at hk
    cases hk
    rfl
  · cases hk
/-- What a cell of the copy holds. -/
def wC (cs : Array Value) (off i c : Nat) (v : Int) (b : Bool) : Option Value := match b, c with
  | true, 12 => some (.int .i64 (ari .sub .i64 (intAt cs (off + i * 14 + 12)) v))
  | true, 13 => some (.int .i64 (ari .add .i64 (intAt cs (off + i * 14 + 13)) v))
  | _, _ => cs[off + i * 14 + c]?
/-- The copy, of which so many are widened. -/
def Wd (cs ms : Array Value) (off n j : Nat) (v : Int) : Prop := ms.size = n * 14 ∧ ∀ i, i < n → ∀ c, c < 14 → ms[i * 14 + c]? = wC cs off i c v (decide (i < j))
theorem wd_start {cs : Array Value} {off n : Nat} (v : Int) (h : EvOk cs off n) : Wd cs (Array.extract cs off (off + n * 14)) off n 0 v := by
  have h1 := h.1
  refine ⟨by rw [Array.size_extract]; omega, fun i hi c hc => ?_⟩
  rw [Array.getElem?_extract, if_pos (by omega)]
  simp only [Nat.not_lt_zero, decide_false, wC]
  rw [Nat.add_assoc]
theorem wC_false {cs : Array Value} {off i c : Nat} {v : Int} : wC cs off i c v false = cs[off + i * 14 + c]? := by simp only [wC]
theorem wC_lt {cs : Array Value} {off i c : Nat} {v : Int} {b : Bool} (hc : c < 12) : wC cs off i c v b = cs[off + i * 14 + c]? := by
  unfold wC
  split
  · omega
  · omega
  · rfl
theorem wd_step {cs ms : Array Value} {off n j : Nat} {v : Int} (h : EvOk cs off n) (hw : Wd cs ms off n j v) (hj : j < n) :
    Wd cs ((ms.setIfInBounds (j * 14 + 12) (.int .i64 (ari .sub .i64 (intAt ms (j * 14 + 12)) v))).setIfInBounds (j * 14 + 13) (.int .i64 (ari .add .i64 (intAt (ms.setIfInBounds (j * 14 + 12) (.int .i64 (ari .sub .i64 (intAt ms (j * 14 + 12)) v))) (j * 14 + 13)) v))) off n (j + 1) v := by
  obtain ⟨hs, hc⟩ := hw
  have hd : decide (j < j) = false := by simp
  have e12 : intAt ms (j * 14 + 12) = intAt cs (off + j * 14 + 12) := (is_eq (h.2 j hj).c12 (by rw [hc j hj 12 (by omega), hd, wC_false])).2
  have e13 : intAt ms (j * 14 + 13) = intAt cs (off + j * 14 + 13) := (is_eq (h.2 j hj).c13 (by rw [hc j hj 13 (by omega), hd, wC_false])).2
  have e13' : intAt (ms.setIfInBounds (j * 14 + 12) (.int .i64 (ari .sub .i64 (intAt ms (j * 14 + 12)) v))) (j * 14 + 13) = intAt cs (off + j * 14 + 13) := by
    rw [← e13]
    unfold intAt
    rw [Array.getElem?_setIfInBounds_ne (by omega)]
  rw [e13', e12]
  refine ⟨by simp only [Array.size_setIfInBounds]; exact hs, fun i hi c hcc => ?_⟩
  by_cases h1 : i * 14 + c = j * 14 + 13
  · obtain ⟨rfl, rfl⟩ : i = j ∧ c = 13 := by omega
    rw [Array.getElem?_setIfInBounds_self_of_lt (by simp only [Array.size_setIfInBounds]; omega)]
    simp [wC]
  · rw [Array.getElem?_setIfInBounds_ne (by omega)]
    by_cases h2 : i * 14 + c = j * 14 + 12
    · obtain ⟨rfl, rfl⟩ : i = j ∧ c = 12 := by omega
      rw [Array.getElem?_setIfInBounds_self_of_lt (by omega)]
      simp [wC]
    · rw [Array.getElem?_setIfInBounds_ne (by omega), hc i hi c hcc]
      by_cases h3 : i = j
      · subst h3
        rw [hd, wC_false, wC_lt (by omega)]
      · rw [show decide (i < j + 1) = decide (i < j) by simp; omega]
/-- What the end looks at. -/
theorem wd_done {cs ms : Array Value} {off n i : Nat} {v : Int} (h : EvOk cs off n) (hw : Wd cs ms off n n v) (hi : i < n) :
    EvAt ms (i * 14) ∧ (∀ c, c < 12 → intAt ms (i * 14 + c) = intAt cs (off + i * 14 + c)) ∧ intAt ms (i * 14 + 12) = ari .sub .i64 (intAt cs (off + i * 14 + 12)) v ∧ intAt ms (i * 14 + 13) = ari .add .i64 (intAt cs (off + i * 14 + 13)) v := by
  obtain ⟨hs, hc⟩ := hw
  have g : ∀ c, c < 12 → ms[i * 14 + c]? = cs[off + i * 14 + c]? := fun c hcc => by rw [hc i hi c (by omega), wC_lt hcc]
  have hd : decide (i < n) = true := by simpa using hi
  have g12 : ms[i * 14 + 12]? = some (.int .i64 (ari .sub .i64 (intAt cs (off + i * 14 + 12)) v)) := by rw [hc i hi 12 (by omega), hd]; rfl
  have g13 : ms[i * 14 + 13]? = some (.int .i64 (ari .add .i64 (intAt cs (off + i * 14 + 13)) v)) := by rw [hc i hi 13 (by omega), hd]; rfl
  have k := h.2 i hi
  refine ⟨⟨(is_eq k.c0 (g 0 (by omega))).1, (is_eq k.c1 (g 1 (by omega))).1, (is_eq k.c2 (g 2 (by omega))).1, (is_eq k.c3 (g 3 (by omega))).1, (is_eq k.c4 (g 4 (by omega))).1, (is_eq k.c5 (g 5 (by omega))).1, (is_eq k.c6 (g 6 (by omega))).1, (is_eq k.c7 (g 7 (by omega))).1, (is_eq k.c8 (g 8 (by omega))).1, (is_eq k.c9 (g 9 (by omega))).1, (is_eq k.c10 (g 10 (by omega))).1, (is_eq k.c11 (g 11 (by omega))).1, (is_of g12).2, (is_of g13).2⟩, fun c hcc => ?_, (is_of g12).1, (is_of g13).1⟩
  obtain ⟨kd, hk⟩ := k.cell (c := c) (by omega)
  exact (is_eq hk (g c hcc)).2
end Go.Proofs.YtfjbkobkjnielaaGreatDoor
/- Of linear: the loops end with true. No condition. -/
namespace Go.Proofs.YtfjbkobkjnielaaGreatDoor
set_option maxRecDepth 100000
set_option linter.unusedSectionVars false
theorem hF_good {h : Bool} {π : List (Nat × Nat)} {fs0 fs : List SFr} {m0 m : SMem} {A : SV → SMem → Prop} (hs : subOk 1 π (hF h fs0) m0 fs m) (hg : Good Tryz.prog A 1 (headF fs0) m0) : Good Tryz.prog A 1 fs m := by
  cases h with
  | true => exact Good.of_sub hs hg
  | false => exact Good.of_sub hs (Good.head hg)
section
variable {off n : Nat} {cs : Array Value} {ty : TypeId} {b v : Int}
theorem aN_good {h : Bool} {Q : Int → Prop} {fs : List SFr} {m : SMem} (H : ∀ i, Q i → Good Tryz.prog (boolR true) 1 (headF (aF off n b i)) (prM cs ty)) (hb : aN h off n cs ty b Q fs m) : Good Tryz.prog (boolR true) 1 fs m := by
  unfold aN at hb
  split at hb
  · split at hb
    · exact hF_good hb.2 (H _ hb.1)
    · exact hb.elim
  · exact hb.elim
theorem bN_good {h : Bool} {Q : Int → Array Value → Prop} {fs : List SFr} {m : SMem} (H : ∀ j ms, Q j ms → Good Tryz.prog (boolR true) 1 (headF (bF off n b v j)) (bM cs ty ms)) (hb : bN h off n cs ty b v Q fs m) : Good Tryz.prog (boolR true) 1 fs m := by
  unfold bN at hb
  split at hb
  · split at hb
    · exact hF_good hb.2 (H _ _ hb.1)
    · exact hb.elim
  · exact hb.elim
theorem cN_good {h : Bool} {Q : Int → Int → Array Value → Prop} {fs : List SFr} {m : SMem} (H : ∀ v i ms, Q v i ms → Good Tryz.prog (boolR true) 1 (headF (cF off n v i)) (bM cs ty ms)) (hb : cN h off n cs ty Q fs m) : Good Tryz.prog (boolR true) 1 fs m := by
  unfold cN at hb
  split at hb
  · split at hb
    · exact hF_good hb.2 (H _ _ _ hb.1)
    · exact hb.elim
  · exact hb.elim
theorem nB_good {Q : Int → Array Value → Prop} {Q2 : Int → Int → Array Value → Prop} {fs : List SFr} {m : SMem} (H : ∀ j ms, Q j ms → Good Tryz.prog (boolR true) 1 (headF (bF off n b v j)) (bM cs ty ms))
    (H2 : ∀ v i ms, Q2 v i ms → Good Tryz.prog (boolR true) 1 (headF (cF off n v i)) (bM cs ty ms)) (hb : nB off n cs ty b v Q Q2 fs m) : Good Tryz.prog (boolR true) 1 fs m := by
  unfold nB at hb
  split at hb
  · exact bN_good H hb
  · exact cN_good H2 hb
theorem nA_good {Q : Int → Prop} {Q2 : Int → Array Value → Prop} {fs : List SFr} {m : SMem} (H : ∀ i, Q i → Good Tryz.prog (boolR true) 1 (headF (aF off n b i)) (prM cs ty))
    (H2 : ∀ j ms, Q2 j ms → Good Tryz.prog (boolR true) 1 (headF (bF off n b (vOf b) j)) (bM cs ty ms)) (hb : nA off n cs ty b Q Q2 fs m) : Good Tryz.prog (boolR true) 1 fs m := by
  unfold nA at hb
  split at hb
  · exact bN_good H2 hb
  · exact aN_good H hb
end
theorem aT_ok : TodoOk (ren 1 []) aT aT := TodoOk.same (by kernel_rfl)
theorem aH_ok : TodoOk (ren 1 []) aH aH := TodoOk.same (by kernel_rfl)
theorem bT_ok : TodoOk (ren 1 [(2, 2)]) bT bT := TodoOk.same (by kernel_rfl)
theorem bH_ok : TodoOk (ren 1 [(2, 2)]) bH bH := TodoOk.same (by kernel_rfl)
theorem bT1_ok : TodoOk (ren 1 [(2, 2)]) bT1 bT1 := TodoOk.same (by kernel_rfl)
theorem cT_ok : TodoOk (ren 1 [(2, 2)]) cT cT := TodoOk.same (by kernel_rfl)
theorem cH_ok : TodoOk (ren 1 [(2, 2)]) cH cH := TodoOk.same (by kernel_rfl)
theorem next64 {i n : Nat} (h : i < n) (hn : n ≤ 100) : ari .add .i64 (i : Int) 1 = ((i + 1 : Nat) : Int) := by
  rw [ari_add, Go.IntWalk.i64_in _ (by omega)]
  omega
section
variable {off n : Nat} {cs : Array Value} {ty : TypeId} {b : Int}
theorem c_good {v : Int} {ms : Array Value} (h : EvOk cs off n) (hw : Wd cs ms off n n v) (hn : n ≤ 100) : ∀ k i : Nat, i + k = n → Good Tryz.prog (boolR true) 1 (headF (cF off n v i)) (bM cs ty ms) := by
  intro k
  induction k with
  | zero =>
    intro i hi
    refine past_vc ES_ok 1000 (k_c off n cs ty v i ms (fun _ _ _ => False)) ?_ (fun _ _ h => h) (fun fs m hb => cN_good (fun _ _ _ h => h.elim) hb)
    refine ⟨fun hd => ?_, fun _ => rfl⟩
    have := of_decide_eq_true hd
    omega
  | succ k ih =>
    intro i hi
    refine past_vc ES_ok 1000 (k_c off n cs ty v i ms (fun v' i' ms' => v' = v ∧ i' = ((i + 1 : Nat) : Int) ∧ ms' = ms)) ?_ (fun _ _ h => h)
      (fun fs m hb => cN_good (fun v' i' ms' ⟨e1, e2, e3⟩ => by rw [e1, e2, e3]; exact ih (i + 1) (by omega)) hb)
    have hi' : i < n := by omega
    obtain ⟨ka, kb, k12, k13⟩ := wd_done h hw hi'
    have kc := h.2 i hi'
    have hij : ((0 : Int) ≤ (i : Int) ∧ (i : Int) < (n : Int)) ∧ True := ⟨⟨by omega, by omega⟩, trivial⟩
    refine ⟨fun _ => ?_, fun hd => ?_⟩
    · simp only [Int.toNat_natCast, Nat.zero_add]
      refine ⟨hij, ⟨kc.c0, kc.c1, kc.c2, kc.c3, kc.c4, kc.c5, kc.c6, kc.c7, kc.c8, kc.c9, kc.c10, kc.c11, kc.c12, kc.c13, trivial⟩, hij,
        ⟨ka.c0, ka.c1, ka.c2, ka.c3, ka.c4, ka.c5, ka.c6, ka.c7, ka.c8, ka.c9, ka.c10, ka.c11, ka.c12, ka.c13, trivial⟩, fun hd => ?_, fun _ => ?_⟩
      · have k0 := kb 0 (by omega)
        simp only [Nat.add_zero] at k0
        rw [k0, kb 1 (by omega), kb 2 (by omega), kb 3 (by omega), kb 4 (by omega), kb 5 (by omega), kb 6 (by omega), kb 7 (by omega), kb 8 (by omega), kb 9 (by omega), kb 10 (by omega), kb 11 (by omega), k12, k13] at hd
        simp at hd
      · rw [next64 hi' hn]
        repeat' first | exact trivial | exact cH_ok | exact rfl | apply And.intro
    · have := of_decide_eq_false hd
      omega
end
end Go.Proofs.YtfjbkobkjnielaaGreatDoor
/- Of linear: the law's runs end with true. No condition. -/
namespace Go.Proofs.YtfjbkobkjnielaaGreatDoor
set_option maxRecDepth 100000
set_option linter.unusedSectionVars false
section
variable {off n : Nat} {cs : Array Value} {ty : TypeId} {b : Int}
theorem vOf_if : vOf b = if (100000 : Int) < if (0 : Int) > b then (0 : Int) else b then (100000 : Int) else if (0 : Int) > b then (0 : Int) else b := by
  unfold vOf
  split <;> split at * <;> omega
theorem b_good (h : EvOk cs off n) (hn : n ≤ 100) : ∀ (k j : Nat) (ms : Array Value), j + k = n → Wd cs ms off n j (vOf b) → Good Tryz.prog (boolR true) 1 (headF (bF off n b (vOf b) j)) (bM cs ty ms) := by
  intro k
  induction k with
  | zero =>
    intro j ms hj hw
    obtain rfl : j = n := by omega
    refine past_vc ES_ok 1000 (k_b off j cs ty b (vOf b) j ms (fun _ _ => False) (fun v i ms' => v = vOf b ∧ i = 0 ∧ ms' = ms)) ?_ (fun _ _ h => h)
      (fun fs m hb => nB_good (fun _ _ h => h.elim) (fun v i ms' ⟨e1, e2, e3⟩ => by rw [e1, e2, e3]; exact c_good h hw hn j 0 (by omega)) hb)
    refine ⟨fun hd => ?_, fun _ => ⟨fun hd => ?_, fun _ => ⟨fun hb => ?_, fun hb => ⟨fun hb2 => ?_, fun hb2 => ?_⟩⟩⟩⟩
    · have := of_decide_eq_true hd
      omega
    · simp at hd
    · have hb := of_decide_eq_true hb
      have hv : (0 : Int) = vOf b := by unfold vOf; omega
      repeat' first | exact hv | exact trivial | exact cT_ok | exact rfl | apply And.intro
    · have hb2 := of_decide_eq_true hb2
      have hv : (100000 : Int) = vOf b := by unfold vOf; omega
      repeat' first | exact hv | exact trivial | exact cT_ok | exact rfl | apply And.intro
    · have hb := of_decide_eq_false hb
      have hb2 := of_decide_eq_false hb2
      have hv : b = vOf b := by unfold vOf; omega
      refine ⟨⟨hv, rfl, rfl⟩, ?_⟩
      repeat' first | exact trivial | exact cT_ok | exact rfl | apply And.intro
  | succ k ih =>
    intro j ms hj hw
    have hj' : j < n := by omega
    have hst := wd_step h hw hj'
    have hs := hw.1
    have hd0 : decide (j < j) = false := by simp
    have i12 : IsInt .i64 ms (j * 14 + 12) := (is_eq (h.2 j hj').c12 (by rw [hw.2 j hj' 12 (by omega), hd0, wC_false])).1
    have i13 : IsInt .i64 ms (j * 14 + 13) := (is_eq (h.2 j hj').c13 (by rw [hw.2 j hj' 13 (by omega), hd0, wC_false])).1
    have hij : ((0 : Int) ≤ (j : Int) ∧ (j : Int) < (n : Int)) ∧ True := ⟨⟨by omega, by omega⟩, trivial⟩
    have hN := next64 hj' hn
    generalize hX : (ms.setIfInBounds (j * 14 + 12) (Value.int .i64 (ari .sub .i64 (intAt ms (j * 14 + 12)) (vOf b)))) = X at hst
    have i13' : IsInt .i64 X (j * 14 + 13) := (is_eq i13 (by rw [← hX, Array.getElem?_setIfInBounds_ne (by omega)])).1
    have hXs : X.size = ms.size := by rw [← hX, Array.size_setIfInBounds]
    generalize hY : X.setIfInBounds (j * 14 + 13) (Value.int .i64 (ari .add .i64 (intAt X (j * 14 + 13)) (vOf b))) = Y at hst
    refine past_vc ES_ok 1000 (k_b off n cs ty b (vOf b) j ms (fun j' ms' => j' = ((j + 1 : Nat) : Int) ∧ ms' = Y) (fun _ _ _ => False)) ?_ (fun _ _ h => h)
      (fun fs m hb => nB_good (fun j' ms' ⟨e1, e2⟩ => by rw [e1, e2]; exact ih (j + 1) Y (by omega) hst) (fun _ _ _ h => h.elim) hb)
    refine ⟨fun _ => ?_, fun hd => ?_⟩
    · simp only [Int.toNat_natCast, Nat.zero_add, hX, hN, hY]
      refine ⟨hij, ⟨i12, trivial⟩, hij, ⟨by omega, trivial⟩, hij, ⟨i13', trivial⟩, hij, ⟨by omega, trivial⟩, ?_⟩
      repeat' first | exact trivial | exact bH_ok | exact bT1_ok | exact rfl | apply And.intro
    · have := of_decide_eq_false hd
      omega
theorem a_good (h : EvOk cs off n) (hn : n ≤ 100) : ∀ k i : Nat, i + k = n → Good Tryz.prog (boolR true) 1 (headF (aF off n b i)) (prM cs ty) := by
  intro k
  induction k with
  | zero =>
    intro i hi
    obtain rfl : i = n := by omega
    refine past_vc ES_ok 1000 (k_a off i cs ty b i (fun _ => False) (fun j ms => j = 0 ∧ ms = Array.extract cs off (off + i * 14))) ?_ (fun _ _ h => h)
      (fun fs m hb => nA_good (fun _ h => h.elim) (fun j ms ⟨e1, e2⟩ => by rw [e1, e2]; exact b_good h hn i 0 _ (by omega) (wd_start _ h)) hb)
    refine ⟨fun hd => ?_, fun _ => ?_⟩
    · have := of_decide_eq_true hd
      omega
    · refine ⟨⟨h.1, h.one, ⟨by omega, by omega⟩, trivial⟩, ⟨rfl, rfl⟩, rfl, bT_ok, vOf_if, by omega, by omega, rfl, rfl, bT1_ok, ?_⟩
      repeat' first | exact trivial | exact rfl | apply And.intro
  | succ k ih =>
    intro i hi
    have hi' : i < n := by omega
    have hN := next64 hi' hn
    refine past_vc ES_ok 1000 (k_a off n cs ty b i (fun i' => i' = ((i + 1 : Nat) : Int)) (fun _ _ => False)) ?_ (fun _ _ h => h)
      (fun fs m hb => nA_good (fun i' e => by rw [e]; exact ih (i + 1) (by omega)) (fun _ _ h => h.elim) hb)
    have hij : ((0 : Int) ≤ (i : Int) ∧ (i : Int) < (n : Int)) ∧ True := ⟨⟨by omega, by omega⟩, trivial⟩
    have c12 := (h.2 i hi').c12
    have c13 := (h.2 i hi').c13
    refine ⟨fun _ => ?_, fun hd => ?_⟩
    · simp only [Int.toNat_natCast, hN]
      refine ⟨hij, ⟨c12, trivial⟩, fun _ => ⟨hij, ⟨c12, trivial⟩, fun _ => ⟨hij, ⟨c13, trivial⟩, fun _ => ⟨hij, ⟨c13, trivial⟩, fun _ => trivial, fun _ => ?_⟩, fun _ => trivial⟩, fun _ => trivial⟩, fun _ => trivial⟩
      repeat' first | exact trivial | exact aH_ok | exact rfl | apply And.intro
    · have := of_decide_eq_false hd
      omega
theorem law_good (h : n ≤ 100 → EvOk cs off n) : Good Tryz.prog (boolR true) 1 (lawC (prS off n) b) (prM cs ty) := by
  refine run_vc ES_ok 1000 (k_start off n cs ty b (fun i => i = 0 ∧ n ≤ 100)) ?_ (fun _ _ h => h)
    (fun fs m hb => aN_good (fun i ⟨e, hn⟩ => by rw [e]; exact a_good (h hn) hn n 0 (by omega)) hb)
  refine ⟨fun _ => rfl, fun hd => ?_⟩
  have hd := of_decide_eq_false hd
  have hn : n ≤ 100 := by omega
  refine ⟨⟨rfl, hn⟩, rfl, aT_ok, ?_⟩
  repeat' first | exact trivial | exact rfl | apply And.intro
end
noncomputable def EZ : Env := ⟨Tryz.prog, fnOf, conS, fun _ _ _ => false⟩
theorem EZ_ok : EnvOk EZ := by
  refine EnvOk.with E0_ok _ _ fun g l m t h => ?_
  unfold conS at h
  split at h
  · cases h; exact wk_con m
  · cases h
def nilV : SV := .s (.c (.f (.lit (.slice none 0 0))))
theorem law_e0 (b : Int) : (run EZ 3000 1 (lawC nilV b) ⟨1, .nil, []⟩).allTrue = true := by kernel_rfl
theorem law_good0 (b : Int) : Good Tryz.prog (boolR true) 1 (lawC nilV b) ⟨1, .nil, []⟩ := (good_true EZ_ok (law_e0 b)).mono fun s m h => by rw [h]; rfl
/-- Nothing lies in the row. -/
def z0S (off : Nat) : SV := .s (.c (.f (.slice 0 (.o off) (.l 0) .any)))
theorem law_z0 (off : Nat) (cs : Array Value) (ty : TypeId) (b : Int) : (run EZ 3000 1 (lawC (z0S off) b) (prM cs ty)).allTrue = true := by kernel_rfl
theorem zero_good (off : Nat) (cs : Array Value) (ty : TypeId) (b : Int) : Good Tryz.prog (boolR true) 1 (lawC (z0S off) b) (prM cs ty) := (good_true EZ_ok (law_z0 off cs ty b)).mono fun s m h => by rw [h]; rfl
end Go.Proofs.YtfjbkobkjnielaaGreatDoor
/- The closed facts of a row, one by one. No condition. -/
namespace Go.Proofs.YtfjbkobkjnielaaGreatDoor
theorem jf0 : (Rows.linearWidensRow.wf (OpenSpec.ofChange Rows.linearWidensSpec)) = true := by kernel_rfl
theorem jf1 : (laidOutB Tryz.prog) = true := by kernel_rfl
theorem jf2 : (mapsRowed Tryz.prog) = true := by kernel_rfl
theorem jf3 : (Tryz.f3.params.all (Tryz.prog.readableRec ·)) = true := by kernel_rfl
theorem jf4 : (namedTie Tryz.prog Rows.linearWidensRow.named Rows.linearWidensSpec.vars) = true := by kernel_rfl
theorem jf5 : (Rows.linearWidensRow.stops == []) = true := by kernel_rfl
theorem jf6 : (Tryz.prog.stops == []) = true := by kernel_rfl
theorem jf7 : (Rows.linearWidensRow.knobs == []) = true := by kernel_rfl
theorem jf8 : (Tryz.prog.stopKnobs == []) = true := by kernel_rfl
theorem jf9 : (Rows.linearWidensRow.inPlace == Tryz.prog.inPlace 3) = true := by kernel_rfl
theorem jf10 : (Rows.linearWidensRow.unfollowed == Tryz.prog.unfollowed 3) = true := by kernel_rfl
theorem jf11 : (Rows.linearWidensRow.recurses == Tryz.prog.recurses 3) = true := by kernel_rfl
theorem jf12 : (Rows.linearWidensRow.named == Tryz.prog.varsNamed 3) = true := by kernel_rfl
theorem jf13 : (Rows.linearWidensRow.maps == (Tryz.f3.params.toList ++ Rows.linearWidensSpec.plain.varTypes Tryz.prog).any (Tryz.prog.mapsRec ·)) = true := by kernel_rfl
theorem jf14 : (Rows.linearWidensRow.ifaces == (Tryz.f3.params.toList ++ Rows.linearWidensSpec.plain.varTypes Tryz.prog).any (Tryz.prog.ifacesRec ·)) = true := by kernel_rfl
theorem jf15 : (Rows.linearWidensRow.mapsOut == Tryz.prog.mapsAmong Tryz.f3.resultTypes.toList) = true := by kernel_rfl
theorem jf16 : (Rows.linearWidensRow.loops == (Tryz.f3.params.toList ++ Rows.linearWidensSpec.plain.varTypes Tryz.prog).any (Tryz.prog.loopsFrom ·)) = true := by kernel_rfl
theorem jf17 : (Rows.linearWidensRow.wideKeys == (Tryz.f3.params.toList ++ Rows.linearWidensSpec.plain.varTypes Tryz.prog ++ Tryz.f3.resultTypes.toList).any (Tryz.prog.wideKeysFrom ·)) = true := by kernel_rfl
theorem jf18 : (Rows.linearWidensSpec.vars.all (Tryz.prog.varReadable ·)) = true := by kernel_rfl
theorem jf19 : (Tryz.f3.resultTypes.all (fun t => Tryz.prog.readableRec t && decide (t < Tryz.prog.types.size))) = true := by kernel_rfl
theorem jf20 : (Rows.linearWidensRow.ifacesOut == Tryz.f3.resultTypes.toList.any (Tryz.prog.ifacesRec ·)) = true := by kernel_rfl
theorem jf21 : (Rows.linearWidensRow.loopsOut == Tryz.f3.resultTypes.toList.any (Tryz.prog.loopsFrom ·)) = true := by kernel_rfl
theorem jf22 : (Rows.linearWidensRow.plainKeys == Tryz.prog.plainKeys) = true := by kernel_rfl
theorem jf23 : (Rows.linearWidensRow.shortTexts.isNone) = true := by kernel_rfl
theorem jf24 : (Tryz.prog.stopsHeard) = true := by kernel_rfl
theorem jf25 : (Tryz.prog.mayEnter) = true := by kernel_rfl
theorem jf26 : (Rows.linearWidensRow.lifted == Tryz.prog.liftsFinal) = true := by kernel_rfl
theorem jf27 : (Tryz.prog.make == some Rows.linearWidensRow.make) = true := by kernel_rfl
theorem jf28 : (Rows.linearWidensRow.kinds == (if Rows.linearWidensRow.domain.isEmpty then [] else Tryz.f3.params.toList.map fun t => match Tryz.prog.underlying t with | some (.int k) => some k | _ => none)) = true := by kernel_rfl
theorem jf29 : (Rows.linearWidensRow.pinned == Rows.linearWidensRow.pinnedBy) = true := by kernel_rfl
theorem jf30 : (Rows.linearWidensRow.veiled == (Tryz.f3.params.toList ++ Rows.linearWidensSpec.plain.varTypes Tryz.prog ++ Tryz.f3.resultTypes.toList).any (Tryz.prog.veiledRec ·)) = true := by kernel_rfl
theorem jf31 : (Rows.linearWidensRow.veiledFits Tryz.prog Tryz.f3.params.toList (Tryz.f3.params.toList ++ Rows.linearWidensSpec.plain.varTypes Tryz.prog ++ Tryz.f3.resultTypes.toList)) = true := by kernel_rfl
end Go.Proofs.YtfjbkobkjnielaaGreatDoor
/- The closed facts of a row, together. No condition. -/
namespace Go.Proofs.YtfjbkobkjnielaaGreatDoor
set_option maxRecDepth 100000
theorem jf_all : joinedFacts Tryz.prog 3 Tryz.f3 Rows.linearWidensSpec Rows.linearWidensRow = true := by
  unfold joinedFacts
  exact (Bool.and_eq_true_iff.2 ⟨(Bool.and_eq_true_iff.2 ⟨(Bool.and_eq_true_iff.2 ⟨(Bool.and_eq_true_iff.2 ⟨(Bool.and_eq_true_iff.2 ⟨(Bool.and_eq_true_iff.2 ⟨(Bool.and_eq_true_iff.2 ⟨(Bool.and_eq_true_iff.2 ⟨(Bool.and_eq_true_iff.2 ⟨(Bool.and_eq_true_iff.2 ⟨(Bool.and_eq_true_iff.2 ⟨(Bool.and_eq_true_iff.2 ⟨(Bool.and_eq_true_iff.2 ⟨(Bool.and_eq_true_iff.2 ⟨(Bool.and_eq_true_iff.2 ⟨(Bool.and_eq_true_iff.2 ⟨(Bool.and_eq_true_iff.2 ⟨(Bool.and_eq_true_iff.2 ⟨(Bool.and_eq_true_iff.2 ⟨(Bool.and_eq_true_iff.2 ⟨(Bool.and_eq_true_iff.2 ⟨(Bool.and_eq_true_iff.2 ⟨(Bool.and_eq_true_iff.2 ⟨(Bool.and_eq_true_iff.2 ⟨(Bool.and_eq_true_iff.2 ⟨(Bool.and_eq_true_iff.2 ⟨(Bool.and_eq_true_iff.2 ⟨(Bool.and_eq_true_iff.2 ⟨(Bool.and_eq_true_iff.2 ⟨(Bool.and_eq_true_iff.2 ⟨(Bool.and_eq_true_iff.2 ⟨jf0, jf1⟩), jf2⟩), jf3⟩), jf4⟩), jf5⟩), jf6⟩), jf7⟩), jf8⟩), jf9⟩), jf10⟩), jf11⟩), jf12⟩), jf13⟩), jf14⟩), jf15⟩), jf16⟩), jf17⟩), jf18⟩), jf19⟩), jf20⟩), jf21⟩), jf22⟩), jf23⟩), jf24⟩), jf25⟩), jf26⟩), jf27⟩), jf28⟩), jf29⟩), jf30⟩), jf31⟩)
end Go.Proofs.YtfjbkobkjnielaaGreatDoor
