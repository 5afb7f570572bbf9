/- What a table of bytes that the program lays holds, for the symbolic machine; a call that is told of no block. No condition. -/
import Derived.Test.YtccbfkeigfnibaaDoorRows
import Derived.Test.YtccbfkeigfnibaaDoorE1
import Derived.ProofKit
import Derived.LaidMore
import Derived.OpenShut
import Derived.ChangeSame
import Derived.Deep.Slices
import Derived.Deep.Fields
import Derived.Stop.Joined
import Derived.Test.YtccbfkeigfnibaaDoorK15
import Derived.IntWalk
import Derived.Test.YtccbfkeigfnibaaDoorK1
import Derived.Lib.TrailingZeros
import Derived.Test.YtccbfkeigfnibaaDoorK2
import Derived.Test.YtccbfkeigfnibaaDoorK14c
import Derived.Test.YtccbfkeigfnibaaDoorK14b
set_option linter.unusedVariables false
set_option linter.unusedSimpArgs false
namespace Go.Proofs.YtccbfkeigfnibaaDoor
open Go.ChangeShapes Go.WideShapes Go.ChangeAt Go.WideMaps Go.WideElems Go.RowKit

theorem own : ownKnob Tryd.prog.godebug = none := by kernel_rfl
theorem laidOut : laidOutB Tryd.prog = true := by kernel_rfl
theorem gTab : Tryd.prog.globalNamed "math/bits.deBruijn64tab" = some 0 := by kernel_rfl
theorem tTab : (Tryd.prog.globals[0]?).map (·.type) = some 71 := by kernel_rfl
def tabV : List Value := (glTab.headD (0, [])).2
def tabD {H : Type} : List (DataW H) := tabV.map fun | .int k n => .lit (.int k n) | _ => .nil
theorem tabD_eq {H : Type} : (Rows.laid_math_bits_deBruijn64tab : DataW H) = .agg tabD := rfl
theorem tab_byte : ∀ i : Nat, i < 64 → ∃ n, tabV[i]? = some (.int .u8 n) := by
  intro i hi
  have : ∀ i : Fin 64, (match tabV[i.val]? with | some (.int .u8 _) => true | _ => false) = true := by decide +kernel
  have := this ⟨i, hi⟩
  revert this
  generalize tabV[i]? = v
  intro h
  split at h
  · rename_i n; exact ⟨n, rfl⟩
  · cases h
def laidL : List (String × DataW Unit) := [("math/bits.deBruijn64tab", Rows.laid_math_bits_deBruijn64tab)]
/-- The table lies there. -/
theorem tab_lies {W : World} (h : laidMetH Tryd.prog laidL W) : ∃ cs ty fz, W.heap[0]? = some (.cells cs ty fz) ∧ ∀ i : Nat, i < tabV.length → cs[i]? = tabV[i]? := by
  rw [MakeChecks.laidMetH_plain _ _ _ (by kernel_rfl)] at h
  obtain ⟨ps, ⟨g0, t0, cs0, f0, p0, q0, hg0, ht0, hv0, hd0, _, _⟩, _, _⟩ := h
  obtain rfl := Option.some.inj (gTab.symm.trans hg0)
  obtain rfl := Option.some.inj (tTab.symm.trans ht0)
  have hv0' := hv0
  unfold World.var? at hv0
  rw [gTab] at hv0
  simp only [Option.bind_some] at hv0
  split at hv0
  · rename_i cs ty fz hb
    cases hv0
    refine ⟨cs0, ty, fz, hb, ?_⟩
    obtain ⟨xs, m1, rfl, hx1, hlen, hn3, hel⟩ := DataW.trod_array Tryd.underlying71 hd0
    have c5 : Tryd.prog.cellsOf 5 = 1 := by kernel_rfl
    have cT : Tryd.prog.cellsOf 71 = 64 := by kernel_rfl
    rw [cT] at hlen
    have hlen : cs0.size = 64 := by simpa using hlen
    simp only [Prod.mk.injEq, tabD_eq, DataW.agg.injEq] at hx1
    intro i hi
    have hi : i < 64 := hi
    obtain ⟨n, hn⟩ := tab_byte i hi
    have h0 := hel i hi
    have hxi : xs[i]? = some (xs[i]'(by omega)) := List.getElem?_eq_getElem (by omega)
    rw [c5, Nat.mul_one, hxi] at h0
    have hci : cs0.toList[i]? = some (cs0[i]'(by omega)) := by rw [Array.getElem?_toList, Array.getElem?_eq_getElem (by omega)]
    have hdrop : (cs0.toList.drop i).take 1 = [cs0[i]'(by omega)] := by
      rw [List.drop_eq_getElem_cons (by rw [Array.length_toList]; omega)]
      simp
    rw [hdrop] at h0
    obtain ⟨k, e1, e2, _⟩ := DataW.trod_int Tryd.underlying5 h0
    have e3 : (xs.map (·.1))[i]? = (tabD : List (DataW Unit))[i]? := by rw [hx1.1]
    rw [List.getElem?_map, hxi] at e3
    unfold tabD at e3
    rw [List.getElem?_map, hn] at e3
    rw [e2] at e3
    simp only [Option.map_some, Option.some.injEq, DataW.lit.injEq, Lit.int.injEq] at e3
    simp only [List.cons.injEq, and_true] at e1
    rw [← Array.getElem?_toList, hci, e1, hn, e3.2]
  · cases hv0
theorem tab_small {W : World} (h : laidMetH Tryd.prog laidL W) : 0 < W.heap.size := by
  obtain ⟨cs, ty, fz, hb, _⟩ := tab_lies h
  exact (Array.getElem?_eq_some_iff.1 hb).1
/-- The start of a call: no block is known. -/
theorem rel_start {W : World} (h : laidMetH Tryd.prog laidL W) (n : Nat) : Rel W.heap.size (fun _ => False) W (fun _ => none) ⟨n, .nil, []⟩ W :=
  ⟨fun _ _ _ _ _ _ h => by (cases h), fun _ _ h => by (cases h), fun _ _ h => by (cases h), fun i b h => by (have h : (Tr.nil : Tr SBlk).get i = some b := h; rw [Tr.get_nil] at h; cases h), Nat.le_refl _, BelowF.refl _ _ _, fun _ _ h => by (cases h), fun _ _ _ _ _ _ h => by (cases h), fun g cs hg => by
    have e : (g, cs) = (0, tabV) := by
      have : glTab = [(0, tabV)] := rfl
      rw [this] at hg
      simpa using hg
    cases e
    obtain ⟨cs', ty, fz, h1, h2⟩ := tab_lies h
    exact ⟨tab_small h, fun x => x, cs', ty, fz, h1, h2⟩⟩
theorem below_of {n0 : Nat} {w0 w : World} (h : BelowF n0 (fun _ => False) w0 w) : Below n0 w0 w := ⟨h.os, h.tape, h.output, h.size, fun k hk => h.block k hk fun x => x⟩
section
variable {H : Type} {enc : TypeId × Value → H} {P : Program}
theorem post_of_below {f : Func} {s : ChangeSpec} {apart fresh handsOn again : Bool} {W W' : World} {args : Array Value} {v : Value} {ds gs : List (DataW H)} {before pa pv : List MemPlace}
    (hW : DataW.Whole enc P f.params.toList s.vars apart W args.toList ds gs before)
    (hres : ∀ (b : Nat) (sp : Nat → Bool) (hd : Bool), DataW.TrodAll enc P W' b sp hd f.resultTypes.toList (v.resultList f.resultTypes.size) (s.fn H (ds ++ gs)).results [])
    (hargs : ∀ sp : Nat → Bool, (∀ p ∈ before, sp p.block = true) → DataW.TrodAll enc P W' 0 sp true f.params.toList args.toList (s.fn H (ds ++ gs)).args pa)
    (hvars : ∀ sp : Nat → Bool, (∀ p ∈ before, sp p.block = true) → DataW.TrodVars enc P W' sp s.vars (s.fn H (ds ++ gs)).vars pv)
    (hps : before = pa ++ pv) (hb : Below W.heap.size W W')
    (hok : ∀ (j : Nat) (t : TypeId) (r : Value), f.resultTypes[j]? = some t → (v.resultList f.resultTypes.size)[j]? = some r → Value.okWide P W' .any 0 t r) :
    s.post enc P f apart fresh handsOn again W args v W' := by
  have hlt : ∀ p ∈ before, p.block < W.heap.size := fun p hp => hW.lt p hp
  have hold : ∀ p ∈ before, (fun b => decide (b < W.heap.size)) p.block = true := fun p hp => by simpa using hlt p hp
  refine ⟨ds, gs, before, [], pa, pv, hW, hres _ _ _, hargs _ hold, hvars _ hold, World.keptBut_mono (fun p hp => ⟨hp, ?_⟩) (hb.frame (· ∈ before)), fun _ => ?_⟩
  · rw [hps, List.mem_append] at hp
    exact Or.inr hp
  · obtain ⟨_, _, _, _, _, hz, hn⟩ := hW
    refine ⟨hok, _, _, ([] ++ pa) ++ pv, ⟨[] ++ pa, pv, trodAll_append (hargs _ (fun _ _ => rfl)) (hres _ _ _), hvars _ (fun _ _ => rfl), rfl, ?_, ?_⟩, ?_⟩
    · intro b off hp
      have hin : MemPlace.cell b off ∈ before := by rw [hps]; simpa using hp
      rw [hb.frozen (hlt _ hin)]
      exact hz b off hin
    · intro ha
      have := hn ha
      rw [hps] at this
      simpa using this
    · intro p hp _
      rw [hps]
      simpa using hp
end
end Go.Proofs.YtccbfkeigfnibaaDoor
/- Blocks that came in, told to the symbolic machine one by one; slices that came in. No condition. -/
namespace Go.Proofs.YtccbfkeigfnibaaDoor
noncomputable section
open Go.ChangeShapes Go.WideShapes Go.ChangeAt Go.RowKit Go.Deep
theorem sub_get {l : List Value} {a b o : Nat} {v : Value} (h : ((l.drop a).take b)[o]? = some v) : l[a + o]? = some v := by
  rw [List.getElem?_take] at h
  split at h
  · rw [List.getElem?_drop] at h; exact h
  · cases h
theorem sub_one {l : List Value} {a b : Nat} {v : Value} (h : (l.drop a).take b = [v]) : l[a]? = some v := by
  have : ((l.drop a).take b)[0]? = some v := by rw [h]; rfl
  exact sub_get this
section
variable {H : Type} {enc : TypeId × Value → H} {P : Program} {w : World} {base : Nat} {spare : Nat → Bool} {held : Bool}
theorem field_of {t : TypeId} {fs : Array Field} {fuel : Nat} {cs : List Value} {x : DataW H × List MemPlace} (ht : P.underlying t = some (.struct fs)) (h : DataW.trod enc P w base spare held fuel t cs = some x)
    (i : Nat) {f : Field} (hf : fs[i]? = some f) : ∃ n y, DataW.trod enc P w base spare held n f.type ((cs.drop f.offset).take (P.cellsOf f.type)) = some y := by
  obtain ⟨ys, n, _, _, _, hyl, hg⟩ := DataW.trod_struct ht h
  have hlt : i < fs.size := (Array.getElem?_eq_some_iff.1 hf).1
  have hys : ys[i]? = some (ys[i]'(by omega)) := List.getElem?_eq_getElem (by omega)
  exact ⟨n, _, (hg i f hf).trans hys⟩
theorem add_none (b off n : Nat) : (⟨b, off, none⟩ : Addr).add n = ⟨b, off + n, none⟩ := by
  unfold Addr.add
  split
  · rename_i e; subst e; rfl
  · rfl
/-- A slice that came in: where it lies, and each element as it reads. -/
theorem slice_cells {t e : TypeId} {base' C : Nat} {fuel : Nat} {A : Option Addr} {len cap : Nat} {x : DataW H × List MemPlace} (ht : P.underlying t = some (.slice e)) (hC : P.cellsOf e = C)
    (hok : Value.okWide P w .any base t (.slice A len cap)) (h : DataW.trod enc P w base' (fun _ => true) held fuel t [.slice A len cap] = some x) :
    (A = none ∧ len = 0 ∧ cap = 0) ∨ ∃ b off cs ty fz, A = some ⟨b, off, none⟩ ∧ len ≤ cap ∧ cap ≤ maxLen ∧ w.heap[b]? = some (.cells cs ty fz) ∧
      ∀ j, j < len → ∃ n y, DataW.trod enc P w base' (fun _ => true) held n e ((cs.toList.drop (off + j * C)).take C) = some y := by
  rcases open_slice ht h with ⟨hcs, hx⟩ | ⟨a, len', cap', m, n, D, Pl, hcs, _, hl, hmx, hm, hx, hi⟩
  · simp at hcs
    exact .inl hcs
  · simp at hcs
    obtain ⟨rfl, rfl, rfl⟩ := hcs
    simp at hm
    subst hm
    obtain ⟨b, off, spot⟩ := a
    simp only [Value.okWide, ht, Cell.okWide, Cell.ok] at hok
    obtain ⟨_, _, _, hs, _, _, hsh, _⟩ := hok
    have hs : spot = none := hs
    subst hs
    cases ho : w.heap[b]? with
    | none => simp [World.shape?, ho] at hsh
    | some o =>
      have hcells : ∃ cs ty fz, o = .cells cs ty fz := by
        cases o <;> first | exact ⟨_, _, _, rfl⟩ | simp [World.shape?, ho] at hsh
      obtain ⟨cs, ty, fz, rfl⟩ := hcells
      refine .inr ⟨b, off, cs, ty, fz, rfl, hl, hmx, ho, fun j hj => ?_⟩
      obtain ⟨cs', hc, ht'⟩ := hi j (by omega)
      rw [hC] at hc
      obtain ⟨_, hcl, hat⟩ := World.cells?_some hc
      refine ⟨n, (D j, Pl j), ?_⟩
      rw [← ht']
      congr 1
      apply List.ext_getElem?
      intro i
      rw [List.getElem?_take]
      by_cases hi' : i < C
      · rw [if_pos hi', ← hat i hi', add_none, add_none]
        simp [World.cell?, ho, Nat.add_assoc]
      · rw [if_neg hi', List.getElem?_eq_none (by omega)]
end

/-- Nothing of what is known may be written. -/
def OnlyRead (m : SMem) : Prop := m.xs = [] ∧ ∀ i b, getB m.bl i = some b → b.wr = false
theorem rel_add {W : World} {R : Ren} {m : SMem} (hR : Rel W.heap.size (fun _ => False) W R m W) (ho : OnlyRead m) {i b : Nat} {cs : Array Value} {ty : TypeId} {fz : Nat × Nat} (hi : i < m.next) (hn : R i = none) (hb : W.heap[b]? = some (.cells cs ty fz)) :
    Rel W.heap.size (fun _ => False) W (fun j => if j = i then some ⟨b, cs.size⟩ else R j) ⟨m.next, m.bl.set i (some ⟨.raw cs, ty, false⟩), m.xs⟩ W ∧ OnlyRead ⟨m.next, m.bl.set i (some ⟨.raw cs, ty, false⟩), m.xs⟩ := by
  have ho' : OnlyRead ⟨m.next, m.bl.set i (some ⟨.raw cs, ty, false⟩), m.xs⟩ := by
    refine ⟨ho.1, fun j c hc => ?_⟩
    have hc : (m.bl.set i (some ⟨.raw cs, ty, false⟩)).get j = some c := hc
    rw [Tr.get_set] at hc
    split at hc
    · cases hc; rfl
    · exact ho.2 j c hc
  have hlt : b < W.heap.size := (Array.getElem?_eq_some_iff.1 hb).1
  refine ⟨⟨fun j k g h x y h1 h2 h3 h4 h5 h6 => ?_, fun j g h => ?_, fun j g h => ?_, fun j c hc => ?_, Nat.le_refl _, BelowF.refl _ _ _, fun j x hx => ?_, fun j k g h x y _ _ _ h4 => ?_, fun g cs hg => ?_⟩, ho'⟩
  · have e1 := ho'.2 _ _ h4
    have e2 := ho'.2 _ _ h5
    rw [e1, e2] at h6
    rcases h6 with h6 | h6 <;> cases h6
  · split at h
    · cases h; exact hlt
    · exact hR.lt j g h
  · split at h
    · rename_i e; rw [e]; exact hi
    · exact hR.nx j g h
  · have hc : (m.bl.set i (some ⟨.raw cs, ty, false⟩)).get j = some c := hc
    rw [Tr.get_set] at hc
    split at hc
    · rename_i e
      cases hc
      exact ⟨⟨b, cs.size⟩, cs, fz, by simp [e], hb, rfl, rfl, fun h => by cases h⟩
    · rename_i e
      obtain ⟨g, cs', fz', k1, k2, k3, k4, k5⟩ := hR.blk j c hc
      refine ⟨g, cs', fz', by simp [e, k1], k2, k3, SA.monoM (fun l g hl => ?_) k4, k5⟩
      by_cases el : l = i
      · rw [el, hn] at hl; cases hl
      · rw [if_neg el]; exact hl
  · have hx : getX m.xs j = some x := hx
    rw [ho.1] at hx; cases hx
  · have h4 : getX m.xs j = some x := h4
    rw [ho.1] at h4; cases h4
  · exact hR.gl g cs hg
theorem onlyRead_nil (n : Nat) : OnlyRead ⟨n, .nil, []⟩ := ⟨rfl, fun i b h => by
  have h : (Tr.nil : Tr SBlk).get i = some b := h
  rw [Tr.get_nil] at h; cases h⟩
theorem isInt_of {k : IntKind} {cs : Array Value} {i : Nat} {n : Int} (h : cs.toList[i]? = some (.int k n)) : IsInt k cs i := by
  rw [Array.getElem?_toList] at h
  unfold IsInt intAt
  rw [h]
end
end Go.Proofs.YtccbfkeigfnibaaDoor
/- Of extent: the closed test. No condition. -/
namespace Go.Proofs.YtccbfkeigfnibaaDoor
theorem wakes_true : (run E0 100000 0 [callFr 5 Tryd.f5.ntmps [] (Tryd.f5.body.getD .skip)] ⟨0, .nil, []⟩).allTrue = true := by kernel_rfl
theorem wakes_fn : E0.fn 5 = some Tryd.f5 := by kernel_rfl
theorem wakes_body : Tryd.f5.body = some (Tryd.f5.body.getD .skip) := by kernel_rfl
theorem wakes_con (m : SMem) : Con E0 5 [] m (needs [] (.ret (sB (.l true)) m)) :=
  Con.pure E0_ok wakes_fn wakes_body (by kernel_rfl) (by kernel_rfl) fun _ => good_true E0_ok wakes_true
end Go.Proofs.YtccbfkeigfnibaaDoor
/- Of runs: contracts of the functions of numbers. No condition. -/
namespace Go.Proofs.YtccbfkeigfnibaaDoor
section
variable (p n : Int)
def mayB : Bool := decide (1 ≤ n ∧ 0 ≤ p ∧ p < 64 ∧ n ≤ 64 - p)
theorem may_run (b : Bool) : (run E0 1000 0 [callFr 30 Tryd.f30.ntmps [i64 (.o p), i64 (.o n)] (Tryd.f30.body.getD .skip)] ⟨0, .nil, []⟩).vc (retOk 0 [] (sB (.o b)) ⟨0, .nil, []⟩) (fun _ _ => False) =
    (((decide (n ≥ 1) == true) = true →
        ((decide (p ≥ 0) == true) = true →
            ((decide (p < 64) == true) = true → b = decide (n ≤ IntKind.i64.wrap (64 - p)) ∧ True) ∧
              ((decide (p < 64) == true) = false → b = false ∧ True)) ∧
          ((decide (p ≥ 0) == true) = false → b = false ∧ True)) ∧
      ((decide (n ≥ 1) == true) = false → b = false ∧ True)) := by kernel_rfl
theorem may_fn : E0.fn 30 = some Tryd.f30 := by kernel_rfl
theorem may_body : Tryd.f30.body = some (Tryd.f30.body.getD .skip) := by kernel_rfl
theorem may_con (m : SMem) : Con E0 30 [i64 (.o p), i64 (.o n)] m (needs [] (.ret (sB (.o (mayB p n))) m)) := by
  refine Con.pure E0_ok may_fn may_body (by kernel_rfl) (by kernel_rfl) fun _ => ?_
  have hw : 0 ≤ p → p < 64 → IntKind.i64.wrap (64 - p) = 64 - p := fun h1 h2 => by
    exact Go.IntWalk.i64_in _ (by omega)
  refine (Good.ret [] (run_vc E0_ok 1000 (may_run p n (mayB p n)) ?_ (fun s m h => h) fun _ _ h => h.elim)).mono fun _ _ h => h.1
  unfold mayB
  by_cases h1 : n ≥ 1 <;> by_cases h2 : p ≥ 0 <;> by_cases h3 : p < 64 <;> simp [h1, h2, h3] <;> first | (rw [hw h2 h3]; omega) | omega | skip
def spanI : Int := IntKind.u64.wrap (Int.fdiv 18446744073709551615 (2 ^ min (IntKind.i64.wrap (64 - n)).toNat 64) * 2 ^ min p.toNat 64)
theorem span_run (x : Int) : (run E0 1000 0 [callFr 32 Tryd.f32.ntmps [i64 (.o p), i64 (.o n)] (Tryd.f32.body.getD .skip)] ⟨0, .nil, []⟩).vc (retOk 0 [] (.s (.c (.f (.int .u64 (.o x))))) ⟨0, .nil, []⟩) (fun _ _ => False) =
    ((0 ≤ IntKind.i64.wrap (64 - n) ∧ True) ∧ (0 ≤ p ∧ True) ∧ x = spanI p n ∧ True) := by kernel_rfl
theorem span_fn : E0.fn 32 = some Tryd.f32 := by kernel_rfl
theorem span_body : Tryd.f32.body = some (Tryd.f32.body.getD .skip) := by kernel_rfl
theorem span_con (m : SMem) : Con E0 32 [i64 (.o p), i64 (.o n)] m (needs [0 ≤ IntKind.i64.wrap (64 - n), 0 ≤ p] (.ret (.s (.c (.f (.int .u64 (.o (spanI p n)))))) m)) := by
  refine Con.pure E0_ok span_fn span_body (by kernel_rfl) (by kernel_rfl) fun hq => ?_
  refine (Good.ret [] (run_vc E0_ok 1000 (span_run p n (spanI p n)) ?_ (fun s m h => h) fun _ _ h => h.elim)).mono fun _ _ h => h.1
  exact ⟨⟨hq _ (by simp), trivial⟩, ⟨hq _ (by simp), trivial⟩, rfl, trivial⟩
end
end Go.Proofs.YtccbfkeigfnibaaDoor
/- Of runs: the functions of math/bits, as propositions. No condition. -/
namespace Go.Proofs.YtccbfkeigfnibaaDoor
set_option maxRecDepth 100000
theorem tz_run (p x : Int) : (run E0 1000 0 [callFr 36 Tryd.f36.ntmps [.s (.c (.f (.int .u64 (.o p))))] (Tryd.f36.body.getD .skip)] ⟨0, .nil, []⟩).vc (retOk 0 [] (i64 (.o x)) ⟨0, .nil, []⟩) (fun _ _ => False) =
    (((p == (0 : Int)) = true → x = (64 : Int) ∧ True) ∧ ((p == (0 : Int)) = false → (((0 : Int) ≤ ari BinOp.shr IntKind.u64 (ari BinOp.mul IntKind.u64 (ari BinOp.and IntKind.u64 p (ari BinOp.sub IntKind.u64 (0 : Int) p)) (285870213051353865 : Int)) (58 : Int) ∧ ari BinOp.shr IntKind.u64 (ari BinOp.mul IntKind.u64 (ari BinOp.and IntKind.u64 p (ari BinOp.sub IntKind.u64 (0 : Int) p)) (285870213051353865 : Int)) (58 : Int) < (64 : Int)) ∧ True) ∧ (IsInt IntKind.u8 #[Value.int IntKind.u8 (0 : Int), Value.int IntKind.u8 (1 : Int), Value.int IntKind.u8 (56 : Int), Value.int IntKind.u8 (2 : Int), Value.int IntKind.u8 (57 : Int), Value.int IntKind.u8 (49 : Int), Value.int IntKind.u8 (28 : Int), Value.int IntKind.u8 (3 : Int), Value.int IntKind.u8 (61 : Int), Value.int IntKind.u8 (58 : Int), Value.int IntKind.u8 (42 : Int), Value.int IntKind.u8 (50 : Int), Value.int IntKind.u8 (38 : Int), Value.int IntKind.u8 (29 : Int), Value.int IntKind.u8 (17 : Int), Value.int IntKind.u8 (4 : Int), Value.int IntKind.u8 (62 : Int), Value.int IntKind.u8 (47 : Int), Value.int IntKind.u8 (59 : Int), Value.int IntKind.u8 (36 : Int), Value.int IntKind.u8 (45 : Int), Value.int IntKind.u8 (43 : Int), Value.int IntKind.u8 (51 : Int), Value.int IntKind.u8 (22 : Int), Value.int IntKind.u8 (53 : Int), Value.int IntKind.u8 (39 : Int), Value.int IntKind.u8 (33 : Int), Value.int IntKind.u8 (30 : Int), Value.int IntKind.u8 (24 : Int), Value.int IntKind.u8 (18 : Int), Value.int IntKind.u8 (12 : Int), Value.int IntKind.u8 (5 : Int), Value.int IntKind.u8 (63 : Int), Value.int IntKind.u8 (55 : Int), Value.int IntKind.u8 (48 : Int), Value.int IntKind.u8 (27 : Int), Value.int IntKind.u8 (60 : Int), Value.int IntKind.u8 (41 : Int), Value.int IntKind.u8 (37 : Int), Value.int IntKind.u8 (16 : Int), Value.int IntKind.u8 (46 : Int), Value.int IntKind.u8 (35 : Int), Value.int IntKind.u8 (44 : Int), Value.int IntKind.u8 (21 : Int), Value.int IntKind.u8 (52 : Int), Value.int IntKind.u8 (32 : Int), Value.int IntKind.u8 (23 : Int), Value.int IntKind.u8 (11 : Int), Value.int IntKind.u8 (54 : Int), Value.int IntKind.u8 (26 : Int), Value.int IntKind.u8 (40 : Int), Value.int IntKind.u8 (15 : Int), Value.int IntKind.u8 (34 : Int), Value.int IntKind.u8 (20 : Int), Value.int IntKind.u8 (31 : Int), Value.int IntKind.u8 (10 : Int), Value.int IntKind.u8 (25 : Int), Value.int IntKind.u8 (14 : Int), Value.int IntKind.u8 (19 : Int), Value.int IntKind.u8 (9 : Int), Value.int IntKind.u8 (13 : Int), Value.int IntKind.u8 (8 : Int), Value.int IntKind.u8 (7 : Int), Value.int IntKind.u8 (6 : Int)] ((0 : Nat) + Int.toNat (ari BinOp.shr IntKind.u64 (ari BinOp.mul IntKind.u64 (ari BinOp.and IntKind.u64 p (ari BinOp.sub IntKind.u64 (0 : Int) p)) (285870213051353865 : Int)) (58 : Int)) * 1) ∧ True) ∧ x = IntKind.wrap IntKind.i64 (intAt #[Value.int IntKind.u8 (0 : Int), Value.int IntKind.u8 (1 : Int), Value.int IntKind.u8 (56 : Int), Value.int IntKind.u8 (2 : Int), Value.int IntKind.u8 (57 : Int), Value.int IntKind.u8 (49 : Int), Value.int IntKind.u8 (28 : Int), Value.int IntKind.u8 (3 : Int), Value.int IntKind.u8 (61 : Int), Value.int IntKind.u8 (58 : Int), Value.int IntKind.u8 (42 : Int), Value.int IntKind.u8 (50 : Int), Value.int IntKind.u8 (38 : Int), Value.int IntKind.u8 (29 : Int), Value.int IntKind.u8 (17 : Int), Value.int IntKind.u8 (4 : Int), Value.int IntKind.u8 (62 : Int), Value.int IntKind.u8 (47 : Int), Value.int IntKind.u8 (59 : Int), Value.int IntKind.u8 (36 : Int), Value.int IntKind.u8 (45 : Int), Value.int IntKind.u8 (43 : Int), Value.int IntKind.u8 (51 : Int), Value.int IntKind.u8 (22 : Int), Value.int IntKind.u8 (53 : Int), Value.int IntKind.u8 (39 : Int), Value.int IntKind.u8 (33 : Int), Value.int IntKind.u8 (30 : Int), Value.int IntKind.u8 (24 : Int), Value.int IntKind.u8 (18 : Int), Value.int IntKind.u8 (12 : Int), Value.int IntKind.u8 (5 : Int), Value.int IntKind.u8 (63 : Int), Value.int IntKind.u8 (55 : Int), Value.int IntKind.u8 (48 : Int), Value.int IntKind.u8 (27 : Int), Value.int IntKind.u8 (60 : Int), Value.int IntKind.u8 (41 : Int), Value.int IntKind.u8 (37 : Int), Value.int IntKind.u8 (16 : Int), Value.int IntKind.u8 (46 : Int), Value.int IntKind.u8 (35 : Int), Value.int IntKind.u8 (44 : Int), Value.int IntKind.u8 (21 : Int), Value.int IntKind.u8 (52 : Int), Value.int IntKind.u8 (32 : Int), Value.int IntKind.u8 (23 : Int), Value.int IntKind.u8 (11 : Int), Value.int IntKind.u8 (54 : Int), Value.int IntKind.u8 (26 : Int), Value.int IntKind.u8 (40 : Int), Value.int IntKind.u8 (15 : Int), Value.int IntKind.u8 (34 : Int), Value.int IntKind.u8 (20 : Int), Value.int IntKind.u8 (31 : Int), Value.int IntKind.u8 (10 : Int), Value.int IntKind.u8 (25 : Int), Value.int IntKind.u8 (14 : Int), Value.int IntKind.u8 (19 : Int), Value.int IntKind.u8 (9 : Int), Value.int IntKind.u8 (13 : Int), Value.int IntKind.u8 (8 : Int), Value.int IntKind.u8 (7 : Int), Value.int IntKind.u8 (6 : Int)] ((0 : Nat) + Int.toNat (ari BinOp.shr IntKind.u64 (ari BinOp.mul IntKind.u64 (ari BinOp.and IntKind.u64 p (ari BinOp.sub IntKind.u64 (0 : Int) p)) (285870213051353865 : Int)) (58 : Int)) * 1)) ∧ True)) := by kernel_rfl
end Go.Proofs.YtccbfkeigfnibaaDoor
/- Numbers of 64 bits: what the operations of whole numbers make of them. No condition. -/
namespace Go.Proofs.YtccbfkeigfnibaaDoor
/-- A word, as a whole number. -/
def uw (X : BitVec 64) : Int := (X.toNat : Int)
theorem wrap_u64 (n : Int) : IntKind.u64.wrap n = n % 18446744073709551616 := rfl
theorem uw_range (X : BitVec 64) : 0 ≤ uw X ∧ uw X < 18446744073709551616 := by
  have := X.isLt
  unfold uw
  omega
theorem ofInt_uw (X : BitVec 64) : BitVec.ofInt 64 (uw X) = X := by
  unfold uw
  rw [BitVec.ofInt_natCast, BitVec.ofNat_toNat, BitVec.setWidth_eq]
theorem wrap_uw (X : BitVec 64) : IntKind.u64.wrap (uw X) = uw X := by
  rw [wrap_u64]
  have := uw_range X
  omega
theorem wrap_toNat (X : BitVec 64) : IntKind.u64.wrap (X.toNat : Int) = uw X := wrap_uw X
theorem wrap_ofInt (n : Int) : IntKind.u64.wrap n = uw (BitVec.ofInt 64 n) := by
  unfold uw
  rw [wrap_u64, BitVec.toNat_ofInt]
  have : 0 ≤ n % (2 ^ 64 : Nat) := Int.emod_nonneg _ (by decide)
  rw [Int.toNat_of_nonneg this]
  rfl
theorem uw_inj {X Y : BitVec 64} : uw X = uw Y ↔ X = Y := by
  unfold uw
  constructor
  · intro h
    exact BitVec.eq_of_toNat_eq (by omega)
  · intro h; rw [h]
theorem uw_and (X Y : BitVec 64) : IntKind.u64.wrap ((BitVec.ofInt 64 (uw X) &&& BitVec.ofInt 64 (uw Y)).toNat : Int) = uw (X &&& Y) := by rw [ofInt_uw, ofInt_uw, wrap_toNat]
theorem uw_or (X Y : BitVec 64) : IntKind.u64.wrap ((BitVec.ofInt 64 (uw X) ||| BitVec.ofInt 64 (uw Y)).toNat : Int) = uw (X ||| Y) := by rw [ofInt_uw, ofInt_uw, wrap_toNat]
theorem uw_andNot (X Y : BitVec 64) : IntKind.u64.wrap ((BitVec.ofInt 64 (uw X) &&& ~~~ BitVec.ofInt 64 (uw Y)).toNat : Int) = uw (X &&& ~~~ Y) := by rw [ofInt_uw, ofInt_uw, wrap_toNat]
theorem uw_not (X : BitVec 64) : IntKind.u64.wrap ((BitVec.ofInt 64 18446744073709551615 ^^^ BitVec.ofInt 64 (uw X)).toNat : Int) = uw (~~~ X) := by
  rw [ofInt_uw, wrap_toNat]
  have : BitVec.ofInt 64 18446744073709551615 = BitVec.allOnes 64 := by decide
  rw [this, BitVec.allOnes_xor]
theorem uw_mul (X Y : BitVec 64) : IntKind.u64.wrap (uw X * uw Y) = uw (X * Y) := by
  unfold uw
  rw [wrap_u64, BitVec.toNat_mul]
  omega
theorem uw_neg (X : BitVec 64) : IntKind.u64.wrap (0 - uw X) = uw (- X) := by
  have h := X.isLt
  unfold uw
  rw [wrap_u64, BitVec.toNat_neg]
  omega
theorem uw_shl (X : BitVec 64) (p : Nat) : IntKind.u64.wrap (uw X * 2 ^ min p 64) = uw (X <<< p) := by
  unfold uw
  rw [wrap_u64, BitVec.toNat_shiftLeft, Nat.shiftLeft_eq]
  by_cases h : p ≤ 64
  · rw [Nat.min_eq_left h]
    rw [Int.natCast_emod, Int.natCast_mul, Int.natCast_pow]
    rfl
  · rw [Nat.min_eq_right (by omega)]
    have e : 2 ^ p = 2 ^ 64 * 2 ^ (p - 64) := by rw [← Nat.pow_add]; congr 1; omega
    rw [e, ← Nat.mul_assoc, Nat.mul_comm X.toNat, Nat.mul_assoc, Nat.mul_mod_right]
    have : ((2 : Int) ^ 64) = 18446744073709551616 := by decide
    rw [this]
    simp
theorem uw_shr (X : BitVec 64) (p : Nat) : Int.fdiv (uw X) (2 ^ min p 64) = uw (X >>> p) := by
  unfold uw
  rw [BitVec.toNat_ushiftRight, Nat.shiftRight_eq_div_pow]
  have e2 : ∀ k : Nat, ((2 : Int) ^ k) = ((2 ^ k : Nat) : Int) := fun k => by rw [Int.natCast_pow]; rfl
  rw [e2, Int.fdiv_eq_ediv_of_nonneg _ (Int.natCast_nonneg _), ← Int.natCast_ediv]
  by_cases h : p ≤ 64
  · rw [Nat.min_eq_left h]
  · rw [Nat.min_eq_right (by omega)]
    have h1 : X.toNat / 2 ^ 64 = 0 := Nat.div_eq_of_lt X.isLt
    have h2 : X.toNat / 2 ^ p = 0 := Nat.div_eq_of_lt (Nat.lt_of_lt_of_le X.isLt (Nat.pow_le_pow_right (by decide) (by omega)))
    rw [h1, h2]
theorem uw_zero_iff (X : BitVec 64) : (uw X == 0) = decide (X = 0#64) := by
  have : (uw X = 0) ↔ X = 0#64 := by rw [← uw_inj]; rfl
  rw [Bool.eq_iff_iff, beq_iff_eq, decide_eq_true_eq, this]
/-- A known number. -/
theorem uw_lit (n : Nat) (h : n < 18446744073709551616) : (n : Int) = uw (BitVec.ofNat 64 n) := by
  unfold uw
  rw [BitVec.toNat_ofNat]
  omega
end Go.Proofs.YtccbfkeigfnibaaDoor
/- The lowest bit of a word, as math/bits finds it. No condition. -/
namespace Go.Proofs.YtccbfkeigfnibaaDoor
/-- The lowest bit's place; 64: there is none. -/
def tz (X : BitVec 64) : Nat := X.ctz.toNat
theorem tz_zero : tz 0#64 = 64 := by decide +kernel
theorem tz_lt {X : BitVec 64} (h : X ≠ 0#64) : tz X < 64 := by
  rcases Nat.lt_or_ge (tz X) 64 with h1 | h1
  · exact h1
  · have : X.getLsbD (tz X) = true := BitVec.getLsbD_true_ctz_of_ne_zero h
    rw [BitVec.getLsbD_of_ge _ _ h1] at this
    cases this
theorem tz_le (X : BitVec 64) : tz X ≤ 64 := by
  by_cases h : X = 0#64
  · subst h; rw [tz_zero]; exact Nat.le_refl _
  · exact Nat.le_of_lt (tz_lt h)
theorem tz_bit {X : BitVec 64} (h : X ≠ 0#64) : X.getLsbD (tz X) = true := BitVec.getLsbD_true_ctz_of_ne_zero h
theorem tz_below {X : BitVec 64} {i : Nat} (h : i < tz X) : X.getLsbD i = false := BitVec.getLsbD_false_of_lt_ctz h
theorem tz_unique {X : BitVec 64} {k : Nat} (h1 : X.getLsbD k = true) (h2 : ∀ i, i < k → X.getLsbD i = false) : tz X = k := by
  have hne : X ≠ 0#64 := by
    intro h; subst h; simp at h1
  rcases Nat.lt_trichotomy (tz X) k with h | h | h
  · have := h2 _ h
    rw [tz_bit hne] at this
    cases this
  · exact h
  · have := tz_below h
    rw [h1] at this
    cases this
theorem low_bit {X : BitVec 64} (h : X ≠ 0#64) : X &&& (-X) = BitVec.twoPow 64 (tz X) := by
  have h0 : X.toNat ≠ 0 := fun e => h (BitVec.eq_of_toNat_eq (by simpa using e))
  obtain ⟨h1, h2⟩ := Go.Lib.lowest_bit 64 X.toNat h0 X.isLt
  have e : X &&& (-X) = BitVec.twoPow 64 (Go.Lib.ctz 64 X.toNat) := by
    apply BitVec.eq_of_toNat_eq
    have e1 : (-X).toNat = 2 ^ 64 - X.toNat := by
      rw [BitVec.toNat_neg, Nat.mod_eq_of_lt]
      have := X.isLt
      omega
    rw [BitVec.toNat_and, e1, h1, BitVec.toNat_twoPow, Nat.mod_eq_of_lt]
    exact Nat.pow_lt_pow_right (by decide) h2
  have key : ∀ i, (X &&& (-X)).getLsbD i = decide (i = Go.Lib.ctz 64 X.toNat) := by
    intro i
    rw [e, BitVec.getLsbD_twoPow]
    by_cases hi : i = Go.Lib.ctz 64 X.toNat
    · subst hi; simp [h2]
    · have : ¬ Go.Lib.ctz 64 X.toNat = i := fun x => hi x.symm
      simp [hi, this]
  obtain ⟨m, hm, _⟩ := Go.Lib.ctzFrom_spec 64 X.toNat (by omega) X.isLt
  have hc : Go.Lib.ctz 64 X.toNat = Go.Lib.ctzFrom 64 X.toNat := by simp [Go.Lib.ctz, h0]
  rw [e]
  congr 1
  refine (tz_unique ?_ fun i hi => ?_).symm
  · have := key (Go.Lib.ctz 64 X.toNat)
    rw [BitVec.getLsbD_and] at this
    simp at this
    exact this.1
  · unfold BitVec.getLsbD
    rw [hc] at hi
    rw [hm, Nat.mul_comm, Nat.testBit_mul_two_pow]
    simp
    omega
/-- The table's answer. -/
def deB : List Nat := Go.Lib.deBruijn64tab
theorem deB_at (k : Nat) (h : k < 64) : ((BitVec.twoPow 64 k * 285870213051353865#64) >>> 58).toNat < 64 ∧ deB.getD ((BitVec.twoPow 64 k * 285870213051353865#64) >>> 58).toNat 0 = k := by
  have := Go.Lib.deBruijn64_at k h
  have e : ((BitVec.twoPow 64 k * 285870213051353865#64) >>> 58).toNat = 2 ^ k * 285870213051353865 % 18446744073709551616 / 288230376151711744 := by
    rw [BitVec.toNat_ushiftRight, BitVec.toNat_mul, BitVec.toNat_twoPow, Nat.shiftRight_eq_div_pow, Nat.mod_eq_of_lt (Nat.pow_lt_pow_right (by decide) h)]
    rfl
  rw [e]
  exact this
theorem tz_at {X : BitVec 64} (h : X ≠ 0#64) : (((X &&& (-X)) * 285870213051353865#64) >>> 58).toNat < 64 ∧ deB.getD (((X &&& (-X)) * 285870213051353865#64) >>> 58).toNat 0 = tz X := by
  rw [low_bit h]
  exact deB_at _ (tz_lt h)
end Go.Proofs.YtccbfkeigfnibaaDoor
/- Operations of words, as the conditions name them. No condition. -/
namespace Go.Proofs.YtccbfkeigfnibaaDoor
theorem ari_uw_and (X Y : BitVec 64) : ari .and .u64 (uw X) (uw Y) = uw (X &&& Y) := uw_and X Y
theorem ari_uw_or (X Y : BitVec 64) : ari .or .u64 (uw X) (uw Y) = uw (X ||| Y) := uw_or X Y
theorem ari_uw_andNot (X Y : BitVec 64) : ari .andNot .u64 (uw X) (uw Y) = uw (X &&& ~~~ Y) := uw_andNot X Y
theorem ari_uw_mul (X Y : BitVec 64) : ari .mul .u64 (uw X) (uw Y) = uw (X * Y) := uw_mul X Y
theorem ari_uw_neg (X : BitVec 64) : ari .sub .u64 0 (uw X) = uw (- X) := uw_neg X
theorem ari_uw_not (X : BitVec 64) : ari .xor .u64 18446744073709551615 (uw X) = uw (~~~ X) := uw_not X
theorem ari_uw_add (X Y : BitVec 64) : ari .add .u64 (uw X) (uw Y) = uw (X + Y) := by
  rw [ari_add, wrap_u64]
  unfold uw
  rw [BitVec.toNat_add]
  omega
theorem ari_uw_shl (X : BitVec 64) (p : Int) : ari .shl .u64 (uw X) p = uw (X <<< p.toNat) := uw_shl X p.toNat
theorem ari_uw_shr (X : BitVec 64) (p : Int) : ari .shr .u64 (uw X) p = uw (X >>> p.toNat) := uw_shr X p.toNat
theorem uw_toNat (X : BitVec 64) : (uw X).toNat = X.toNat := Int.toNat_natCast _
def tabL : List Value := (glTab.headD (0, [])).2
def tabOk (i : Nat) : Bool := match tabL[i]? with | some (.int .u8 n) => n == (deB.getD i 0 : Nat) | _ => false
theorem tab_all : ∀ i : Fin 64, tabOk i.val = true := by decide +kernel
theorem tab_at {i : Nat} (h : i < 64) : IsInt .u8 tabL.toArray i ∧ intAt tabL.toArray i = (deB.getD i 0 : Nat) := by
  have := tab_all ⟨i, h⟩
  unfold tabOk at this
  dsimp only at this
  split at this
  · rename_i n hn
    have e : intAt tabL.toArray i = n := by
      unfold intAt
      rw [List.getElem?_toArray, hn]
    have hn' : n = (deB.getD i 0 : Nat) := by simpa using this
    refine ⟨?_, e.trans hn'⟩
    unfold IsInt
    rw [e, List.getElem?_toArray, hn]
  · cases this
end Go.Proofs.YtccbfkeigfnibaaDoor
/- Of runs: the lowest bit: its contract. No condition. -/
namespace Go.Proofs.YtccbfkeigfnibaaDoor
def u64S (p : Int) : SV := .s (.c (.f (.int .u64 (.o p))))
theorem tz_fn : E0.fn 36 = some Tryd.f36 := by kernel_rfl
theorem tz_body : Tryd.f36.body = some (Tryd.f36.body.getD .skip) := by kernel_rfl
def tzI (p : Int) : Int := (tz (BitVec.ofInt 64 p) : Nat)
theorem tzI_uw (X : BitVec 64) : tzI (uw X) = (tz X : Nat) := by unfold tzI; rw [ofInt_uw]
theorem tz_good (X : BitVec 64) : Good Tryd.prog (retOk 0 [] (i64 (.o (tzI (uw X)))) ⟨0, .nil, []⟩) 0 [callFr 36 Tryd.f36.ntmps [u64S (uw X)] (Tryd.f36.body.getD .skip)] ⟨0, .nil, []⟩ := by
  refine run_vc E0_ok 1000 (tz_run (uw X) (tzI (uw X))) ?_ (fun s m h => h) fun _ _ h => h.elim
  rw [tzI_uw]
  refine ⟨fun h => ⟨?_, trivial⟩, fun h => ?_⟩
  · rw [uw_zero_iff, decide_eq_true_eq] at h
    rw [h, tz_zero]
    rfl
  · rw [uw_zero_iff, decide_eq_false_iff_not] at h
    obtain ⟨h1, h2⟩ := tz_at h
    have ec : (285870213051353865 : Int) = uw 285870213051353865#64 := rfl
    have e58 : (58 : Int).toNat = 58 := rfl
    rw [ari_uw_neg, ari_uw_and, ec, ari_uw_mul, ari_uw_shr, e58]
    generalize hY : (((X &&& (-X)) * 285870213051353865#64) >>> 58) = Y at h1 h2
    have hr := uw_range Y
    obtain ⟨k1, k2⟩ := tab_at h1
    have hlt : Y.toNat < 64 := h1
    have e0 : 0 + (uw Y).toNat * 1 = Y.toNat := by rw [uw_toNat]; omega
    rw [e0]
    refine ⟨⟨⟨hr.1, ?_⟩, trivial⟩, ⟨k1, trivial⟩, ?_, trivial⟩
    · unfold uw; omega
    · refine Eq.trans ?_ (congrArg (IntKind.wrap .i64) k2).symm
      rw [h2]
      have := tz_le X
      exact (Go.IntWalk.i64_in _ (by omega)).symm
theorem tz_con (p : Int) (m : SMem) : Con E0 36 [u64S p] m (needs [uw (BitVec.ofInt 64 p) = p] (.ret (i64 (.o (tzI p))) m)) := by
  refine Con.pure E0_ok tz_fn tz_body (by kernel_rfl) (by kernel_rfl) fun hq => ?_
  have hp : uw (BitVec.ofInt 64 p) = p := hq _ (by simp)
  have := tz_good (BitVec.ofInt 64 p)
  rw [hp] at this
  exact (Good.ret [] this).mono fun _ _ h => h.1
end Go.Proofs.YtccbfkeigfnibaaDoor
/- Of runs: Of, as a proposition. No condition. -/
namespace Go.Proofs.YtccbfkeigfnibaaDoor
set_option maxRecDepth 100000
theorem of_run (p x : Int) : (run E0 1000 0 [callFr 19 Tryd.f19.ntmps [i64 (.o p)] (Tryd.f19.body.getD .skip)] ⟨0, .nil, []⟩).vc (retOk 0 [] (.s (.agg (.ls [.f (.int .u64 (.o x))]))) ⟨0, .nil, []⟩) (fun _ _ => False) =
    ((((if (64 : Int) < if (0 : Int) > p then (0 : Int) else p then (64 : Int) else if (0 : Int) > p then (0 : Int) else p) == (0 : Int)) = true → x = (0 : Int) ∧ True) ∧ (((if (64 : Int) < if (0 : Int) > p then (0 : Int) else p then (64 : Int) else if (0 : Int) > p then (0 : Int) else p) == (0 : Int)) = false → ((0 : Int) ≤ ari BinOp.sub IntKind.i64 (64 : Int) (if (64 : Int) < if (0 : Int) > p then (0 : Int) else p then (64 : Int) else if (0 : Int) > p then (0 : Int) else p) ∧ True) ∧ x = ari BinOp.shr IntKind.u64 (18446744073709551615 : Int) (ari BinOp.sub IntKind.i64 (64 : Int) (if (64 : Int) < if (0 : Int) > p then (0 : Int) else p then (64 : Int) else if (0 : Int) > p then (0 : Int) else p)) ∧ True)) := by kernel_rfl
end Go.Proofs.YtccbfkeigfnibaaDoor
/- Of runs: contracts: Of. No condition. -/
namespace Go.Proofs.YtccbfkeigfnibaaDoor
/-- So many first pages. -/
def lowW (k : Nat) : BitVec 64 := BitVec.allOnes 64 >>> (64 - k)
theorem lowW_bit (k i : Nat) (hk : k ≤ 64) : (lowW k).getLsbD i = decide (i < k) := by
  unfold lowW
  rw [BitVec.getLsbD_ushiftRight, BitVec.getLsbD_allOnes]
  by_cases h : i < k
  · rw [decide_eq_true h, decide_eq_true (by omega)]
  · rw [decide_eq_false h, decide_eq_false (by omega)]
def clampN (p : Int) : Nat := if p < 0 then 0 else if 64 < p then 64 else p.toNat
theorem of_con (p : Int) (m : SMem) : Con E0 19 [i64 (.o p)] m (needs [] (.ret (.s (.agg (.ls [.f (.int .u64 (.o (uw (lowW (clampN p)))))]))) m)) := by
  refine Con.pure E0_ok (by kernel_rfl : E0.fn 19 = some Tryd.f19) (by kernel_rfl : Tryd.f19.body = some (Tryd.f19.body.getD .skip)) (by kernel_rfl) (by kernel_rfl) fun _ => ?_
  refine (Good.ret [] (run_vc E0_ok 1000 (of_run p (uw (lowW (clampN p)))) ?_ (fun s m h => h) fun _ _ h => h.elim)).mono fun _ _ h => h.1
  have hc : (if (64 : Int) < if (0 : Int) > p then (0 : Int) else p then (64 : Int) else if (0 : Int) > p then (0 : Int) else p) = (clampN p : Nat) := by
    unfold clampN
    split <;> split <;> first | omega | (split <;> omega)
  have hk : clampN p ≤ 64 := by unfold clampN; split <;> first | omega | (split <;> omega)
  rw [hc]
  have e64 : ari .sub .i64 64 (clampN p : Nat) = (64 - clampN p : Nat) := by
    rw [ari_sub]
    have := Go.IntWalk.i64_in (64 - (clampN p : Nat) : Int) (by omega)
    rw [this]
    omega
  rw [e64]
  have eA : (18446744073709551615 : Int) = uw (BitVec.allOnes 64) := rfl
  refine ⟨fun h => ?_, fun h => ⟨⟨by omega, trivial⟩, ?_, trivial⟩⟩
  · have h0 : clampN p = 0 := by
      have := eq_of_beq h
      omega
    rw [h0]
    exact ⟨rfl, trivial⟩
  · rw [eA, ari_uw_shr, Int.toNat_natCast]
    rfl
end Go.Proofs.YtccbfkeigfnibaaDoor
/- Of runs: the environment of its functions. No condition. -/
namespace Go.Proofs.YtccbfkeigfnibaaDoor
def conC (g : FuncId) (l : List SV) (m : SMem) : Option Tree :=
  match g, l with
  | 30, [.s (.c (.f (.int .i64 (.o p)))), .s (.c (.f (.int .i64 (.o n))))] => some (.ret (sB (.o (mayB p n))) m)
  | 32, [.s (.c (.f (.int .i64 (.o p)))), .s (.c (.f (.int .i64 (.o n))))] => some (.need [0 ≤ IntKind.i64.wrap (64 - n), 0 ≤ p] (.ret (.s (.c (.f (.int .u64 (.o (spanI p n)))))) m))
  | 36, [.s (.c (.f (.int .u64 (.o p))))] => some (.need [uw (BitVec.ofInt 64 p) = p] (.ret (i64 (.o (tzI p))) m))
  | _, _ => none
theorem conC_ok : ∀ g l m t, conC g l m = some t → Con E0 g l m t := by
  intro g l m t h
  unfold conC at h
  split at h
  · cases h; exact may_con _ _ m
  · cases h; exact span_con _ _ m
  · cases h; exact tz_con _ m
  · cases h
/-- One stops at the loop of each. -/
noncomputable def EC : Env := ⟨Tryd.prog, fnOf, conC, fun _ f x => Nat.beq f 35 && isLoop x⟩
theorem EC_ok : EnvOk EC := EnvOk.with E0_ok _ _ conC_ok
end Go.Proofs.YtccbfkeigfnibaaDoor
/- Of runs: the loop of each below Give, Take, Find and All: its states. No condition. -/
namespace Go.Proofs.YtccbfkeigfnibaaDoor
noncomputable section
/-- The first frame with a slot set. -/
def setTop (d : Nat) (v : SV) : List SFr → List SFr
  | ⟨fn, tm, td, dfs, md, kind, rnd⟩ :: cs => ⟨fn, tm.set d (some v), td, dfs, md, kind, rnd⟩ :: cs
  | [] => []
/-- What is left to do in a frame. -/
def tdAt (k : Nat) (l : List SFr) : List SIt := match nth l k with
  | some f => f.todo
  | none => []
def loopAt (k : Nat) (m : SMem) : Option LoopP := match nth m.xs k with
  | some ⟨_, .loop st pe fn _ ps ag bd _⟩ => some ⟨st, pe, fn, ps, ag, bd⟩
  | _ => none
def getLp (o : Option LoopP) : LoopP := match o with
  | some l => l
  | none => ⟨.ready, none, 0, #[], .skip, .skip⟩
def setIs (x : Int) : SV := .s (.agg (.ls [.f (.int .u64 (.o x))]))
def topInt (d : Nat) : List SFr → Option Int
  | f :: _ => svInt (f.tm.get d)
  | [] => none
def opR (c : List SFr) : Tree := run EC 1000 0 c ⟨0, .nil, []⟩
def opF (c : List SFr) (left : Int) : List SFr := setTop 3 (u64S left) ((opR c).fsE.map SFr.bare)
def opM (c : List SFr) : SMem := (opR c).memE.bare
def opH (c : List SFr) (left : Int) : List SFr := headF (opF c left)
def opS (c : List SFr) (left : Int) : Tree := stepT EC.go (run EC 1000) 0 (opH c left) (opM c)
/-- The next round's state, as it is come to: what is left is so. -/
def opN0 (c : List SFr) (Q : Int → Prop) (fs : List SFr) (m : SMem) : Prop :=
  match topInt 3 fs with
  | some left => Q left ∧ subOk 0 (idπ (opM c).next) (opF c left) (opM c) fs m
  | none => False
def opN (c : List SFr) (Q : Int → Prop) (fs : List SFr) (m : SMem) : Prop :=
  match topInt 3 fs with
  | some left => Q left ∧ subOk 0 (idπ (opM c).next) (opH c left) (opM c) fs m
  | none => False
def takeC (x p n : Int) : List SFr := [callFr 21 Tryd.f21.ntmps [setIs x, i64 (.o p), i64 (.o n)] (Tryd.f21.body.getD .skip)]
def takeT0 : List SIt := tdAt 0 (opF (takeC 0 0 0) 0)
def takeH0 : List SIt := tdAt 0 (opH (takeC 0 0 0) 0)
def takeT1 : List SIt := tdAt 1 (opF (takeC 0 0 0) 0)
def takeH1 : List SIt := tdAt 1 (opH (takeC 0 0 0) 0)
def takeT2 : List SIt := tdAt 2 (opF (takeC 0 0 0) 0)
def takeH2 : List SIt := tdAt 2 (opH (takeC 0 0 0) 0)
def takeLp : LoopP := getLp (loopAt 0 (opM (takeC 0 0 0)))
def setB (x : Int) (b : Bool) : SV := .tup [.agg (.ls [.f (.int .u64 (.o x))]), .c (.f (.bool (.o b)))]
def intB (x : Int) (b : Bool) : SV := .tup [.c (.f (.int .i64 (.o x))), .c (.f (.bool (.o b)))]
def opA (v : SV) : SV → SMem → Prop := retOk 0 [] v ⟨0, .nil, []⟩
end
end Go.Proofs.YtccbfkeigfnibaaDoor
/- Of runs: the loop of each below Take, as propositions. No condition. -/
namespace Go.Proofs.YtccbfkeigfnibaaDoor
set_option maxRecDepth 100000
theorem take_start (x p n y : Int) (b : Bool) (Q : Int → Prop) : (opR (takeC x p n)).vc (opA (setB y b)) (opN0 (takeC x p n) Q) =
    (((!mayB p n) = true → y = x ∧ b = false ∧ True) ∧ ((!mayB p n) = false → Q x ∧ CallKind.normal = CallKind.normal ∧ TodoOk (ren 0 [(0, 0), (1, 1), (2, 2), (3, 3), (4, 4), (5, 5), (6, 6), (7, 7), (8, 8), (9, 9)]) takeT0 takeT0 ∧ x = x ∧ x = x ∧ CallKind.normal = CallKind.normal ∧ TodoOk (ren 0 [(0, 0), (1, 1), (2, 2), (3, 3), (4, 4), (5, 5), (6, 6), (7, 7), (8, 8), (9, 9)]) takeT1 takeT1 ∧ x = x ∧ Fn.func (31 : Nat) = Fn.func (31 : Nat) ∧ Fn.func (35 : Nat) = Fn.func (35 : Nat) ∧ x = x ∧ CallKind.normal = CallKind.normal ∧ TodoOk (ren 0 [(0, 0), (1, 1), (2, 2), (3, 3), (4, 4), (5, 5), (6, 6), (7, 7), (8, 8), (9, 9)]) takeT2 takeT2 ∧ x = x ∧ p = p ∧ Fn.func (31 : Nat) = Fn.func (31 : Nat) ∧ mayB p n = mayB p n ∧ p = p ∧ n = n ∧ n = n ∧ x = x ∧ (48 : Nat) = (48 : Nat) ∧ x = x ∧ (3 : Nat) = (3 : Nat) ∧ p = p ∧ (48 : Nat) = (48 : Nat) ∧ (48 : Nat) = (48 : Nat) ∧ x = x ∧ (64 : Nat) = (64 : Nat) ∧ Fn.func (31 : Nat) = Fn.func (31 : Nat) ∧ (3 : Nat) = (3 : Nat) ∧ n = n ∧ (48 : Nat) = (48 : Nat) ∧ x = x ∧ (42 : Nat) = (42 : Nat) ∧ EqL takeLp takeLp ∧ x = x ∧ Fn.func (31 : Nat) = Fn.func (31 : Nat) ∧ Fn.func (35 : Nat) = Fn.func (35 : Nat) ∧ x = x ∧ True)) := by kernel_rfl
theorem take_step (x p n left y : Int) (b : Bool) (Q : Int → Prop) : (opS (takeC x p n) left).vc (opA (setB y b)) (opN (takeC x p n) Q) =
    (((left != (0 : Int)) = true → (uw (BitVec.ofInt (64 : Nat) left) = left ∧ True) ∧ ((0 : Int) ≤ tzI left ∧ True) ∧ (uw (BitVec.ofInt (64 : Nat) (ari BinOp.xor IntKind.u64 (18446744073709551615 : Int) (ari BinOp.shr IntKind.u64 left (tzI left)))) = ari BinOp.xor IntKind.u64 (18446744073709551615 : Int) (ari BinOp.shr IntKind.u64 left (tzI left)) ∧ True) ∧ ((decide (tzI left ≤ p) == true) = true → (decide (ari BinOp.add IntKind.i64 p n ≤ ari BinOp.add IntKind.i64 (tzI left) (tzI (ari BinOp.xor IntKind.u64 (18446744073709551615 : Int) (ari BinOp.shr IntKind.u64 left (tzI left))))) = true → ((tzI left == (0 : Int) && tzI (ari BinOp.xor IntKind.u64 (18446744073709551615 : Int) (ari BinOp.shr IntKind.u64 left (tzI left))) == (0 : Int)) = true → y = x ∧ b = false ∧ True) ∧ ((tzI left == (0 : Int) && tzI (ari BinOp.xor IntKind.u64 (18446744073709551615 : Int) (ari BinOp.shr IntKind.u64 left (tzI left))) == (0 : Int)) = false → ((0 : Int) ≤ IntKind.wrap IntKind.i64 ((64 : Int) - n) ∧ (0 : Int) ≤ p ∧ True) ∧ y = ari BinOp.andNot IntKind.u64 x (spanI p n) ∧ b = true ∧ True)) ∧ (decide (ari BinOp.add IntKind.i64 p n ≤ ari BinOp.add IntKind.i64 (tzI left) (tzI (ari BinOp.xor IntKind.u64 (18446744073709551615 : Int) (ari BinOp.shr IntKind.u64 left (tzI left))))) = false → ((0 : Int) ≤ IntKind.wrap IntKind.i64 ((64 : Int) - tzI (ari BinOp.xor IntKind.u64 (18446744073709551615 : Int) (ari BinOp.shr IntKind.u64 left (tzI left)))) ∧ (0 : Int) ≤ tzI left ∧ True) ∧ Q (ari BinOp.andNot IntKind.u64 left (spanI (tzI left) (tzI (ari BinOp.xor IntKind.u64 (18446744073709551615 : Int) (ari BinOp.shr IntKind.u64 left (tzI left)))))) ∧ CallKind.normal = CallKind.normal ∧ TodoOk (ren 0 [(0, 0), (1, 1), (2, 2), (3, 3), (4, 4), (5, 5), (6, 6), (7, 7), (8, 8), (9, 9)]) takeH0 takeH0 ∧ ari BinOp.andNot IntKind.u64 left (spanI (tzI left) (tzI (ari BinOp.xor IntKind.u64 (18446744073709551615 : Int) (ari BinOp.shr IntKind.u64 left (tzI left))))) = ari BinOp.andNot IntKind.u64 left (spanI (tzI left) (tzI (ari BinOp.xor IntKind.u64 (18446744073709551615 : Int) (ari BinOp.shr IntKind.u64 left (tzI left))))) ∧ x = x ∧ CallKind.normal = CallKind.normal ∧ TodoOk (ren 0 [(0, 0), (1, 1), (2, 2), (3, 3), (4, 4), (5, 5), (6, 6), (7, 7), (8, 8), (9, 9)]) takeH1 takeH1 ∧ x = x ∧ Fn.func (31 : Nat) = Fn.func (31 : Nat) ∧ Fn.func (35 : Nat) = Fn.func (35 : Nat) ∧ x = x ∧ CallKind.normal = CallKind.normal ∧ TodoOk (ren 0 [(0, 0), (1, 1), (2, 2), (3, 3), (4, 4), (5, 5), (6, 6), (7, 7), (8, 8), (9, 9)]) takeH2 takeH2 ∧ x = x ∧ p = p ∧ Fn.func (31 : Nat) = Fn.func (31 : Nat) ∧ mayB p n = mayB p n ∧ p = p ∧ n = n ∧ n = n ∧ x = x ∧ (48 : Nat) = (48 : Nat) ∧ x = x ∧ (3 : Nat) = (3 : Nat) ∧ p = p ∧ (48 : Nat) = (48 : Nat) ∧ (48 : Nat) = (48 : Nat) ∧ x = x ∧ (64 : Nat) = (64 : Nat) ∧ Fn.func (31 : Nat) = Fn.func (31 : Nat) ∧ (3 : Nat) = (3 : Nat) ∧ n = n ∧ (48 : Nat) = (48 : Nat) ∧ x = x ∧ (42 : Nat) = (42 : Nat) ∧ EqL takeLp takeLp ∧ x = x ∧ Fn.func (31 : Nat) = Fn.func (31 : Nat) ∧ Fn.func (35 : Nat) = Fn.func (35 : Nat) ∧ x = x ∧ True)) ∧ ((decide (tzI left ≤ p) == true) = false → ((0 : Int) ≤ IntKind.wrap IntKind.i64 ((64 : Int) - tzI (ari BinOp.xor IntKind.u64 (18446744073709551615 : Int) (ari BinOp.shr IntKind.u64 left (tzI left)))) ∧ (0 : Int) ≤ tzI left ∧ True) ∧ Q (ari BinOp.andNot IntKind.u64 left (spanI (tzI left) (tzI (ari BinOp.xor IntKind.u64 (18446744073709551615 : Int) (ari BinOp.shr IntKind.u64 left (tzI left)))))) ∧ CallKind.normal = CallKind.normal ∧ TodoOk (ren 0 [(0, 0), (1, 1), (2, 2), (3, 3), (4, 4), (5, 5), (6, 6), (7, 7), (8, 8), (9, 9)]) takeH0 takeH0 ∧ ari BinOp.andNot IntKind.u64 left (spanI (tzI left) (tzI (ari BinOp.xor IntKind.u64 (18446744073709551615 : Int) (ari BinOp.shr IntKind.u64 left (tzI left))))) = ari BinOp.andNot IntKind.u64 left (spanI (tzI left) (tzI (ari BinOp.xor IntKind.u64 (18446744073709551615 : Int) (ari BinOp.shr IntKind.u64 left (tzI left))))) ∧ x = x ∧ CallKind.normal = CallKind.normal ∧ TodoOk (ren 0 [(0, 0), (1, 1), (2, 2), (3, 3), (4, 4), (5, 5), (6, 6), (7, 7), (8, 8), (9, 9)]) takeH1 takeH1 ∧ x = x ∧ Fn.func (31 : Nat) = Fn.func (31 : Nat) ∧ Fn.func (35 : Nat) = Fn.func (35 : Nat) ∧ x = x ∧ CallKind.normal = CallKind.normal ∧ TodoOk (ren 0 [(0, 0), (1, 1), (2, 2), (3, 3), (4, 4), (5, 5), (6, 6), (7, 7), (8, 8), (9, 9)]) takeH2 takeH2 ∧ x = x ∧ p = p ∧ Fn.func (31 : Nat) = Fn.func (31 : Nat) ∧ mayB p n = mayB p n ∧ p = p ∧ n = n ∧ n = n ∧ x = x ∧ (48 : Nat) = (48 : Nat) ∧ x = x ∧ (3 : Nat) = (3 : Nat) ∧ p = p ∧ (48 : Nat) = (48 : Nat) ∧ (48 : Nat) = (48 : Nat) ∧ x = x ∧ (64 : Nat) = (64 : Nat) ∧ Fn.func (31 : Nat) = Fn.func (31 : Nat) ∧ (3 : Nat) = (3 : Nat) ∧ n = n ∧ (48 : Nat) = (48 : Nat) ∧ x = x ∧ (42 : Nat) = (42 : Nat) ∧ EqL takeLp takeLp ∧ x = x ∧ Fn.func (31 : Nat) = Fn.func (31 : Nat) ∧ Fn.func (35 : Nat) = Fn.func (35 : Nat) ∧ x = x ∧ True)) ∧ ((left != (0 : Int)) = false → y = x ∧ b = false ∧ True)) := by kernel_rfl
end Go.Proofs.YtccbfkeigfnibaaDoor
/- Runs of a word's bits, one behind the other. No condition. -/
namespace Go.Proofs.YtccbfkeigfnibaaDoor
/-- The bits of so many places from a place on. -/
def spanW (a n : Nat) : BitVec 64 := (BitVec.allOnes 64 >>> (64 - n)) <<< a
theorem spanW_bit (a n i : Nat) (h : a + n ≤ 64) : (spanW a n).getLsbD i = decide (a ≤ i ∧ i < a + n) := by
  unfold spanW
  rw [BitVec.getLsbD_shiftLeft, BitVec.getLsbD_ushiftRight, BitVec.getLsbD_allOnes]
  by_cases h1 : a ≤ i <;> by_cases h2 : i < a + n
  · rw [decide_eq_true (show a ≤ i ∧ i < a + n from ⟨h1, h2⟩), decide_eq_true (show i < 64 by omega), decide_eq_false (show ¬ i < a by omega), decide_eq_true (show 64 - n + (i - a) < 64 by omega)]
    rfl
  · rw [decide_eq_false (show ¬ (a ≤ i ∧ i < a + n) from fun x => h2 x.2), decide_eq_false (show ¬ 64 - n + (i - a) < 64 by omega)]
    simp
  · rw [decide_eq_false (show ¬ (a ≤ i ∧ i < a + n) from fun x => h1 x.1), decide_eq_true (show i < a by omega)]
    simp
  · rw [decide_eq_false (show ¬ (a ≤ i ∧ i < a + n) from fun x => h1 x.1), decide_eq_true (show i < a by omega)]
    simp
theorem spanI_uw (p n : Int) (hp : 0 ≤ p) (hn : 0 ≤ n) (h : p + n ≤ 64) : spanI p n = uw (spanW p.toNat n.toNat) := by
  have h1 : IntKind.i64.wrap (64 - n) = 64 - n := Go.IntWalk.i64_in _ (by omega)
  have eA : (18446744073709551615 : Int) = uw (BitVec.allOnes 64) := rfl
  unfold spanI
  rw [h1, eA, uw_shr, uw_shl]
  unfold spanW
  congr 3
  omega
/-- How long the lowest run is. -/
def tzn (L : BitVec 64) : Nat := tz (~~~ (L >>> tz L))
/-- What is left behind the lowest run. -/
def nextW (L : BitVec 64) : BitVec 64 := L &&& ~~~ spanW (tz L) (tzn L)
theorem nbit (L : BitVec 64) (i : Nat) : (~~~ (L >>> tz L)).getLsbD i = (decide (i < 64) && !L.getLsbD (tz L + i)) := by
  rw [BitVec.getLsbD_not, BitVec.getLsbD_ushiftRight]
theorem nne {L : BitVec 64} (h : L ≠ 0#64) (h1 : tzn L = 64) : tz L = 0 ∧ ∀ i, i < 64 → L.getLsbD i = true := by
  have hz := tz_lt h
  have hb : ∀ i, i < 64 → L.getLsbD (tz L + i) = true := by
    intro i hi
    have := tz_below (X := ~~~ (L >>> tz L)) (i := i) (by show i < tzn L; omega)
    rw [nbit, decide_eq_true hi] at this
    simpa using this
  have h0 : tz L = 0 := by
    rcases Nat.eq_zero_or_pos (tz L) with h | h
    · exact h
    · have := hb (64 - tz L) (by omega)
      rw [BitVec.getLsbD_of_ge _ _ (by omega)] at this
      cases this
  refine ⟨h0, fun i hi => ?_⟩
  have := hb i hi
  rwa [h0, Nat.zero_add] at this
/-- The lowest run. -/
theorem low_run {L : BitVec 64} (h : L ≠ 0#64) : 1 ≤ tzn L ∧ tz L + tzn L ≤ 64 ∧ (∀ i, i < tz L → L.getLsbD i = false) ∧ (∀ i, tz L ≤ i → i < tz L + tzn L → L.getLsbD i = true) ∧ L.getLsbD (tz L + tzn L) = false := by
  have hz := tz_lt h
  have hk : tzn L ≤ 64 := tz_le _
  have hone : ∀ i, i < tzn L → L.getLsbD (tz L + i) = true := by
    intro i hi
    have := tz_below (X := ~~~ (L >>> tz L)) (i := i) hi
    rw [nbit, decide_eq_true (show i < 64 by omega)] at this
    simpa using this
  refine ⟨?_, ?_, fun i hi => tz_below hi, fun i h1 h2 => ?_, ?_⟩
  · rcases Nat.eq_zero_or_pos (tzn L) with h0 | h0
    · have hne : ~~~ (L >>> tz L) ≠ 0#64 := by
        intro e
        have : tzn L = 64 := by unfold tzn; rw [e, tz_zero]
        omega
      have := tz_bit hne
      rw [show tz (~~~ (L >>> tz L)) = 0 from h0, nbit] at this
      rw [Nat.add_zero, tz_bit h] at this
      simp at this
    · exact h0
  · rcases Nat.lt_or_ge 64 (tz L + tzn L) with h1 | h1
    · have := hone (64 - tz L) (by omega)
      rw [BitVec.getLsbD_of_ge _ _ (by omega)] at this
      cases this
    · exact h1
  · have := hone (i - tz L) (by omega)
    rwa [show tz L + (i - tz L) = i by omega] at this
  · by_cases hne : ~~~ (L >>> tz L) = 0#64
    · have : tzn L = 64 := by unfold tzn; rw [hne, tz_zero]
      exact BitVec.getLsbD_of_ge _ _ (by omega)
    · have := tz_bit hne
      rw [nbit] at this
      simp at this
      exact this.2
theorem nextW_bit {L : BitVec 64} (h : L ≠ 0#64) (i : Nat) : (nextW L).getLsbD i = (decide (tz L + tzn L ≤ i) && L.getLsbD i) := by
  obtain ⟨h1, h2, h3, h4, h5⟩ := low_run h
  unfold nextW
  rw [BitVec.getLsbD_and, BitVec.getLsbD_not, spanW_bit _ _ _ h2]
  by_cases k1 : i < tz L
  · rw [h3 i k1]; simp
  · by_cases k2 : i < tz L + tzn L
    · rw [decide_eq_true (show tz L ≤ i ∧ i < tz L + tzn L by omega), decide_eq_false (show ¬ tz L + tzn L ≤ i by omega)]
      simp
    · rw [decide_eq_false (show ¬ (tz L ≤ i ∧ i < tz L + tzn L) by omega), decide_eq_true (show tz L + tzn L ≤ i by omega)]
      by_cases k3 : i < 64
      · rw [decide_eq_true k3]; simp
      · rw [BitVec.getLsbD_of_ge _ _ (by omega)]; simp
/-- What is left of X from the place p on; there is no page at p, unless it is the first one. -/
structure Part (X L : BitVec 64) (p : Nat) : Prop where
  le : p ≤ 64
  bits : ∀ i, L.getLsbD i = (decide (p ≤ i) && X.getLsbD i)
  at0 : p = 0 ∨ X.getLsbD p = false
theorem Part.start (X : BitVec 64) : Part X X 0 := ⟨Nat.zero_le _, fun i => by simp, .inl rfl⟩
/-- The next run of X. -/
structure NextRun (X : BitVec 64) (p a n : Nat) : Prop where
  pa : p ≤ a
  n1 : 1 ≤ n
  le : a + n ≤ 64
  gap : ∀ i, p ≤ i → i < a → X.getLsbD i = false
  all : ∀ i, a ≤ i → i < a + n → X.getLsbD i = true
  hi : X.getLsbD (a + n) = false
  lo : a = 0 ∨ X.getLsbD (a - 1) = false
theorem Part.next {X L : BitVec 64} {p : Nat} (hp : Part X L p) (h : L ≠ 0#64) : NextRun X p (tz L) (tzn L) ∧ Part X (nextW L) (tz L + tzn L) := by
  obtain ⟨h1, h2, h3, h4, h5⟩ := low_run h
  have hpa : p ≤ tz L := by
    have := hp.bits (tz L)
    rw [tz_bit h] at this
    simp at this
    exact this.1
  have hx : ∀ i, p ≤ i → X.getLsbD i = L.getLsbD i := fun i hi => by rw [hp.bits i, decide_eq_true hi, Bool.true_and]
  have hX5 : X.getLsbD (tz L + tzn L) = false := by rw [hx _ (by omega)]; exact h5
  refine ⟨⟨hpa, h1, h2, fun i k1 k2 => ?_, fun i k1 k2 => ?_, hX5, ?_⟩, ⟨h2, fun i => ?_, .inr hX5⟩⟩
  · rw [hx i k1]; exact h3 i k2
  · rw [hx i (by omega)]; exact h4 i k1 k2
  · rcases Nat.eq_zero_or_pos (tz L) with k | k
    · exact .inl k
    · refine .inr ?_
      by_cases k2 : p ≤ tz L - 1
      · rw [hx _ k2]; exact h3 _ (by omega)
      · have e : p = tz L := by omega
        rcases hp.at0 with k3 | k3
        · omega
        · have := hx p (Nat.le_refl _)
          rw [k3, e, tz_bit h] at this
          cases this
  · rw [nextW_bit h]
    by_cases k : tz L + tzn L ≤ i
    · rw [decide_eq_true k, hx i (by omega)]
    · rw [decide_eq_false k]; simp
theorem Part.done {X : BitVec 64} {p : Nat} (hp : Part X 0#64 p) (i : Nat) (h : p ≤ i) : X.getLsbD i = false := by
  have := hp.bits i
  rw [decide_eq_true h] at this
  simpa using this.symm
/-! As the program's operations make them. -/
theorem ari_n (L : BitVec 64) : ari .xor .u64 18446744073709551615 (ari .shr .u64 (uw L) (tz L : Nat)) = uw (~~~ (L >>> tz L)) := by
  rw [ari_uw_shr, ari_uw_not, Int.toNat_natCast]
theorem tzI_n (L : BitVec 64) : tzI (ari .xor .u64 18446744073709551615 (ari .shr .u64 (uw L) (tz L : Nat))) = (tzn L : Nat) := by
  rw [ari_n, tzI_uw]; rfl
theorem ari_next {L : BitVec 64} (h : L ≠ 0#64) : ari .andNot .u64 (uw L) (spanI (tz L : Nat) (tzn L : Nat)) = uw (nextW L) := by
  obtain ⟨h1, h2, _⟩ := low_run h
  rw [spanI_uw _ _ (by omega) (by omega) (by omega), ari_uw_andNot, Int.toNat_natCast, Int.toNat_natCast]
  rfl
end Go.Proofs.YtccbfkeigfnibaaDoor
/- Of runs: Give, Take and Find: what they answer. No condition. -/
namespace Go.Proofs.YtccbfkeigfnibaaDoor
set_option maxRecDepth 100000
theorem tzn_def (L : BitVec 64) : tz (~~~ (L >>> tz L)) = tzn L := rfl
theorem uw_ne_false (L : BitVec 64) (h : L = 0#64) : (uw L != 0) = false := by subst h; rfl
theorem uw_ne_true (L : BitVec 64) (h : L ≠ 0#64) : (uw L != 0) = true := by
  have := uw_zero_iff L
  rw [decide_eq_false h] at this
  unfold bne
  rw [this]; rfl
theorem opN_good {c : List SFr} {A : SV → SMem → Prop} {Q : Int → Prop} (hg : ∀ left, Q left → Good EC.P A 0 (opH c left) (opM c)) {fs : List SFr} {m : SMem} (h : opN c Q fs m) : Good EC.P A 0 fs m := by
  unfold opN at h
  split at h
  · exact Good.of_sub h.2 (hg _ h.1)
  · exact h.elim
theorem opN0_good {c : List SFr} {A : SV → SMem → Prop} {Q : Int → Prop} (hg : ∀ left, Q left → Good EC.P A 0 (opH c left) (opM c)) {fs : List SFr} {m : SMem} (h : opN0 c Q fs m) : Good EC.P A 0 fs m := by
  unfold opN0 at h
  split at h
  · exact Good.of_sub h.2 (Good.head (hg _ h.1))
  · exact h.elim
theorem mayB_iff {p n : Int} : mayB p n = true ↔ 1 ≤ n ∧ 0 ≤ p ∧ p < 64 ∧ n ≤ 64 - p := by unfold mayB; rw [decide_eq_true_eq]
/-- Are the pages of a run so? -/
def allIn (X : BitVec 64) (a n : Nat) (b : Bool) : Bool := decide (∀ i : Fin 64, a ≤ i.val → i.val < a + n → X.getLsbD i.val = b)
theorem allIn_iff {X : BitVec 64} {a n : Nat} {b : Bool} (h : a + n ≤ 64) : allIn X a n b = true ↔ ∀ i, a ≤ i → i < a + n → X.getLsbD i = b := by
  unfold allIn
  rw [decide_eq_true_eq]
  exact ⟨fun k i h1 h2 => k ⟨i, by omega⟩ h1 h2, fun k i h1 h2 => k i.val h1 h2⟩
def takeOk (X : BitVec 64) (p n : Int) : Bool := mayB p n && allIn X p.toNat n.toNat true
def takeW (X : BitVec 64) (p n : Int) : BitVec 64 := if takeOk X p n = true then X &&& ~~~ spanW p.toNat n.toNat else X
section
variable (X : BitVec 64) (p n : Int)
theorem take_no (h : takeOk X p n = false) : takeW X p n = X := by unfold takeW; rw [h]; rfl
theorem take_yes (h : takeOk X p n = true) : uw (takeW X p n) = ari .andNot .u64 (uw X) (spanI p n) := by
  have hm := mayB_iff.1 (show mayB p n = true by unfold takeOk at h; simp at h; exact h.1)
  unfold takeW
  rw [if_pos h, spanI_uw p n (by omega) (by omega) (by omega), ari_uw_andNot]
theorem nz_run {L : BitVec 64} (h : L ≠ 0#64) : ((tz L : Nat) == (0 : Int) && (tzn L : Nat) == (0 : Int)) = false := by
  have := (low_run h).1
  have : ((tzn L : Nat) == (0 : Int)) = false := by
    rw [beq_eq_false_iff_ne]; omega
  rw [this, Bool.and_false]
theorem take_good (hm : mayB p n = true) : ∀ (k : Nat) (L : BitVec 64) (q : Nat), 64 - q < k → Part X L q → (q ≤ p.toNat ∨ ∃ i, p.toNat ≤ i ∧ i < p.toNat + n.toNat ∧ X.getLsbD i = false) →
    Good EC.P (opA (setB (uw (takeW X p n)) (takeOk X p n))) 0 (opH (takeC (uw X) p n) (uw L)) (opM (takeC (uw X) p n)) := by
  have hm' := mayB_iff.1 hm
  have hi64 : ∀ t : Int, 0 ≤ t → t ≤ 128 → IntKind.i64.wrap t = t := fun t h1 h2 => Go.IntWalk.i64_in _ (by omega)
  have hnot : (∃ i, p.toNat ≤ i ∧ i < p.toNat + n.toNat ∧ X.getLsbD i = false) → takeOk X p n = false := by
    rintro ⟨i, h1, h2, h3⟩
    cases h : takeOk X p n with
    | false => rfl
    | true =>
      unfold takeOk at h
      rw [hm, Bool.true_and, allIn_iff (by omega)] at h
      rw [h i h1 h2] at h3
      cases h3
  intro k
  induction k with
  | zero => intro L q h; omega
  | succ k ih =>
    intro L q hk hP hI
    refine past_vc EC_ok 1000 (take_step (uw X) p n (uw L) (uw (takeW X p n)) (takeOk X p n) (fun left => ∃ L' q', left = uw L' ∧ 64 - q' < k ∧ Part X L' q' ∧ (q' ≤ p.toNat ∨ ∃ i, p.toNat ≤ i ∧ i < p.toNat + n.toNat ∧ X.getLsbD i = false))) ?_ (fun _ _ h => h)
      (fun fs m hb => opN_good (fun left ⟨L', q', e, k1, k2, k3⟩ => by rw [e]; exact ih L' q' k1 k2 k3) hb)
    by_cases hL : L = 0#64
    · subst hL
      have hok : takeOk X p n = false := by
        rcases hI with h | h
        · exact hnot ⟨p.toNat, Nat.le_refl _, by omega, hP.done _ h⟩
        · exact hnot h
      refine ⟨fun h => ?_, fun _ => ?_⟩
      · cases h
      · exact ⟨by rw [take_no X p n hok], hok, trivial⟩
    · obtain ⟨hr, hP'⟩ := hP.next hL
      have ha := tz_lt hL
      rw [uw_ne_true L hL]
      simp only [tzI_uw, ari_n, tzn_def, ofInt_uw, ari_next hL, nz_run hL, ari_add]
      have hle := hr.le
      have hpa := hr.pa
      have hn1 := hr.n1
      have e1 : IntKind.i64.wrap (p + n) = p + n := hi64 _ (by omega) (by omega)
      have e2 : IntKind.i64.wrap ((tz L : Nat) + (tzn L : Nat)) = ((tz L : Nat) + (tzn L : Nat) : Int) := hi64 _ (by omega) (by omega)
      have e3 : IntKind.i64.wrap (64 - n) = 64 - n := hi64 _ (by omega) (by omega)
      have e4 : IntKind.i64.wrap (64 - (tzn L : Nat)) = 64 - (tzn L : Nat) := hi64 _ (by omega) (by omega)
      rw [e1, e2, e3, e4]
      have hlt : 64 - (tz L + tzn L) < k := by clear hI hnot; omega
      have hgo : (¬ ((tz L : Nat) ≤ p) ∨ ¬ (p + n ≤ (tz L : Nat) + (tzn L : Nat))) → ∃ L' q', uw (nextW L) = uw L' ∧ 64 - q' < k ∧ Part X L' q' ∧ (q' ≤ p.toNat ∨ ∃ i, p.toNat ≤ i ∧ i < p.toNat + n.toNat ∧ X.getLsbD i = false) := by
        intro hc
        refine ⟨nextW L, tz L + tzn L, rfl, hlt, hP', ?_⟩
        rcases hI with h | h
        · by_cases h1 : tz L + tzn L ≤ p.toNat
          · exact .inl h1
          · by_cases h2 : p.toNat < tz L
            · exact .inr ⟨p.toNat, Nat.le_refl _, by omega, hr.gap _ h h2⟩
            · exact .inr ⟨tz L + tzn L, by omega, by omega, hr.hi⟩
        · exact .inr h
      have hyes : ((tz L : Nat) ≤ p) → (p + n ≤ (tz L : Nat) + (tzn L : Nat)) → takeOk X p n = true := by
        intro c1 c2
        unfold takeOk
        rw [hm, Bool.true_and, allIn_iff (by omega)]
        exact fun i h1 h2 => hr.all i (by omega) (by omega)
      refine ⟨fun _ => ⟨⟨trivial, trivial⟩, ⟨by omega, trivial⟩, ⟨trivial, trivial⟩, fun c1 => ⟨fun c2 => ⟨fun h => ?_, fun _ => ?_⟩, fun c2 => ⟨⟨by omega, by omega, trivial⟩, hgo (by simp at c2; omega), ?_⟩⟩, fun c1 => ⟨⟨by omega, by omega, trivial⟩, hgo (by simp at c1; omega), ?_⟩⟩, fun h => ?_⟩
      all_goals first | (cases h; done) | skip
      · have h0 := hyes (by simpa using c1) (by simpa using c2)
        exact ⟨⟨by omega, by omega, trivial⟩, take_yes X p n h0, h0, trivial⟩
      all_goals repeat' first | exact trivial | apply And.intro | exact rfl
end
end Go.Proofs.YtccbfkeigfnibaaDoor
/- Of runs: the contract of Take. No condition. -/
namespace Go.Proofs.YtccbfkeigfnibaaDoor
set_option maxRecDepth 100000
section
variable (X : BitVec 64) (p n : Int) (m : SMem)
theorem take_con : Con E0 21 [setIs (uw X), i64 (.o p), i64 (.o n)] m (needs [] (.ret (setB (uw (takeW X p n)) (takeOk X p n)) m)) := by
  refine Con.pure E0_ok (by kernel_rfl : E0.fn 21 = some Tryd.f21) (by kernel_rfl : Tryd.f21.body = some (Tryd.f21.body.getD .skip)) (by kernel_rfl) (by kernel_rfl) fun _ => ?_
  refine (Good.ret (m := ⟨0, .nil, []⟩) (s0m := ⟨0, .nil, []⟩) (s0 := setB (uw (takeW X p n)) (takeOk X p n)) [] ?_).mono fun _ _ h => h.1
  show Good EC.P _ 0 (takeC (uw X) p n) _
  by_cases hm : mayB p n = true
  · have hq : ∀ left, left = uw X → Good EC.P (opA (setB (uw (takeW X p n)) (takeOk X p n))) 0 (opH (takeC (uw X) p n) left) (opM (takeC (uw X) p n)) := by
      rintro _ rfl
      exact take_good X p n hm 65 X 0 (by omega) (Part.start X) (.inl (Nat.zero_le _))
    refine run_vc EC_ok 1000 (take_start (uw X) p n (uw (takeW X p n)) (takeOk X p n) (fun left => left = uw X)) ?_ (fun _ _ h => h) (fun fs m hb => opN0_good hq hb)
    rw [hm]
    refine ⟨fun h => (by cases h), fun _ => ⟨rfl, ?_⟩⟩
    repeat' first | exact trivial | apply And.intro | exact rfl
  · have hm : mayB p n = false := by simpa using hm
    have h0 : takeOk X p n = false := by unfold takeOk; rw [hm]; rfl
    refine run_vc EC_ok 1000 (take_start (uw X) p n (uw (takeW X p n)) (takeOk X p n) (fun _ => False)) ?_ (fun _ _ h => h) (fun fs m hb => opN0_good (fun _ h => h.elim) hb)
    rw [hm]
    exact ⟨fun _ => ⟨by rw [take_no X p n h0], h0, trivial⟩, fun h => by cases h⟩
end
end Go.Proofs.YtccbfkeigfnibaaDoor
/- Of extent: the environment of its functions: sets of pages; rows of pairs. No condition. -/
namespace Go.Proofs.YtccbfkeigfnibaaDoor
set_option maxRecDepth 100000
theorem Con.args {E : Env} {f : FuncId} {l l' : List SV} {m : SMem} {t : Tree} (h : Con E f l' m t) (hl : ∀ R vs, All2 (SV.ok R) l vs → All2 (SV.ok R) l' vs) : Con E f l m t := by
  intro A hs
  obtain ⟨fn, h1, h2, h3⟩ := h A hs
  exact ⟨fn, h1, h2, fun n0 F w0 w R args ha hR => h3 n0 F w0 w R args (hl R _ ha) hR⟩
noncomputable section
def reTm : List Tm → List SFr → List SFr
  | t :: ts, ⟨fn, _, td, dfs, md, kind, rnd⟩ :: cs => ⟨fn, t, td, dfs, md, kind, rnd⟩ :: reTm ts cs
  | _, _ => []
def Tree.no : Tree → Tree
  | .br _ _ e => e
  | .need _ t => t.no
  | t => t
def boolR (b : Bool) (s : SV) (_ : SMem) : Prop := match s with
  | .s (.c (.f (.bool x))) => x.den = b
  | _ => False
def intR (n : Int) (s : SV) (_ : SMem) : Prop := match s with
  | .s (.c (.f (.int .i64 x))) => x.den = n
  | _ => False
def hF (h : Bool) (fs : List SFr) : List SFr := cond h (headF fs) fs
def sl0 (off n : Nat) : SF := .slice 0 (.o off) (.o n) .any
def extS (off n : Nat) (len : Int) : SV := .s (.agg (.ls [.f (sl0 off n), .f (.int .i64 (.o len))]))
/-- A row that is read: of the program's own, or of an argument. -/
def rwA (v : Bool) (cs : Array Value) : SA := cond v (.raw cs) (.pop cs)
def rwM (v : Bool) (cs : Array Value) (ty : TypeId) : SMem := ⟨1, (Tr.nil : Tr SBlk).set 0 (some ⟨rwA v cs, ty, false⟩), []⟩
def conX (g : FuncId) (l : List SV) (m : SMem) : Option Tree :=
  match g, l with
  | 5, [] => some (.ret (sB (.l true)) m)
  | 19, [.s (.c (.f (.int .i64 x)))] => some (.ret (.s (.agg (.ls [.f (.int .u64 (.o (uw (lowW (clampN x.den)))))]))) m)
  | 21, [.s (.agg (.ls [.f (.int .u64 x)])), .s (.c (.f (.int .i64 p))), .s (.c (.f (.int .i64 n)))] =>
    some (.need [uw (BitVec.ofInt 64 x.den) = x.den] (.ret (setB (uw (takeW (BitVec.ofInt 64 x.den) p.den n.den)) (takeOk (BitVec.ofInt 64 x.den) p.den n.den)) m))
  | _, _ => none
/-- One stops at each loop. -/
def EX : Env := ⟨Tryd.prog, fnOf, conX, fun _ _ x => isLoop x⟩
end
theorem conX_ok : ∀ g l m t, conX g l m = some t → Con E0 g l m t := by
  intro g l m t h
  unfold conX at h
  split at h
  · cases h; exact wakes_con m
  · rename_i x
    cases h
    refine Con.args (of_con x.den m) fun R vs ha => ?_
    match vs, ha with
    | [v], ha => exact ⟨ha.1, trivial⟩
  · rename_i x p n
    cases h
    intro A hs
    have hq : uw (BitVec.ofInt 64 x.den) = x.den := hs.1 _ (by simp)
    have h := take_con (BitVec.ofInt 64 x.den) p.den n.den m
    rw [hq] at h
    refine Con.args h (fun R vs ha => ?_) A hs.2
    match vs, ha with
    | [a, b, c], ha =>
      obtain ⟨⟨cs, e, hc⟩, h2, h3, _⟩ := ha
      refine ⟨⟨cs, e, ?_⟩, h2, h3, trivial⟩
      have hc : All2 (SC.ok R) [.f (.int .u64 x)] cs.toList := hc
      show All2 (SC.ok R) [.f (.int .u64 (.o x.den))] cs.toList
      generalize cs.toList = L at hc ⊢
      match L, hc with
      | [w], hc => exact ⟨hc.1, trivial⟩
  · cases h
theorem EX_ok : EnvOk EX := EnvOk.with E0_ok _ _ conX_ok
theorem hF_good {h : Bool} {b : Nat} {π : List (Nat × Nat)} {fs0 fs : List SFr} {m0 m : SMem} {A : SV → SMem → Prop} (hs : subOk b π (hF h fs0) m0 fs m) (hg : Good Tryd.prog A b (headF fs0) m0) : Good Tryd.prog A b fs m := by
  cases h with
  | true => exact Good.of_sub hs hg
  | false => exact Good.of_sub hs (Good.head hg)
/-- A row of pairs. -/
def at0 (cs : Array Value) (off i : Nat) : Int := intAt cs (off + i * 2)
def nn0 (cs : Array Value) (off i : Nat) : Int := intAt cs (off + i * 2 + 1)
structure PrOk (cs : Array Value) (off n : Nat) : Prop where
  sz : off + n * 2 ≤ cs.size
  le : n ≤ 80
  a : ∀ i, i < n → IsInt .i64 cs (off + i * 2)
  b : ∀ i, i < n → IsInt .i64 cs (off + i * 2 + 1)
/-- Each chunk has one to 64 pages. -/
def Small (cs : Array Value) (off n : Nat) : Prop := ∀ i, i < n → 1 ≤ nn0 cs off i ∧ nn0 cs off i ≤ 64
/-- How many pages so many chunks have. -/
def sumN (cs : Array Value) (off : Nat) : Nat → Int
  | 0 => 0
  | k + 1 => sumN cs off k + nn0 cs off k
theorem sumN_le {cs : Array Value} {off n : Nat} (h : Small cs off n) : ∀ k, k ≤ n → (k : Int) ≤ sumN cs off k ∧ sumN cs off k ≤ 64 * k
  | 0, _ => ⟨by simp [sumN], by simp [sumN]⟩
  | k + 1, hk => by
    obtain ⟨h1, h2⟩ := sumN_le h k (by omega)
    obtain ⟨h3, h4⟩ := h k (by omega)
    unfold sumN
    omega
theorem i64w {x : Int} (h : -9223372036854775808 ≤ x ∧ x ≤ 9223372036854775807) : IntKind.i64.wrap x = x := Go.IntWalk.i64_in _ (by omega)
theorem next80 {i n : Nat} (h : i < n) (hn : n ≤ 80) : ari .add .i64 (i : Int) 1 = ((i + 1 : Nat) : Int) := by
  rw [ari_add, i64w (by omega)]
  omega
end Go.Proofs.YtccbfkeigfnibaaDoor
/- Of extent: contracts of functions that only read rows. No condition. -/
namespace Go.Proofs.YtccbfkeigfnibaaDoor
set_option maxRecDepth 100000
theorem Con.ro {E : Env} (hE : EnvOk E) {g : FuncId} {fn : Func} {c : Code} {l l' : List SV} {m ms : SMem} {q : List Prop} {s0 : SV} {A : SV → SMem → Prop} (h1 : E.fn g = some fn) (h2 : fn.body = some c) (hxs : ms.xs = []) (ι : Nat → Nat)
    (hm : ∀ i b, getB ms.bl i = some b → i < ms.next ∧ b.wr = false ∧ ∃ d, getB m.bl (ι i) = some d ∧ b.ty = d.ty ∧ ∀ R cs, d.arr.okM R cs → b.arr.okM (pull ι ms.next R) cs)
    (hl : ∀ R vs, All2 (SV.ok R) l vs → All2 (SV.ok (pull ι ms.next R)) l' vs) (good : (∀ p ∈ q, p) → Good E.P A ms.next [callFr g fn.ntmps l' c] ms)
    (hs : ∀ s m' R R' v, A s m' → s.ok R' v → s0.ok R v) : Con E g l m (needs q (.ret s0 m)) := by
  intro B hB
  obtain ⟨hq, hA⟩ := Tree.sat_needs hB
  refine ⟨fn, h1, by rw [h2]; rfl, fun n0 F w0 w R args ha hR => ?_⟩
  refine (frame_ro (hE.fns _ _ h1).1 h2 (good hq) hxs hm (hl R _ ha) hR).mono ?_
  rintro v w' ⟨k1, k2, s, m', R', k3, k4⟩
  exact ⟨s0, m, R, hA, ⟨fun _ _ h => h, fun _ _ h => .inl h, k2, Nat.le_refl _⟩, k1, hs _ _ _ _ _ k3 k4⟩
theorem rwM_get {v : Bool} {cs : Array Value} {ty : TypeId} {i : Nat} {b : SBlk} (h : getB (rwM v cs ty).bl i = some b) : i = 0 ∧ b = ⟨rwA v cs, ty, false⟩ := by
  unfold getB rwM at h
  cases i with
  | zero => cases h; exact ⟨rfl, rfl⟩
  | succ i =>
    have h : ((Tr.node .nil (some ⟨rwA v cs, ty, false⟩) .nil : Tr SBlk)).get (i + 1) = some b := h
    rw [Tr.get_succ, Tr.get_nil, ite_self] at h
    cases h
noncomputable section
def rowV (m : SMem) (i : Nat) : Option (Bool × Array Value) := match getB m.bl i with
  | some ⟨.raw cs, _, _⟩ => some (true, cs)
  | some ⟨.pop cs, _, _⟩ => some (false, cs)
  | _ => none
end
theorem rowV_of {m : SMem} {i : Nat} {v : Bool} {cs : Array Value} (h : rowV m i = some (v, cs)) : ∃ ty wr, getB m.bl i = some ⟨rwA v cs, ty, wr⟩ := by
  unfold rowV at h
  split at h
  · rename_i e; cases h; exact ⟨_, _, e⟩
  · rename_i e; cases h; exact ⟨_, _, e⟩
  · cases h
/-- A function of an extent, and of more, that only reads. -/
theorem Con.ext {g : FuncId} {fn : Func} {c : Code} {m : SMem} {i : Nat} {v : Bool} {o n : SN} {cap : SK} {x : SI} {cs : Array Value} {r r' : List SV} {q : List Prop} {s0 : SV} {A : SV → SMem → Prop} (h1 : E0.fn g = some fn) (h2 : fn.body = some c) (hr : rowV m i = some (v, cs))
    (hrr : ∀ R R' vs, All2 (SV.ok R) r vs → All2 (SV.ok R') r' vs) (good : ∀ ty, (∀ p ∈ q, p) → Good Tryd.prog A 1 [callFr g fn.ntmps (extS o.den n.den x.den :: r') c] (rwM v cs ty)) (hs : ∀ s m' R R' u, A s m' → s.ok R' u → s0.ok R u) :
    Con E0 g (.s (.agg (.ls [.f (.slice i o n cap), .f (.int .i64 x)])) :: r) m (needs q (.ret s0 m)) := by
  obtain ⟨ty, wr, hb⟩ := rowV_of hr
  refine Con.ro E0_ok (l' := extS o.den n.den x.den :: r') (ms := rwM v cs ty) (A := A) h1 h2 rfl (fun _ => i) ?_ ?_ (good ty) hs
  · intro j b hj
    obtain ⟨rfl, rfl⟩ := rwM_get hj
    refine ⟨Nat.zero_lt_one, rfl, _, hb, rfl, fun R cs' h => ?_⟩
    cases v <;> exact h
  · intro R vs ha
    match vs, ha with
    | u :: us, ha =>
      obtain ⟨⟨ds, e, hd⟩, ht⟩ := ha
      refine ⟨⟨ds, e, ?_⟩, hrr _ _ _ ht⟩
      have hd : All2 (SC.ok R) [.f (.slice i o n cap), .f (.int .i64 x)] ds.toList := hd
      show All2 (SC.ok _) [.f (sl0 o.den n.den), .f (.int .i64 (.o x.den))] ds.toList
      generalize ds.toList = L at hd ⊢
      match L, hd with
      | [a, b], hd =>
        obtain ⟨⟨gl, cp, e1, e2, e3, e4⟩, hb2, _⟩ := hd
        exact ⟨⟨gl, cp, by unfold pull; exact e1, e2, trivial, e4⟩, hb2, trivial⟩
theorem intR_ok {n : Int} {s : SV} {m' : SMem} {R R' : Ren} {v : Value} (h : intR n s m') (hv : s.ok R' v) : (i64 (.o n)).ok R v := by
  unfold intR at h
  split at h
  · have hv : v = .int .i64 _ := hv
    rw [hv, h]; rfl
  · exact h.elim
theorem boolR_ok {b : Bool} {s : SV} {m' : SMem} {R R' : Ren} {v : Value} (h : boolR b s m') (hv : s.ok R' v) : (sB (.o b)).ok R v := by
  unfold boolR at h
  split at h
  · have hv : v = .bool _ := hv
    rw [hv, h]; rfl
  · exact h.elim
end Go.Proofs.YtccbfkeigfnibaaDoor
/- Of extent: Pages: its loop's states. No condition. -/
namespace Go.Proofs.YtccbfkeigfnibaaDoor
noncomputable section
def pgC (off n : Nat) (len : Int) : List SFr := [callFr 16 Tryd.f16.ntmps [extS off n len] (Tryd.f16.body.getD .skip)]
def pgR (off n : Nat) (len : Int) (cs : Array Value) (ty : TypeId) : Tree := run EX 1000 1 (pgC off n len) (rwM false cs ty)
def pgF (off n : Nat) (s i : Int) : List SFr := reTm [tmOf Tryd.f16.ntmps [(3, i64 (.o s)), (7, .s (.c (.f (sl0 off n)))), (8, i64 (.o n)), (9, i64 (.o i))]] (pgR 0 0 0 #[] 0).fsE
def pgS (off n : Nat) (cs : Array Value) (ty : TypeId) (s i : Int) : Tree := stepT EX.go (run EX 1000) 1 (headF (pgF off n s i)) (rwM false cs ty)
def pgN (h : Bool) (off n : Nat) (cs : Array Value) (ty : TypeId) (Q : Int → Int → Prop) (fs : List SFr) (m : SMem) : Prop := match fs with
  | f :: _ => match rdI f 3, rdI f 9 with
    | some s, some i => Q s i ∧ subOk 1 [] (hF h (pgF off n s i)) (rwM false cs ty) fs m
    | _, _ => False
  | [] => False
def pgT : List SIt := headTd (pgF 0 0 0 0)
def pgH : List SIt := headTd (headF (pgF 0 0 0 0))
end
end Go.Proofs.YtccbfkeigfnibaaDoor
/- Of extent: Pages: its loop's rounds, as propositions. No condition. -/
namespace Go.Proofs.YtccbfkeigfnibaaDoor
set_option maxRecDepth 100000
theorem pg_start (off n : Nat) (len : Int) (cs : Array Value) (ty : TypeId) (r : Int) (Q : Int → Int → Prop) : (pgR off n len cs ty).vc (intR r) (pgN false off n cs ty Q) =
    (Q (0 : Int) (0 : Int) ∧ CallKind.normal = CallKind.normal ∧ TodoOk (ren 1 []) pgT pgT ∧ (0 : Int) = (0 : Int) ∧ off = off ∧ n = n ∧ (0 : Int) = (0 : Int) ∧ (↑n : Int) = (↑n : Int) ∧ ty = ty ∧ cs = cs ∧ True) := by kernel_rfl
theorem pg_step (off n : Nat) (cs : Array Value) (ty : TypeId) (s i : Int) (r : Int) (Q : Int → Int → Prop) : (pgS off n cs ty s i).vc (intR r) (pgN true off n cs ty Q) =
    ((decide (i < (↑n : Int)) = true → (((0 : Int) ≤ i ∧ i < (↑n : Int)) ∧ True) ∧ (IsInt IntKind.i64 cs (off + Int.toNat i * 2) ∧ IsInt IntKind.i64 cs (off + Int.toNat i * 2 + 1) ∧ True) ∧ Q (ari BinOp.add IntKind.i64 s (intAt cs (off + Int.toNat i * 2 + 1))) (ari BinOp.add IntKind.i64 i (1 : Int)) ∧ CallKind.normal = CallKind.normal ∧ TodoOk (ren 1 []) pgH pgH ∧ ari BinOp.add IntKind.i64 s (intAt cs (off + Int.toNat i * 2 + 1)) = ari BinOp.add IntKind.i64 s (intAt cs (off + Int.toNat i * 2 + 1)) ∧ off = off ∧ n = n ∧ ari BinOp.add IntKind.i64 i (1 : Int) = ari BinOp.add IntKind.i64 i (1 : Int) ∧ (↑n : Int) = (↑n : Int) ∧ ty = ty ∧ cs = cs ∧ True) ∧ (decide (i < (↑n : Int)) = false → s = r)) := by kernel_rfl
end Go.Proofs.YtccbfkeigfnibaaDoor
/- Of extent: Pages: what it answers. No condition. -/
namespace Go.Proofs.YtccbfkeigfnibaaDoor
set_option maxRecDepth 100000
theorem pgT_ok : TodoOk (ren 1 []) pgT pgT := TodoOk.same (by kernel_rfl)
theorem pgH_ok : TodoOk (ren 1 []) pgH pgH := TodoOk.same (by kernel_rfl)
theorem pgN_good {h : Bool} {off n : Nat} {cs : Array Value} {ty : TypeId} {A : SV → SMem → Prop} {Q : Int → Int → Prop} {fs : List SFr} {m : SMem} (H : ∀ s i, Q s i → Good Tryd.prog A 1 (headF (pgF off n s i)) (rwM false cs ty)) (hb : pgN h off n cs ty Q fs m) : Good Tryd.prog A 1 fs m := by
  unfold pgN at hb
  split at hb
  · split at hb
    · exact hF_good hb.2 (H _ _ hb.1)
    · exact hb.elim
  · exact hb.elim
section
variable {off n : Nat} {cs : Array Value} (ty : TypeId) (h : PrOk cs off n) (hs : Small cs off n)
include h hs
theorem pg_round : ∀ k i : Nat, i + k = n → Good Tryd.prog (intR (sumN cs off n)) 1 (headF (pgF off n (sumN cs off i) i)) (rwM false cs ty) := by
  intro k
  induction k with
  | zero =>
    intro i hi
    obtain rfl : i = n := by omega
    refine past_vc EX_ok 1000 (pg_step off i cs ty (sumN cs off i) i (sumN cs off i) (fun _ _ => False)) ?_ (fun _ _ h => h) (fun fs m hb => pgN_good (fun _ _ h => h.elim) hb)
    refine ⟨fun hd => ?_, fun _ => rfl⟩
    have := of_decide_eq_true hd
    omega
  | succ k ih =>
    intro i hi
    have hi' : i < n := by omega
    have hle := h.le
    have h1 := sumN_le hs i (by omega)
    have h2 := hs i hi'
    refine past_vc EX_ok 1000 (pg_step off n cs ty (sumN cs off i) i (sumN cs off n) (fun s' i' => s' = sumN cs off (i + 1) ∧ i' = ((i + 1 : Nat) : Int))) ?_ (fun _ _ h => h)
      (fun fs m hb => pgN_good (fun s' i' ⟨e1, e2⟩ => by rw [e1, e2]; exact ih (i + 1) (by omega)) hb)
    have hN := next80 hi' hle
    have e : ari .add .i64 (sumN cs off i) (intAt cs (off + i * 2 + 1)) = sumN cs off (i + 1) := by
      rw [ari_add, i64w (by unfold nn0 at h2; omega)]
      rfl
    refine ⟨fun _ => ?_, fun hd => ?_⟩
    · simp only [Int.toNat_natCast, hN, e]
      refine ⟨⟨⟨by omega, by omega⟩, trivial⟩, ⟨h.a i hi', h.b i hi', trivial⟩, ?_⟩
      repeat' first | exact trivial | exact pgH_ok | exact rfl | apply And.intro
    · have := of_decide_eq_false hd
      omega
theorem pg_good (len : Int) : Good Tryd.prog (intR (sumN cs off n)) 1 (pgC off n len) (rwM false cs ty) := by
  refine run_vc EX_ok 1000 (pg_start off n len cs ty (sumN cs off n) (fun s i => s = 0 ∧ i = 0)) ?_ (fun _ _ h => h)
    (fun fs m hb => pgN_good (fun s i ⟨e1, e2⟩ => by rw [e1, e2]; exact pg_round ty h hs n 0 (by omega)) hb)
  repeat' first | exact trivial | exact pgT_ok | exact rfl | apply And.intro
end
theorem pg_con {m : SMem} {i : Nat} {o n : SN} {cap : SK} {x : SI} {cs : Array Value} (hr : rowV m i = some (false, cs)) :
    Con E0 16 [.s (.agg (.ls [.f (.slice i o n cap), .f (.int .i64 x)]))] m (needs [PrOk cs o.den n.den, Small cs o.den n.den] (.ret (i64 (.o (sumN cs o.den n.den))) m)) :=
  Con.ext (r' := []) (by kernel_rfl : E0.fn 16 = some Tryd.f16) (by kernel_rfl : Tryd.f16.body = some (Tryd.f16.body.getD .skip)) hr (fun _ _ vs h => match vs, h with | [], _ => trivial) (A := intR (sumN cs o.den n.den))
    (fun ty hq => pg_good ty (hq _ (by simp)) (hq _ (by simp)) x.den) (fun _ _ _ _ _ => intR_ok)
end Go.Proofs.YtccbfkeigfnibaaDoor
/- Of extent: May: its loop's states. No condition. -/
namespace Go.Proofs.YtccbfkeigfnibaaDoor
noncomputable section
def pgV (m : SMem) (i : Nat) (o n : SN) : Option Tree := match rowV m i with
  | some (false, cs) => some (needs [PrOk cs o.den n.den, Small cs o.den n.den] (.ret (i64 (.o (sumN cs o.den n.den))) m))
  | _ => none
def conY (g : FuncId) (l : List SV) (m : SMem) : Option Tree :=
  match g, l with
  | 16, [.s (.agg (.ls [.f (.slice i o n _), .f (.int .i64 _)]))] => pgV m i o n
  | g, l => conX g l m
def EY : Env := ⟨Tryd.prog, fnOf, conY, fun _ _ x => isLoop x⟩
def myC (off n : Nat) (len : Int) : List SFr := [callFr 9 Tryd.f9.ntmps [extS off n len] (Tryd.f9.body.getD .skip)]
def myR (off n : Nat) (len : Int) (cs : Array Value) (ty : TypeId) : Tree := run EY 1000 1 (myC off n len) (rwM false cs ty)
def u64 (x : Int) : SC := .f (.int .u64 (.o x))
def myF (off n : Nat) (i : Int) : List SFr := reTm [tmOf Tryd.f9.ntmps [(1, ptr 1 (.l 0)), (3, ptr 2 (.l 0)), (10, .s (.c (.f (sl0 off n)))), (11, i64 (.o n)), (12, i64 (.o i))]] (myR 0 0 0 #[] 0).fsE
def myM (off n : Nat) (len : Int) (cs : Array Value) (ty : TypeId) (x : Int) : SMem :=
  ⟨3, (((Tr.nil : Tr SBlk).set 0 (some ⟨.pop cs, ty, false⟩)).set 1 (some ⟨.ls [.f (sl0 off n), .f (.int .i64 (.o len))], 28, true⟩)).set 2 (some ⟨.ls [u64 x], 48, true⟩), []⟩
def myS (off n : Nat) (len : Int) (cs : Array Value) (ty : TypeId) (x i : Int) : Tree := stepT EY.go (run EY 1000) 1 (headF (myF off n i)) (myM off n len cs ty x)
def rdU (m : SMem) (id : Nat) : Option Int := match getB m.bl id with
  | some ⟨.ls [.f (.int .u64 x)], _, _⟩ => some x.den
  | _ => none
def myN (h : Bool) (off n : Nat) (len : Int) (cs : Array Value) (ty : TypeId) (Q : Int → Int → Prop) (fs : List SFr) (m : SMem) : Prop := match fs with
  | f :: _ => match rdI f 12, rdP f 1, rdP f 3 with
    | some i, some p, some q => match rdU m q with
      | some x => Q x i ∧ subOk 1 [(1, p), (2, q)] (hF h (myF off n i)) (myM off n len cs ty x) fs m
      | none => False
    | _, _, _ => False
  | [] => False
def myT : List SIt := headTd (myF 0 0 0)
def myH : List SIt := headTd (headF (myF 0 0 0))
end
theorem conY_ok : ∀ g l m t, conY g l m = some t → Con E0 g l m t := by
  intro g l m t h
  unfold conY at h
  split at h
  · unfold pgV at h
    split at h
    · rename_i e; cases h; exact pg_con e
    · cases h
  · exact conX_ok _ _ _ _ h
theorem EY_ok : EnvOk EY := EnvOk.with E0_ok _ _ conY_ok
end Go.Proofs.YtccbfkeigfnibaaDoor
/- Of extent: May: its loop's rounds, as propositions. No condition. -/
namespace Go.Proofs.YtccbfkeigfnibaaDoor
set_option maxRecDepth 100000
theorem my_start (off n : Nat) (len : Int) (cs : Array Value) (ty : TypeId) (r : Bool) (Q : Int → Int → Prop) : (myR off n len cs ty).vc (boolR r) (myN false off n len cs ty Q) =
    (Q (18446744073709551615 : Int) (0 : Int) ∧ CallKind.normal = CallKind.normal ∧ TodoOk (ren 1 [(1, 1), (2, 2)]) myT myT ∧ (↑n : Int) = (↑n : Int) ∧ (0 : Int) = (0 : Int) ∧ off = off ∧ n = n ∧ ty = ty ∧ cs = cs ∧ (28 : TypeId) = (28 : Nat) ∧ off = off ∧ n = n ∧ len = len ∧ (48 : TypeId) = (48 : Nat) ∧ (18446744073709551615 : Int) = (18446744073709551615 : Int) ∧ True) := by kernel_rfl
theorem my_step (off n : Nat) (len : Int) (cs : Array Value) (ty : TypeId) (x i : Int) (r : Bool) (Q : Int → Int → Prop) : (myS off n len cs ty x i).vc (boolR r) (myN true off n len cs ty Q) =
    ((decide (i < (↑n : Int)) = true → (((0 : Int) ≤ i ∧ i < (↑n : Int)) ∧ True) ∧ (IsInt IntKind.i64 cs (off + Int.toNat i * 2) ∧ IsInt IntKind.i64 cs (off + Int.toNat i * 2 + 1) ∧ True) ∧ (uw (BitVec.ofInt (64 : Nat) x) = x ∧ True) ∧ ((!takeOk (BitVec.ofInt (64 : Nat) x) (intAt cs (off + Int.toNat i * 2)) (intAt cs (off + Int.toNat i * 2 + 1))) = true → false = r) ∧ ((!takeOk (BitVec.ofInt (64 : Nat) x) (intAt cs (off + Int.toNat i * 2)) (intAt cs (off + Int.toNat i * 2 + 1))) = false → Q (uw (takeW (BitVec.ofInt (64 : Nat) x) (intAt cs (off + Int.toNat i * 2)) (intAt cs (off + Int.toNat i * 2 + 1)))) (ari BinOp.add IntKind.i64 i (1 : Int)) ∧ CallKind.normal = CallKind.normal ∧ TodoOk (ren 1 [(1, 1), (2, 2)]) myH myH ∧ (↑n : Int) = (↑n : Int) ∧ ari BinOp.add IntKind.i64 i (1 : Int) = ari BinOp.add IntKind.i64 i (1 : Int) ∧ off = off ∧ n = n ∧ ty = ty ∧ cs = cs ∧ (28 : TypeId) = (28 : TypeId) ∧ off = off ∧ n = n ∧ len = len ∧ (48 : TypeId) = (48 : TypeId) ∧ uw (takeW (BitVec.ofInt (64 : Nat) x) (intAt cs (off + Int.toNat i * 2)) (intAt cs (off + Int.toNat i * 2 + 1))) = uw (takeW (BitVec.ofInt (64 : Nat) x) (intAt cs (off + Int.toNat i * 2)) (intAt cs (off + Int.toNat i * 2 + 1))) ∧ True)) ∧ (decide (i < (↑n : Int)) = false → ((decide (len ≥ (0 : Int)) == true) = true → (PrOk cs off n ∧ Small cs off n ∧ True) ∧ decide (len ≤ ari BinOp.mul IntKind.i64 (sumN cs off n) (32 : Int)) = r) ∧ ((decide (len ≥ (0 : Int)) == true) = false → false = r))) := by kernel_rfl
end Go.Proofs.YtccbfkeigfnibaaDoor
/- Of extent: May: what it answers. No condition. -/
namespace Go.Proofs.YtccbfkeigfnibaaDoor
set_option maxRecDepth 100000
/-- What is left behind so many chunks, and whether each one was there. -/
def tkW (cs : Array Value) (off : Nat) : Nat → BitVec 64
  | 0 => BitVec.allOnes 64
  | i + 1 => takeW (tkW cs off i) (at0 cs off i) (nn0 cs off i)
def tkOk (cs : Array Value) (off : Nat) : Nat → Bool
  | 0 => true
  | i + 1 => tkOk cs off i && takeOk (tkW cs off i) (at0 cs off i) (nn0 cs off i)
def mayE (cs : Array Value) (off n : Nat) (len : Int) : Bool := tkOk cs off n && (decide (0 ≤ len) && decide (len ≤ 32 * sumN cs off n))
theorem tkOk_mono {cs : Array Value} {off : Nat} : ∀ {n i : Nat}, i ≤ n → tkOk cs off n = true → tkOk cs off i = true
  | 0, i, h, k => by
    obtain rfl : i = 0 := by omega
    exact k
  | n + 1, i, h, k => by
    by_cases e : i = n + 1
    · rw [e]; exact k
    · unfold tkOk at k
      rw [Bool.and_eq_true] at k
      exact tkOk_mono (by omega) k.1
theorem takeOk_may {X : BitVec 64} {p n : Int} (h : takeOk X p n = true) : 1 ≤ n ∧ 0 ≤ p ∧ p < 64 ∧ n ≤ 64 - p := by
  unfold takeOk at h
  rw [Bool.and_eq_true] at h
  exact mayB_iff.1 h.1
theorem tkOk_one {cs : Array Value} {off n i : Nat} (h : tkOk cs off n = true) (hi : i < n) : takeOk (tkW cs off i) (at0 cs off i) (nn0 cs off i) = true := by
  have := tkOk_mono (i := i + 1) (by omega) h
  unfold tkOk at this
  rw [Bool.and_eq_true] at this
  exact this.2
theorem tkOk_small {cs : Array Value} {off n : Nat} (h : tkOk cs off n = true) : Small cs off n := fun i hi => by
  have := takeOk_may (tkOk_one h hi)
  omega
theorem mayE_iff {cs : Array Value} {off n : Nat} {len : Int} : mayE cs off n len = true ↔ tkOk cs off n = true ∧ 0 ≤ len ∧ len ≤ 32 * sumN cs off n := by
  unfold mayE
  simp only [Bool.and_eq_true, decide_eq_true_eq]
theorem ofInt_uw' (X : BitVec 64) : BitVec.ofInt 64 (uw X) = X := ofInt_uw X
theorem myT_ok : TodoOk (ren 1 [(1, 1), (2, 2)]) myT myT := TodoOk.same (by kernel_rfl)
theorem myH_ok : TodoOk (ren 1 [(1, 1), (2, 2)]) myH myH := TodoOk.same (by kernel_rfl)
theorem myN_good {h : Bool} {off n : Nat} {len : Int} {cs : Array Value} {ty : TypeId} {A : SV → SMem → Prop} {Q : Int → Int → Prop} {fs : List SFr} {m : SMem} (H : ∀ x i, Q x i → Good Tryd.prog A 1 (headF (myF off n i)) (myM off n len cs ty x)) (hb : myN h off n len cs ty Q fs m) : Good Tryd.prog A 1 fs m := by
  unfold myN at hb
  split at hb
  · split at hb
    · split at hb
      · exact hF_good hb.2 (H _ _ hb.1)
      · exact hb.elim
    · exact hb.elim
  · exact hb.elim
section
variable {off n : Nat} {cs : Array Value} (ty : TypeId) (len : Int) (h : PrOk cs off n)
include h
theorem my_round : ∀ k i : Nat, i + k = n → tkOk cs off i = true → Good Tryd.prog (boolR (mayE cs off n len)) 1 (headF (myF off n i)) (myM off n len cs ty (uw (tkW cs off i))) := by
  intro k
  induction k with
  | zero =>
    intro i hi hk
    obtain rfl : i = n := by omega
    have hs := tkOk_small hk
    refine past_vc EY_ok 1000 (my_step off i len cs ty (uw (tkW cs off i)) i (mayE cs off i len) (fun _ _ => False)) ?_ (fun _ _ h => h) (fun fs m hb => myN_good (fun _ _ h => h.elim) hb)
    have hsum := sumN_le hs i (Nat.le_refl _)
    have hle := h.le
    refine ⟨fun hd => ?_, fun _ => ⟨fun hl => ⟨⟨h, hs, trivial⟩, ?_⟩, fun hl => ?_⟩⟩
    · have := of_decide_eq_true hd
      omega
    · have hl : 0 ≤ len := by simpa using hl
      rw [ari_mul, i64w (by omega)]
      unfold mayE
      rw [hk, Bool.true_and, decide_eq_true hl, Bool.true_and, Int.mul_comm]
    · have hl : ¬ 0 ≤ len := by simpa using hl
      unfold mayE
      rw [decide_eq_false hl, Bool.false_and, Bool.and_false]
  | succ k ih =>
    intro i hi hk
    have hi' : i < n := by omega
    have hN := next80 hi' h.le
    refine past_vc EY_ok 1000 (my_step off n len cs ty (uw (tkW cs off i)) i (mayE cs off n len) (fun x' i' => x' = uw (tkW cs off (i + 1)) ∧ i' = ((i + 1 : Nat) : Int) ∧ tkOk cs off (i + 1) = true)) ?_ (fun _ _ h => h)
      (fun fs m hb => myN_good (fun x' i' ⟨e1, e2, e3⟩ => by rw [e1, e2]; exact ih (i + 1) (by omega) e3) hb)
    refine ⟨fun _ => ?_, fun hd => ?_⟩
    · simp only [Int.toNat_natCast, hN, ofInt_uw']
      have ea : intAt cs (off + i * 2) = at0 cs off i := rfl
      have eb : intAt cs (off + i * 2 + 1) = nn0 cs off i := rfl
      simp only [ea, eb]
      refine ⟨⟨⟨by omega, by omega⟩, trivial⟩, ⟨h.a i hi', h.b i hi', trivial⟩, ⟨trivial, trivial⟩, fun hf => ?_, fun ht => ?_⟩
      · have hf : takeOk (tkW cs off i) (at0 cs off i) (nn0 cs off i) = false := by simpa using hf
        cases e : mayE cs off n len with
        | false => rfl
        | true =>
          have := tkOk_one (mayE_iff.1 e).1 hi'
          rw [hf] at this
          cases this
      · have ht : takeOk (tkW cs off i) (at0 cs off i) (nn0 cs off i) = true := by simpa using ht
        have hk' : tkOk cs off (i + 1) = true := by unfold tkOk; rw [hk, ht]; rfl
        repeat' first | exact trivial | exact hk' | exact myH_ok | exact rfl | apply And.intro
    · have := of_decide_eq_false hd
      omega
theorem my_good : Good Tryd.prog (boolR (mayE cs off n len)) 1 (myC off n len) (rwM false cs ty) := by
  refine run_vc EY_ok 1000 (my_start off n len cs ty (mayE cs off n len) (fun x i => x = uw (tkW cs off 0) ∧ i = 0)) ?_ (fun _ _ h => h)
    (fun fs m hb => myN_good (fun x i ⟨e1, e2⟩ => by rw [e1, e2]; exact my_round ty len h n 0 (by omega) rfl) hb)
  repeat' first | exact trivial | exact myT_ok | exact rfl | apply And.intro
end
theorem my_con {m : SMem} {i : Nat} {o n : SN} {cap : SK} {x : SI} {cs : Array Value} (hr : rowV m i = some (false, cs)) :
    Con E0 9 [.s (.agg (.ls [.f (.slice i o n cap), .f (.int .i64 x)]))] m (needs [PrOk cs o.den n.den] (.ret (sB (.o (mayE cs o.den n.den x.den))) m)) :=
  Con.ext (r' := []) (by kernel_rfl : E0.fn 9 = some Tryd.f9) (by kernel_rfl : Tryd.f9.body = some (Tryd.f9.body.getD .skip)) hr (fun _ _ vs h => match vs, h with | [], _ => trivial) (A := boolR (mayE cs o.den n.den x.den))
    (fun ty hq => my_good ty x.den (hq _ (by simp))) (fun _ _ _ _ _ => boolR_ok)
end Go.Proofs.YtccbfkeigfnibaaDoor
/- Of extent: the document's May: its loops' states. No condition. -/
namespace Go.Proofs.YtccbfkeigfnibaaDoor
noncomputable section
def lid : List SFr → Nat
  | f :: _ => match f.todo with
    | x :: _ => loopId x
    | [] => 0
  | [] => 0
def mrC (off n : Nat) (len : Int) : List SFr := [callFr 10 Tryd.f10.ntmps [extS off n len] (Tryd.f10.body.getD .skip)]
def mrR (off n : Nat) (len : Int) (cs : Array Value) (ty : TypeId) : Tree := run EX 1000 1 (mrC off n len) (rwM true cs ty)
def mrF (s i : Int) : List SFr := reTm [tmOf Tryd.f10.ntmps [(1, ptr 1 (.l 0)), (3, ptr 2 (.l 0)), (4, i64 (.o s)), (5, i64 (.o i))]] ((mrR 0 0 0 #[] 0).fsAt 4)
def mrM (off n : Nat) (len : Int) (cs : Array Value) (ty : TypeId) (bs : Array Value) : SMem :=
  ⟨3, (((Tr.nil : Tr SBlk).set 0 (some ⟨.raw cs, ty, false⟩)).set 1 (some ⟨.ls [.f (sl0 off n), .f (.int .i64 (.o len))], 24, true⟩)).set 2 (some ⟨.op bs, 57, true⟩), []⟩
def mrS (off n : Nat) (len : Int) (cs : Array Value) (ty : TypeId) (s i : Int) (bs : Array Value) : Tree := stepT EX.go (run EX 1000) 1 (headF (mrF s i)) (mrM off n len cs ty bs)
def mqF (s i a k p : Int) : List SFr := reTm [tmOf Tryd.f10.ntmps [(1, ptr 1 (.l 0)), (3, ptr 2 (.l 0)), (4, i64 (.o s)), (5, i64 (.o i)), (6, i64 (.o a)), (7, i64 (.o k)), (8, i64 (.o p))]] ((mrS 0 0 0 #[] 0 0 0 #[]).fsAt 10)
def mqS (off n : Nat) (len : Int) (cs : Array Value) (ty : TypeId) (s i a k p : Int) (bs : Array Value) : Tree := stepT EX.go (run EX 1000) 1 (headF (mqF s i a k p)) (mrM off n len cs ty bs)
def mrN (h : Bool) (off n : Nat) (len : Int) (cs : Array Value) (ty : TypeId) (Q : Int → Int → Array Value → Prop) (fs : List SFr) (m : SMem) : Prop := match fs with
  | f :: _ => match rdI f 4, rdI f 5, rdP f 1, rdP f 3 with
    | some s, some i, some p, some q => match rdA m q with
      | some bs => Q s i bs ∧ subOk 1 [(1, p), (2, q)] (hF h (mrF s i)) (mrM off n len cs ty bs) fs m
      | none => False
    | _, _, _, _ => False
  | [] => False
def mqN (h : Bool) (off n : Nat) (len : Int) (cs : Array Value) (ty : TypeId) (Q : Int → Int → Int → Int → Int → Array Value → Prop) (fs : List SFr) (m : SMem) : Prop := match fs with
  | f :: _ => match rdI f 4, rdI f 5, rdI f 6, rdI f 7, rdI f 8 with
    | some s, some i, some a, some k, some p => match rdP f 1, rdP f 3 with
      | some x, some q => match rdA m q with
        | some bs => Q s i a k p bs ∧ subOk 1 [(1, x), (2, q)] (hF h (mqF s i a k p)) (mrM off n len cs ty bs) fs m
        | none => False
      | _, _ => False
    | _, _, _, _, _ => False
  | [] => False
def mrA (h : Bool) (off n : Nat) (len : Int) (cs : Array Value) (ty : TypeId) (Q : Int → Int → Array Value → Prop) (Q2 : Int → Int → Int → Int → Int → Array Value → Prop) (fs : List SFr) (m : SMem) : Prop := match Nat.beq (lid fs) 10 with
  | true => mqN h off n len cs ty Q2 fs m
  | false => mrN true off n len cs ty Q fs m
def mrT : List SIt := headTd (mrF 0 0)
def mrH : List SIt := headTd (headF (mrF 0 0))
def mqT : List SIt := headTd (mqF 0 0 0 0 0)
def mqH : List SIt := headTd (headF (mqF 0 0 0 0 0))
end
end Go.Proofs.YtccbfkeigfnibaaDoor
/- Of extent: the document's May: its loops' rounds, as propositions. No condition. -/
namespace Go.Proofs.YtccbfkeigfnibaaDoor
set_option maxRecDepth 100000
theorem mr_start (off n : Nat) (len : Int) (cs : Array Value) (ty : TypeId) (r : Bool) (Q : Int → Int → Array Value → Prop) : (mrR off n len cs ty).vc (boolR r) (mrN false off n len cs ty Q) =
    (Q (0 : Int) (0 : Int) #[Value.bool false, Value.bool false, Value.bool false, Value.bool false, Value.bool false, Value.bool false, Value.bool false, Value.bool false, Value.bool false, Value.bool false, Value.bool false, Value.bool false, Value.bool false, Value.bool false, Value.bool false, Value.bool false, Value.bool false, Value.bool false, Value.bool false, Value.bool false, Value.bool false, Value.bool false, Value.bool false, Value.bool false, Value.bool false, Value.bool false, Value.bool false, Value.bool false, Value.bool false, Value.bool false, Value.bool false, Value.bool false, Value.bool false, Value.bool false, Value.bool false, Value.bool false, Value.bool false, Value.bool false, Value.bool false, Value.bool false, Value.bool false, Value.bool false, Value.bool false, Value.bool false, Value.bool false, Value.bool false, Value.bool false, Value.bool false, Value.bool false, Value.bool false, Value.bool false, Value.bool false, Value.bool false, Value.bool false, Value.bool false, Value.bool false, Value.bool false, Value.bool false, Value.bool false, Value.bool false, Value.bool false, Value.bool false, Value.bool false, Value.bool false] ∧ CallKind.normal = CallKind.normal ∧ TodoOk (ren 1 [(1, 1), (2, 2)]) mrT mrT ∧ (0 : Int) = (0 : Int) ∧ (0 : Int) = (0 : Int) ∧ ty = ty ∧ cs = cs ∧ (24 : TypeId) = (24 : Nat) ∧ off = off ∧ n = n ∧ len = len ∧ (57 : TypeId) = (57 : Nat) ∧ #[Value.bool false, Value.bool false, Value.bool false, Value.bool false, Value.bool false, Value.bool false, Value.bool false, Value.bool false, Value.bool false, Value.bool false, Value.bool false, Value.bool false, Value.bool false, Value.bool false, Value.bool false, Value.bool false, Value.bool false, Value.bool false, Value.bool false, Value.bool false, Value.bool false, Value.bool false, Value.bool false, Value.bool false, Value.bool false, Value.bool false, Value.bool false, Value.bool false, Value.bool false, Value.bool false, Value.bool false, Value.bool false, Value.bool false, Value.bool false, Value.bool false, Value.bool false, Value.bool false, Value.bool false, Value.bool false, Value.bool false, Value.bool false, Value.bool false, Value.bool false, Value.bool false, Value.bool false, Value.bool false, Value.bool false, Value.bool false, Value.bool false, Value.bool false, Value.bool false, Value.bool false, Value.bool false, Value.bool false, Value.bool false, Value.bool false, Value.bool false, Value.bool false, Value.bool false, Value.bool false, Value.bool false, Value.bool false, Value.bool false, Value.bool false] = #[Value.bool false, Value.bool false, Value.bool false, Value.bool false, Value.bool false, Value.bool false, Value.bool false, Value.bool false, Value.bool false, Value.bool false, Value.bool false, Value.bool false, Value.bool false, Value.bool false, Value.bool false, Value.bool false, Value.bool false, Value.bool false, Value.bool false, Value.bool false, Value.bool false, Value.bool false, Value.bool false, Value.bool false, Value.bool false, Value.bool false, Value.bool false, Value.bool false, Value.bool false, Value.bool false, Value.bool false, Value.bool false, Value.bool false, Value.bool false, Value.bool false, Value.bool false, Value.bool false, Value.bool false, Value.bool false, Value.bool false, Value.bool false, Value.bool false, Value.bool false, Value.bool false, Value.bool false, Value.bool false, Value.bool false, Value.bool false, Value.bool false, Value.bool false, Value.bool false, Value.bool false, Value.bool false, Value.bool false, Value.bool false, Value.bool false, Value.bool false, Value.bool false, Value.bool false, Value.bool false, Value.bool false, Value.bool false, Value.bool false, Value.bool false] ∧ True) := by kernel_rfl
theorem mr_step (off n : Nat) (len : Int) (cs : Array Value) (ty : TypeId) (s i : Int) (bs : Array Value) (r : Bool) (Q : Int → Int → Array Value → Prop) (Q2 : Int → Int → Int → Int → Int → Array Value → Prop) : (mrS off n len cs ty s i bs).vc (boolR r) (mrA false off n len cs ty Q Q2) =
    ((decide (i < (↑n : Int)) = true → (((0 : Int) ≤ i ∧ i < (↑n : Int)) ∧ True) ∧ (IsInt IntKind.i64 cs (off + Int.toNat i * 2) ∧ True) ∧ (((0 : Int) ≤ i ∧ i < (↑n : Int)) ∧ True) ∧ (IsInt IntKind.i64 cs (off + Int.toNat i * 2 + 1) ∧ True) ∧ ((decide (intAt cs (off + Int.toNat i * 2 + 1) < (1 : Int)) == false) = true → ((decide (intAt cs (off + Int.toNat i * 2 + 1) > (64 : Int)) == false) = true → ((decide (intAt cs (off + Int.toNat i * 2) < (0 : Int)) == false) = true → ((decide (intAt cs (off + Int.toNat i * 2) > (63 : Int)) == false) = true → (decide (ari BinOp.add IntKind.i64 (intAt cs (off + Int.toNat i * 2)) (intAt cs (off + Int.toNat i * 2 + 1)) > (64 : Int)) = true → false = r) ∧ (decide (ari BinOp.add IntKind.i64 (intAt cs (off + Int.toNat i * 2)) (intAt cs (off + Int.toNat i * 2 + 1)) > (64 : Int)) = false → Q2 s i (intAt cs (off + Int.toNat i * 2)) (intAt cs (off + Int.toNat i * 2 + 1)) (intAt cs (off + Int.toNat i * 2)) bs ∧ CallKind.normal = CallKind.normal ∧ TodoOk (ren 1 [(1, 1), (2, 2)]) mqT mqT ∧ intAt cs (off + Int.toNat i * 2 + 1) = intAt cs (off + Int.toNat i * 2 + 1) ∧ i = i ∧ s = s ∧ intAt cs (off + Int.toNat i * 2) = intAt cs (off + Int.toNat i * 2) ∧ intAt cs (off + Int.toNat i * 2) = intAt cs (off + Int.toNat i * 2) ∧ ty = ty ∧ cs = cs ∧ (24 : TypeId) = (24 : TypeId) ∧ off = off ∧ n = n ∧ len = len ∧ (57 : TypeId) = (57 : TypeId) ∧ bs = bs ∧ True)) ∧ ((decide (intAt cs (off + Int.toNat i * 2) > (63 : Int)) == false) = false → false = r)) ∧ ((decide (intAt cs (off + Int.toNat i * 2) < (0 : Int)) == false) = false → false = r)) ∧ ((decide (intAt cs (off + Int.toNat i * 2 + 1) > (64 : Int)) == false) = false → false = r)) ∧ ((decide (intAt cs (off + Int.toNat i * 2 + 1) < (1 : Int)) == false) = false → false = r)) ∧ (decide (i < (↑n : Int)) = false → ((decide (len ≥ (0 : Int)) == true) = true → decide (len ≤ ari BinOp.mul IntKind.i64 (32 : Int) s) = r) ∧ ((decide (len ≥ (0 : Int)) == true) = false → false = r))) := by kernel_rfl
theorem mq_step (off n : Nat) (len : Int) (cs : Array Value) (ty : TypeId) (s i a k p : Int) (bs : Array Value) (r : Bool) (Q : Int → Int → Array Value → Prop) (Q2 : Int → Int → Int → Int → Int → Array Value → Prop) : (mqS off n len cs ty s i a k p bs).vc (boolR r) (mrA true off n len cs ty Q Q2) =
    ((decide (p < ari BinOp.add IntKind.i64 a k) = true → (((0 : Int) ≤ p ∧ p < (64 : Int)) ∧ True) ∧ (IsBool bs ((0 : Nat) + Int.toNat p * 1) ∧ True) ∧ (boolAt bs ((0 : Nat) + Int.toNat p * 1) = true → false = r) ∧ (boolAt bs ((0 : Nat) + Int.toNat p * 1) = false → (((0 : Int) ≤ p ∧ p < (64 : Int)) ∧ True) ∧ ((0 : Nat) + Int.toNat p * 1 < Array.size bs ∧ True) ∧ Q2 s i a k (ari BinOp.add IntKind.i64 p (1 : Int)) (Array.setIfInBounds bs ((0 : Nat) + Int.toNat p * 1) (Value.bool true)) ∧ CallKind.normal = CallKind.normal ∧ TodoOk (ren 1 [(1, 1), (2, 2)]) mqH mqH ∧ k = k ∧ i = i ∧ s = s ∧ ari BinOp.add IntKind.i64 p (1 : Int) = ari BinOp.add IntKind.i64 p (1 : Int) ∧ a = a ∧ ty = ty ∧ cs = cs ∧ (24 : TypeId) = (24 : TypeId) ∧ off = off ∧ n = n ∧ len = len ∧ (57 : TypeId) = (57 : TypeId) ∧ Array.setIfInBounds bs ((0 : Nat) + Int.toNat p * 1) (Value.bool true) = Array.setIfInBounds bs ((0 : Nat) + Int.toNat p * 1) (Value.bool true) ∧ True)) ∧ (decide (p < ari BinOp.add IntKind.i64 a k) = false → Q (ari BinOp.add IntKind.i64 s k) (ari BinOp.add IntKind.i64 i (1 : Int)) bs ∧ CallKind.normal = CallKind.normal ∧ TodoOk (ren 1 [(1, 1), (2, 2)]) mrH mrH ∧ ari BinOp.add IntKind.i64 i (1 : Int) = ari BinOp.add IntKind.i64 i (1 : Int) ∧ ari BinOp.add IntKind.i64 s k = ari BinOp.add IntKind.i64 s k ∧ ty = ty ∧ cs = cs ∧ (24 : TypeId) = (24 : TypeId) ∧ off = off ∧ n = n ∧ len = len ∧ (57 : TypeId) = (57 : TypeId) ∧ bs = bs ∧ True)) := by kernel_rfl
end Go.Proofs.YtccbfkeigfnibaaDoor
/- Of extent: the document's May: what it answers. No condition. -/
namespace Go.Proofs.YtccbfkeigfnibaaDoor
set_option maxRecDepth 100000
theorem mrT_ok : TodoOk (ren 1 [(1, 1), (2, 2)]) mrT mrT := TodoOk.same (by kernel_rfl)
theorem mrH_ok : TodoOk (ren 1 [(1, 1), (2, 2)]) mrH mrH := TodoOk.same (by kernel_rfl)
theorem mqT_ok : TodoOk (ren 1 [(1, 1), (2, 2)]) mqT mqT := TodoOk.same (by kernel_rfl)
theorem mqH_ok : TodoOk (ren 1 [(1, 1), (2, 2)]) mqH mqH := TodoOk.same (by kernel_rfl)
section
variable {h : Bool} {off n : Nat} {len : Int} {cs : Array Value} {ty : TypeId} {A : SV → SMem → Prop} {fs : List SFr} {m : SMem}
theorem mrN_good {Q : Int → Int → Array Value → Prop} (H : ∀ s i bs, Q s i bs → Good Tryd.prog A 1 (headF (mrF s i)) (mrM off n len cs ty bs)) (hb : mrN h off n len cs ty Q fs m) : Good Tryd.prog A 1 fs m := by
  unfold mrN at hb
  split at hb
  · split at hb
    · split at hb
      · exact hF_good hb.2 (H _ _ _ hb.1)
      · exact hb.elim
    · exact hb.elim
  · exact hb.elim
theorem mqN_good {Q : Int → Int → Int → Int → Int → Array Value → Prop} (H : ∀ s i a k p bs, Q s i a k p bs → Good Tryd.prog A 1 (headF (mqF s i a k p)) (mrM off n len cs ty bs)) (hb : mqN h off n len cs ty Q fs m) : Good Tryd.prog A 1 fs m := by
  unfold mqN at hb
  split at hb
  · split at hb
    · split at hb
      · split at hb
        · exact hF_good hb.2 (H _ _ _ _ _ _ hb.1)
        · exact hb.elim
      · exact hb.elim
    · exact hb.elim
  · exact hb.elim
theorem mrA_good {Q : Int → Int → Array Value → Prop} {Q2 : Int → Int → Int → Int → Int → Array Value → Prop} (H : ∀ s i bs, Q s i bs → Good Tryd.prog A 1 (headF (mrF s i)) (mrM off n len cs ty bs))
    (H2 : ∀ s i a k p bs, Q2 s i a k p bs → Good Tryd.prog A 1 (headF (mqF s i a k p)) (mrM off n len cs ty bs)) (hb : mrA h off n len cs ty Q Q2 fs m) : Good Tryd.prog A 1 fs m := by
  unfold mrA at hb
  split at hb
  · exact mqN_good H2 hb
  · exact mrN_good H hb
end
/-- The pages that are taken: those that are not left, and those of a run so far. -/
def TkB (bs : Array Value) (X : BitVec 64) (a p : Nat) : Prop := bs.size = 64 ∧ ∀ q, q < 64 → bs[q]? = some (.bool (!X.getLsbD q || decide (a ≤ q ∧ q < p)))
theorem bool_at {bs : Array Value} {q : Nat} {b : Bool} (h : bs[q]? = some (.bool b)) : boolAt bs q = b ∧ IsBool bs q := by
  have e : boolAt bs q = b := by unfold boolAt; rw [h]
  refine ⟨e, ?_⟩
  unfold IsBool
  rw [e]
  exact h
theorem tkB_start {bs : Array Value} {X : BitVec 64} (a : Nat) (h : TkB bs X 0 0) : TkB bs X a a := ⟨h.1, fun q hq => by
  rw [h.2 q hq, decide_eq_false (by omega), decide_eq_false (by omega)]⟩
theorem tkB_step {bs : Array Value} {X : BitVec 64} {a p : Nat} (h : TkB bs X a p) (ha : a ≤ p) (hp : p < 64) : TkB (bs.setIfInBounds p (.bool true)) X a (p + 1) := ⟨by rw [Array.size_setIfInBounds]; exact h.1, fun q hq => by
  have hs := h.1
  by_cases e : p = q
  · subst e
    rw [Array.getElem?_setIfInBounds_self_of_lt (by omega), decide_eq_true (by omega), Bool.or_true]
  · rw [Array.getElem?_setIfInBounds_ne e, h.2 q hq]
    rw [show decide (a ≤ q ∧ q < p + 1) = decide (a ≤ q ∧ q < p) from decide_eq_decide.2 (by omega)]⟩
theorem takeW_bit {X : BitVec 64} {p n : Int} (h : takeOk X p n = true) (q : Nat) (hq : q < 64) : (takeW X p n).getLsbD q = (X.getLsbD q && !decide (p.toNat ≤ q ∧ q < p.toNat + n.toNat)) := by
  have hm := takeOk_may h
  unfold takeW
  rw [if_pos h, BitVec.getLsbD_and, BitVec.getLsbD_not, spanW_bit _ _ _ (by omega), decide_eq_true hq, Bool.true_and]
theorem tkB_done {bs : Array Value} {X : BitVec 64} {p n : Int} (h : TkB bs X p.toNat (p.toNat + n.toNat)) (hk : takeOk X p n = true) : TkB bs (takeW X p n) 0 0 := ⟨h.1, fun q hq => by
  rw [h.2 q hq, takeW_bit hk q hq, decide_eq_false (show ¬ (0 ≤ q ∧ q < 0) by omega), Bool.or_false]
  cases X.getLsbD q <;> simp⟩
section
variable {off n : Nat} {cs : Array Value} (ty : TypeId) (len : Int) (h : PrOk cs off n)
include h
theorem mq_round {i : Nat} (hi : i < n) (hk : tkOk cs off i = true) (hm : mayB (at0 cs off i) (nn0 cs off i) = true)
    (ih : ∀ bs, tkOk cs off (i + 1) = true → TkB bs (tkW cs off (i + 1)) 0 0 → Good Tryd.prog (boolR (mayE cs off n len)) 1 (headF (mrF (sumN cs off (i + 1)) ((i + 1 : Nat) : Int))) (mrM off n len cs ty bs)) :
    ∀ (k p : Nat) (bs : Array Value), p + k = (at0 cs off i).toNat + (nn0 cs off i).toNat → (at0 cs off i).toNat ≤ p → TkB bs (tkW cs off i) (at0 cs off i).toNat p → (∀ q, (at0 cs off i).toNat ≤ q → q < p → (tkW cs off i).getLsbD q = true) →
      Good Tryd.prog (boolR (mayE cs off n len)) 1 (headF (mqF (sumN cs off i) i (at0 cs off i) (nn0 cs off i) p)) (mrM off n len cs ty bs) := by
  have hm' := mayB_iff.1 hm
  have hsm := tkOk_small hk
  have hsum := sumN_le hsm i (Nat.le_refl _)
  have hle := h.le
  have hN := next80 hi hle
  have eA : ari .add .i64 (at0 cs off i) (nn0 cs off i) = at0 cs off i + nn0 cs off i := by rw [ari_add, i64w (by omega)]
  have eS : ari .add .i64 (sumN cs off i) (nn0 cs off i) = sumN cs off (i + 1) := by rw [ari_add, i64w (by omega)]; rfl
  intro k
  induction k with
  | zero =>
    intro p bs hp hap hT hb
    have hok : takeOk (tkW cs off i) (at0 cs off i) (nn0 cs off i) = true := by
      unfold takeOk
      rw [hm, Bool.true_and, allIn_iff (by omega)]
      exact fun q h1 h2 => hb q h1 (by omega)
    have hk' : tkOk cs off (i + 1) = true := by unfold tkOk; rw [hk, hok]; rfl
    have hT' : TkB bs (tkW cs off (i + 1)) 0 0 := tkB_done (by rw [show (at0 cs off i).toNat + (nn0 cs off i).toNat = p by omega]; exact hT) hok
    refine past_vc EX_ok 1000 (mq_step off n len cs ty (sumN cs off i) i (at0 cs off i) (nn0 cs off i) p bs (mayE cs off n len) (fun s' i' bs' => s' = sumN cs off (i + 1) ∧ i' = ((i + 1 : Nat) : Int) ∧ bs' = bs) (fun _ _ _ _ _ _ => False)) ?_ (fun _ _ h => h)
      (fun fs m hb => mrA_good (fun s' i' bs' ⟨e1, e2, e3⟩ => by rw [e1, e2, e3]; exact ih bs hk' hT') (fun _ _ _ _ _ _ h => h.elim) hb)
    refine ⟨fun hd => ?_, fun _ => ?_⟩
    · have := of_decide_eq_true hd
      rw [eA] at this
      omega
    · rw [eS, hN]
      repeat' first | exact trivial | exact mrH_ok | exact rfl | apply And.intro
  | succ k ihk =>
    intro p bs hp hap hT hb
    have hp64 : p < 64 := by omega
    have hbit := bool_at (hT.2 p hp64)
    rw [decide_eq_false (by omega), Bool.or_false] at hbit
    have eP : ari .add .i64 (p : Int) 1 = ((p + 1 : Nat) : Int) := by rw [ari_add, i64w (by omega)]; omega
    refine past_vc EX_ok 1000 (mq_step off n len cs ty (sumN cs off i) i (at0 cs off i) (nn0 cs off i) p bs (mayE cs off n len) (fun _ _ _ => False)
      (fun s' i' a' k' p' bs' => s' = sumN cs off i ∧ i' = (i : Int) ∧ a' = at0 cs off i ∧ k' = nn0 cs off i ∧ p' = ((p + 1 : Nat) : Int) ∧ bs' = bs.setIfInBounds p (.bool true) ∧ (tkW cs off i).getLsbD p = true)) ?_ (fun _ _ h => h)
      (fun fs m hb' => mrA_good (fun _ _ _ h => h.elim) (fun s' i' a' k' p' bs' ⟨e1, e2, e3, e4, e5, e6, e7⟩ => by
        rw [e1, e2, e3, e4, e5, e6]
        exact ihk (p + 1) _ (by omega) (by omega) (tkB_step hT hap hp64) fun q h1 h2 => by
          by_cases e : q = p
          · rw [e]; exact e7
          · exact hb q h1 (by omega)) hb')
    have hs := hT.1
    refine ⟨fun _ => ?_, fun hd => ?_⟩
    · simp only [Int.toNat_natCast, Nat.zero_add, Nat.mul_one, eP, hbit.1]
      refine ⟨⟨⟨by omega, by omega⟩, trivial⟩, ⟨hbit.2, trivial⟩, fun hf => ?_, fun ht => ⟨⟨⟨by omega, by omega⟩, trivial⟩, ⟨by omega, trivial⟩, ?_⟩⟩
      · have hf : (tkW cs off i).getLsbD p = false := by simpa using hf
        cases e : mayE cs off n len with
        | false => rfl
        | true =>
          have := tkOk_one (mayE_iff.1 e).1 hi
          unfold takeOk at this
          rw [hm, Bool.true_and, allIn_iff (by omega)] at this
          have := this p hap (by omega)
          rw [hf] at this
          cases this
      · have ht : (tkW cs off i).getLsbD p = true := by simpa using ht
        repeat' first | exact trivial | exact ht | exact mqH_ok | exact rfl | apply And.intro
    · have := of_decide_eq_false hd
      rw [eA] at this
      omega
theorem mr_round : ∀ (k i : Nat) (bs : Array Value), i + k = n → tkOk cs off i = true → TkB bs (tkW cs off i) 0 0 → Good Tryd.prog (boolR (mayE cs off n len)) 1 (headF (mrF (sumN cs off i) i)) (mrM off n len cs ty bs) := by
  intro k
  induction k with
  | zero =>
    intro i bs hi hk hT
    obtain rfl : i = n := by omega
    have hs := tkOk_small hk
    have hsum := sumN_le hs i (Nat.le_refl _)
    have hle := h.le
    refine past_vc EX_ok 1000 (mr_step off i len cs ty (sumN cs off i) i bs (mayE cs off i len) (fun _ _ _ => False) (fun _ _ _ _ _ _ => False)) ?_ (fun _ _ h => h)
      (fun fs m hb => mrA_good (fun _ _ _ h => h.elim) (fun _ _ _ _ _ _ h => h.elim) hb)
    refine ⟨fun hd => ?_, fun _ => ⟨fun hl => ?_, fun hl => ?_⟩⟩
    · have := of_decide_eq_true hd
      omega
    · have hl : 0 ≤ len := by simpa using hl
      rw [ari_mul, i64w (by omega)]
      unfold mayE
      rw [hk, Bool.true_and, decide_eq_true hl, Bool.true_and]
    · have hl : ¬ 0 ≤ len := by simpa using hl
      unfold mayE
      rw [decide_eq_false hl, Bool.false_and, Bool.and_false]
  | succ k ih =>
    intro i bs hi hk hT
    have hi' : i < n := by omega
    have hno : mayB (at0 cs off i) (nn0 cs off i) = false → false = mayE cs off n len := fun hf => by
      cases e : mayE cs off n len with
      | false => rfl
      | true =>
        have := tkOk_one (mayE_iff.1 e).1 hi'
        unfold takeOk at this
        rw [hf] at this
        cases this
    refine past_vc EX_ok 1000 (mr_step off n len cs ty (sumN cs off i) i bs (mayE cs off n len) (fun _ _ _ => False)
      (fun s' i' a' k' p' bs' => s' = sumN cs off i ∧ i' = (i : Int) ∧ a' = at0 cs off i ∧ k' = nn0 cs off i ∧ p' = (((at0 cs off i).toNat : Nat) : Int) ∧ bs' = bs ∧ mayB (at0 cs off i) (nn0 cs off i) = true)) ?_ (fun _ _ h => h)
      (fun fs m hb' => mrA_good (fun _ _ _ h => h.elim) (fun s' i' a' k' p' bs' ⟨e1, e2, e3, e4, e5, e6, e7⟩ => by
        rw [e1, e2, e3, e4, e5, e6]
        exact mq_round ty len h hi' hk e7 (fun bs h1 h2 => ih (i + 1) bs (by omega) h1 h2) (nn0 cs off i).toNat _ bs rfl (Nat.le_refl _) (tkB_start _ hT) fun q h1 h2 => by omega) hb')
    have hij : ((0 : Int) ≤ (i : Int) ∧ (i : Int) < (n : Int)) ∧ True := ⟨⟨by omega, by omega⟩, trivial⟩
    refine ⟨fun _ => ?_, fun hd => ?_⟩
    · have ea : intAt cs (off + i * 2) = at0 cs off i := rfl
      have eb : intAt cs (off + i * 2 + 1) = nn0 cs off i := rfl
      simp only [Int.toNat_natCast, ea, eb]
      refine ⟨hij, ⟨h.a i hi', trivial⟩, hij, ⟨h.b i hi', trivial⟩, fun c1 => ⟨fun c2 => ⟨fun c3 => ⟨fun c4 => ⟨fun c5 => ?_, fun c5 => ?_⟩, fun c4 => ?_⟩, fun c3 => ?_⟩, fun c2 => ?_⟩, fun c1 => ?_⟩
      all_goals simp only [beq_eq_false_iff_ne, beq_iff_eq, decide_eq_true_eq, decide_eq_false_iff_not, ne_eq, Bool.not_eq_true, Bool.not_eq_false, decide_eq_true_eq] at *
      · refine hno ?_
        rw [ari_add, i64w (by omega)] at c5
        cases e : mayB (at0 cs off i) (nn0 cs off i) with
        | false => rfl
        | true => have := mayB_iff.1 e; omega
      · rw [ari_add, i64w (by omega)] at c5
        have hm : mayB (at0 cs off i) (nn0 cs off i) = true := mayB_iff.2 (by omega)
        have e0 : at0 cs off i = (((at0 cs off i).toNat : Nat) : Int) := by omega
        repeat' first | exact trivial | exact hm | exact e0 | exact mqT_ok | exact rfl | apply And.intro
      all_goals
        refine hno ?_
        cases e : mayB (at0 cs off i) (nn0 cs off i) with
        | false => rfl
        | true => have := mayB_iff.1 e; omega
    · have := of_decide_eq_false hd
      omega
theorem mr_good : Good Tryd.prog (boolR (mayE cs off n len)) 1 (mrC off n len) (rwM true cs ty) := by
  refine run_vc EX_ok 1000 (mr_start off n len cs ty (mayE cs off n len) (fun s i bs => s = sumN cs off 0 ∧ i = ((0 : Nat) : Int) ∧ TkB bs (tkW cs off 0) 0 0)) ?_ (fun _ _ h => h)
    (fun fs m hb => mrN_good (fun s i bs ⟨e1, e2, e3⟩ => by rw [e1, e2]; exact mr_round ty len h n 0 bs (by omega) rfl e3) hb)
  have hT : TkB #[Value.bool false, Value.bool false, Value.bool false, Value.bool false, Value.bool false, Value.bool false, Value.bool false, Value.bool false, Value.bool false, Value.bool false, Value.bool false, Value.bool false, Value.bool false, Value.bool false, Value.bool false, Value.bool false, Value.bool false, Value.bool false, Value.bool false, Value.bool false, Value.bool false, Value.bool false, Value.bool false, Value.bool false, Value.bool false, Value.bool false, Value.bool false, Value.bool false, Value.bool false, Value.bool false, Value.bool false, Value.bool false, Value.bool false, Value.bool false, Value.bool false, Value.bool false, Value.bool false, Value.bool false, Value.bool false, Value.bool false, Value.bool false, Value.bool false, Value.bool false, Value.bool false, Value.bool false, Value.bool false, Value.bool false, Value.bool false, Value.bool false, Value.bool false, Value.bool false, Value.bool false, Value.bool false, Value.bool false, Value.bool false, Value.bool false, Value.bool false, Value.bool false, Value.bool false, Value.bool false, Value.bool false, Value.bool false, Value.bool false, Value.bool false] (tkW cs off 0) 0 0 := by
    refine ⟨rfl, fun q hq => ?_⟩
    have e : (tkW cs off 0).getLsbD q = true := by
      unfold tkW
      rw [BitVec.getLsbD_allOnes, decide_eq_true hq]
    rw [e, decide_eq_false (by omega)]
    exact (show ∀ q : Fin 64, (Array.replicate 64 (Value.bool false))[q.val]? = some (Value.bool (!true || false)) from fun q => by simp) ⟨q, hq⟩
  repeat' first | exact trivial | exact hT | exact mrT_ok | exact rfl | apply And.intro
end
theorem mr_con {m : SMem} {i : Nat} {o n : SN} {cap : SK} {x : SI} {cs : Array Value} (hr : rowV m i = some (true, cs)) :
    Con E0 10 [.s (.agg (.ls [.f (.slice i o n cap), .f (.int .i64 x)]))] m (needs [PrOk cs o.den n.den] (.ret (sB (.o (mayE cs o.den n.den x.den))) m)) :=
  Con.ext (r' := []) (by kernel_rfl : E0.fn 10 = some Tryd.f10) (by kernel_rfl : Tryd.f10.body = some (Tryd.f10.body.getD .skip)) hr (fun _ _ vs h => match vs, h with | [], _ => trivial) (A := boolR (mayE cs o.den n.den x.den))
    (fun ty hq => mr_good ty x.den (hq _ (by simp))) (fun _ _ _ _ _ => boolR_ok)
end Go.Proofs.YtccbfkeigfnibaaDoor
/- Of extent: the document's Bytes: its loops' states. No condition. -/
namespace Go.Proofs.YtccbfkeigfnibaaDoor
noncomputable section
def byC (off n : Nat) (L : Int) : List SFr := [callFr 11 Tryd.f11.ntmps [extS off n L] (Tryd.f11.body.getD .skip)]
def byR (off n : Nat) (L : Int) (cs : Array Value) (ty : TypeId) : Tree := run EX 1000 1 (byC off n L) (rwM true cs ty)
def outV (w : Bool) (l : Nat) : SV := cond w (.s (.c (.f (.slice 2 (.l 0) (.o l) (.full 1))))) (.s (.c (.f (.lit (.slice none 0 0)))))
def byF (w : Bool) (l : Nat) (i : Int) : List SFr := reTm [tmOf Tryd.f11.ntmps [(1, ptr 1 (.l 0)), (3, outV w l), (4, i64 (.o i))]] ((byR 0 0 0 #[] 0).fsAt 3)
def setW (w : Bool) (i : Nat) (b : SBlk) (t : Tr SBlk) : Tr SBlk := cond w (t.set i (some b)) t
def byM (w : Bool) (off n : Nat) (L : Int) (cs : Array Value) (ty : TypeId) (bs : Array Value) : SMem :=
  ⟨3, setW w 2 ⟨.pop bs, 3, true⟩ (((Tr.nil : Tr SBlk).set 0 (some ⟨.raw cs, ty, false⟩)).set 1 (some ⟨.ls [.f (sl0 off n), .f (.int .i64 (.o L))], 24, true⟩)), []⟩
def byS (w : Bool) (off n : Nat) (L : Int) (cs : Array Value) (ty : TypeId) (l : Nat) (i : Int) (bs : Array Value) : Tree := stepT EX.go (run EX 1000) 1 (headF (byF w l i)) (byM w off n L cs ty bs)
def bqF (w : Bool) (l : Nat) (i k : Int) : List SFr := reTm [tmOf Tryd.f11.ntmps [(1, ptr 1 (.l 0)), (3, outV w l), (4, i64 (.o i)), (5, i64 (.o k))]] ((byS false 0 0 0 #[] 0 0 0 #[]).fsAt 6)
def bqS (w : Bool) (off n : Nat) (L : Int) (cs : Array Value) (ty : TypeId) (l : Nat) (i k : Int) (bs : Array Value) : Tree := stepT EX.go (run EX 1000) 1 (headF (bqF w l i k)) (byM w off n L cs ty bs)
def byA (hO hI : Bool) (off n : Nat) (L : Int) (cs : Array Value) (ty : TypeId) (Q : Bool → Bool → Int → Int → Nat → Array Value → Prop) (fs : List SFr) (m : SMem) : Prop := match fs with
  | f :: _ => match rdI f 4, rdP f 1, rdS f 3 m with
    | some i, some p, some o => match Nat.beq (lid fs) 6 with
      | true => match rdI f 5 with
        | some k => match o with
          | none => Q true false i k 0 #[] ∧ subOk 1 [(1, p)] (hF hI (bqF false 0 i k)) (byM false off n L cs ty #[]) fs m
          | some (sid, l, bs) => Q true true i k l bs ∧ subOk 1 [(1, p), (2, sid)] (hF hI (bqF true l i k)) (byM true off n L cs ty bs) fs m
        | none => False
      | false => match o with
        | none => Q false false i 0 0 #[] ∧ subOk 1 [(1, p)] (hF hO (byF false 0 i)) (byM false off n L cs ty #[]) fs m
        | some (sid, l, bs) => Q false true i 0 l bs ∧ subOk 1 [(1, p), (2, sid)] (hF hO (byF true l i)) (byM true off n L cs ty bs) fs m
    | _, _, _ => False
  | [] => False
def byRet (l : Nat) (bs : Array Value) (s : SV) (m : SMem) : Prop := match s with
  | .s (.c (.f (.slice sid _ _ _))) => retOk 1 [(1, sid)] (.s (.c (.f (.slice 1 (.l 0) (.o l) .any)))) ⟨2, Tr.nil.set 1 (some ⟨.pop bs, 3, true⟩), []⟩ s m
  | _ => False
def byT : List SIt := headTd (byF false 0 0)
def byH : List SIt := headTd (headF (byF false 0 0))
def bqT : List SIt := headTd (bqF false 0 0 0)
def bqH : List SIt := headTd (headF (bqF false 0 0 0))
end
end Go.Proofs.YtccbfkeigfnibaaDoor
/- Of extent: the document's Bytes: its loops' rounds, as propositions. No condition. -/
namespace Go.Proofs.YtccbfkeigfnibaaDoor
set_option maxRecDepth 100000
theorem by_start (off n : Nat) (L : Int) (cs : Array Value) (ty : TypeId) (rl : Nat) (rb : Array Value) (Q : Bool → Bool → Int → Int → Nat → Array Value → Prop) : (byR off n L cs ty).vc (byRet rl rb) (byA false false off n L cs ty Q) =
    (Q false false (0 : Int) (0 : Int) (0 : Nat) #[] ∧ CallKind.normal = CallKind.normal ∧ TodoOk (ren 1 [(1, 1)]) byT byT ∧ Value.slice none (0 : Nat) (0 : Nat) = Value.slice none (0 : Nat) (0 : Nat) ∧ (0 : Int) = (0 : Int) ∧ ty = ty ∧ cs = cs ∧ (24 : TypeId) = (24 : Nat) ∧ off = off ∧ n = n ∧ L = L ∧ True) := by kernel_rfl
theorem by_o0 (off n : Nat) (L : Int) (cs : Array Value) (ty : TypeId) (i : Int) (rl : Nat) (rb : Array Value) (Q : Bool → Bool → Int → Int → Nat → Array Value → Prop) : (byS false off n L cs ty 0 i #[]).vc (byRet rl rb) (byA true false off n L cs ty Q) =
    ((decide (i < (↑n : Int)) = true → Q true false i (0 : Int) (0 : Nat) #[] ∧ CallKind.normal = CallKind.normal ∧ TodoOk (ren 1 [(1, 1)]) bqT bqT ∧ Value.slice none (0 : Nat) (0 : Nat) = Value.slice none (0 : Nat) (0 : Nat) ∧ (0 : Int) = (0 : Int) ∧ i = i ∧ ty = ty ∧ cs = cs ∧ (24 : TypeId) = (24 : TypeId) ∧ off = off ∧ n = n ∧ L = L ∧ True) ∧ (decide (i < (↑n : Int)) = false → False)) := by kernel_rfl
theorem by_o1 (off n : Nat) (L : Int) (cs : Array Value) (ty : TypeId) (l : Nat) (i : Int) (bs : Array Value) (rl : Nat) (rb : Array Value) (Q : Bool → Bool → Int → Int → Nat → Array Value → Prop) : (byS true off n L cs ty l i bs).vc (byRet rl rb) (byA true false off n L cs ty Q) =
    ((decide (i < (↑n : Int)) = true → Q true true i (0 : Int) l bs ∧ CallKind.normal = CallKind.normal ∧ TodoOk (ren 1 [(1, 1), (2, 2)]) bqT bqT ∧ l = l ∧ (0 : Int) = (0 : Int) ∧ i = i ∧ ty = ty ∧ cs = cs ∧ (24 : TypeId) = (24 : TypeId) ∧ off = off ∧ n = n ∧ L = L ∧ (3 : TypeId) = (3 : TypeId) ∧ bs = bs ∧ True) ∧ (decide (i < (↑n : Int)) = false → rl = l ∧ (3 : TypeId) = (3 : TypeId) ∧ rb = bs ∧ True)) := by kernel_rfl
theorem by_i0 (off n : Nat) (L : Int) (cs : Array Value) (ty : TypeId) (i k : Int) (rl : Nat) (rb : Array Value) (Q : Bool → Bool → Int → Int → Nat → Array Value → Prop) : (bqS false off n L cs ty 0 i k #[]).vc (byRet rl rb) (byA true true off n L cs ty Q) =
    ((((0 : Int) ≤ i ∧ i < (↑n : Int)) ∧ True) ∧ (IsInt IntKind.i64 cs (off + Int.toNat i * 2 + 1) ∧ True) ∧ (decide (k < ari BinOp.mul IntKind.i64 (32 : Int) (intAt cs (off + Int.toNat i * 2 + 1))) = true → (((0 : Int) ≤ i ∧ i < (↑n : Int)) ∧ True) ∧ (IsInt IntKind.i64 cs (off + Int.toNat i * 2) ∧ True) ∧ Q true true i (ari BinOp.add IntKind.i64 k (1 : Int)) (1 : Nat) #[Value.int IntKind.i64 (ari BinOp.add IntKind.i64 (ari BinOp.mul IntKind.i64 (32 : Int) (intAt cs (off + Int.toNat i * 2))) k)] ∧ CallKind.normal = CallKind.normal ∧ TodoOk (ren 1 [(1, 1), (2, 4)]) bqH bqH ∧ (1 : Nat) = (1 : Nat) ∧ ari BinOp.add IntKind.i64 k (1 : Int) = ari BinOp.add IntKind.i64 k (1 : Int) ∧ i = i ∧ ty = ty ∧ cs = cs ∧ (24 : TypeId) = (24 : TypeId) ∧ off = off ∧ n = n ∧ L = L ∧ (3 : TypeId) = (3 : Nat) ∧ #[Value.int IntKind.i64 (ari BinOp.add IntKind.i64 (ari BinOp.mul IntKind.i64 (32 : Int) (intAt cs (off + Int.toNat i * 2))) k)] = #[Value.int IntKind.i64 (ari BinOp.add IntKind.i64 (ari BinOp.mul IntKind.i64 (32 : Int) (intAt cs (off + Int.toNat i * 2))) k)] ∧ True) ∧ (decide (k < ari BinOp.mul IntKind.i64 (32 : Int) (intAt cs (off + Int.toNat i * 2 + 1))) = false → Q false false (ari BinOp.add IntKind.i64 i (1 : Int)) (0 : Int) (0 : Nat) #[] ∧ CallKind.normal = CallKind.normal ∧ TodoOk (ren 1 [(1, 1)]) byH byH ∧ Value.slice none (0 : Nat) (0 : Nat) = Value.slice none (0 : Nat) (0 : Nat) ∧ ari BinOp.add IntKind.i64 i (1 : Int) = ari BinOp.add IntKind.i64 i (1 : Int) ∧ ty = ty ∧ cs = cs ∧ (24 : TypeId) = (24 : TypeId) ∧ off = off ∧ n = n ∧ L = L ∧ True)) := by kernel_rfl
theorem by_i1 (off n : Nat) (L : Int) (cs : Array Value) (ty : TypeId) (l : Nat) (i k : Int) (bs : Array Value) (rl : Nat) (rb : Array Value) (Q : Bool → Bool → Int → Int → Nat → Array Value → Prop) : (bqS true off n L cs ty l i k bs).vc (byRet rl rb) (byA true true off n L cs ty Q) =
    ((((0 : Int) ≤ i ∧ i < (↑n : Int)) ∧ True) ∧ (IsInt IntKind.i64 cs (off + Int.toNat i * 2 + 1) ∧ True) ∧ (decide (k < ari BinOp.mul IntKind.i64 (32 : Int) (intAt cs (off + Int.toNat i * 2 + 1))) = true → (((0 : Int) ≤ i ∧ i < (↑n : Int)) ∧ True) ∧ (IsInt IntKind.i64 cs (off + Int.toNat i * 2) ∧ True) ∧ (((l + 1) * 8 ≤ (140737488355328 : Nat) ∧ l + 1 ≤ (140737488355328 : Nat)) ∧ l * 1 = Array.size bs ∧ True) ∧ Q true true i (ari BinOp.add IntKind.i64 k (1 : Int)) (l + 1) (bs ++ #[Value.int IntKind.i64 (ari BinOp.add IntKind.i64 (ari BinOp.mul IntKind.i64 (32 : Int) (intAt cs (off + Int.toNat i * 2))) k)]) ∧ CallKind.normal = CallKind.normal ∧ TodoOk (ren 1 [(1, 1), (2, 4)]) bqH bqH ∧ l + 1 = l + 1 ∧ ari BinOp.add IntKind.i64 k (1 : Int) = ari BinOp.add IntKind.i64 k (1 : Int) ∧ i = i ∧ ty = ty ∧ cs = cs ∧ (24 : TypeId) = (24 : TypeId) ∧ off = off ∧ n = n ∧ L = L ∧ (3 : TypeId) = (3 : Nat) ∧ bs ++ #[Value.int IntKind.i64 (ari BinOp.add IntKind.i64 (ari BinOp.mul IntKind.i64 (32 : Int) (intAt cs (off + Int.toNat i * 2))) k)] = bs ++ #[Value.int IntKind.i64 (ari BinOp.add IntKind.i64 (ari BinOp.mul IntKind.i64 (32 : Int) (intAt cs (off + Int.toNat i * 2))) k)] ∧ True) ∧ (decide (k < ari BinOp.mul IntKind.i64 (32 : Int) (intAt cs (off + Int.toNat i * 2 + 1))) = false → Q false true (ari BinOp.add IntKind.i64 i (1 : Int)) (0 : Int) l bs ∧ CallKind.normal = CallKind.normal ∧ TodoOk (ren 1 [(1, 1), (2, 2)]) byH byH ∧ l = l ∧ ari BinOp.add IntKind.i64 i (1 : Int) = ari BinOp.add IntKind.i64 i (1 : Int) ∧ ty = ty ∧ cs = cs ∧ (24 : TypeId) = (24 : TypeId) ∧ off = off ∧ n = n ∧ L = L ∧ (3 : TypeId) = (3 : TypeId) ∧ bs = bs ∧ True)) := by kernel_rfl
end Go.Proofs.YtccbfkeigfnibaaDoor
/- Of extent: the document's Bytes: what it answers. No condition. -/
namespace Go.Proofs.YtccbfkeigfnibaaDoor
set_option maxRecDepth 100000
/-- So many bytes from a page on. -/
def pcs (a : Int) (k : Nat) : List Value := (List.range k).map fun t => .int .i64 (32 * a + (t : Nat))
theorem pcs_succ (a : Int) (k : Nat) : pcs a (k + 1) = pcs a k ++ [.int .i64 (32 * a + (k : Nat))] := by
  unfold pcs
  rw [List.range_succ, List.map_append]
  rfl
theorem pcs_len (a : Int) (k : Nat) : (pcs a k).length = k := by unfold pcs; rw [List.length_map, List.length_range]
def bytesL (cs : Array Value) (off : Nat) : Nat → List Value
  | 0 => []
  | i + 1 => bytesL cs off i ++ pcs (at0 cs off i) (32 * nn0 cs off i).toNat
theorem bytesL_len {cs : Array Value} {off n : Nat} (h : Small cs off n) : ∀ i, i ≤ n → ((bytesL cs off i).length : Int) = 32 * sumN cs off i
  | 0, _ => by simp [bytesL, sumN]
  | i + 1, hi => by
    have ih := bytesL_len h i (by omega)
    have := h i (by omega)
    unfold bytesL sumN
    rw [List.length_append, pcs_len]
    omega
/-- How a row is kept: not at all, or in a block. -/
def Rep (w : Bool) (l : Nat) (bs : Array Value) (r : List Value) : Prop := match w with
  | false => r = [] ∧ l = 0 ∧ bs = #[]
  | true => l = r.length ∧ bs = r.toArray
theorem byT_ok : TodoOk (ren 1 [(1, 1)]) byT byT := TodoOk.same (by kernel_rfl)
theorem bqT_ok : TodoOk (ren 1 [(1, 1)]) bqT bqT := TodoOk.same (by kernel_rfl)
theorem byH_ok : TodoOk (ren 1 [(1, 1)]) byH byH := TodoOk.same (by kernel_rfl)
theorem bqT_ok2 : TodoOk (ren 1 [(1, 1), (2, 2)]) bqT bqT := TodoOk.same (by kernel_rfl)
theorem byH_ok2 : TodoOk (ren 1 [(1, 1), (2, 2)]) byH byH := TodoOk.same (by kernel_rfl)
theorem bqH_ok2 : TodoOk (ren 1 [(1, 1), (2, 4)]) bqH bqH := TodoOk.same (by kernel_rfl)
section
variable {hO hI : Bool} {off n : Nat} {L : Int} {cs : Array Value} {ty : TypeId} {A : SV → SMem → Prop} {fs : List SFr} {m : SMem} {Q : Bool → Bool → Int → Int → Nat → Array Value → Prop}
theorem byA_good (H : ∀ w i l bs k, Q false w i k l bs → Good Tryd.prog A 1 (headF (byF w l i)) (byM w off n L cs ty bs))
    (H2 : ∀ w i k l bs, Q true w i k l bs → Good Tryd.prog A 1 (headF (bqF w l i k)) (byM w off n L cs ty bs)) (hb : byA hO hI off n L cs ty Q fs m) : Good Tryd.prog A 1 fs m := by
  unfold byA at hb
  split at hb
  · split at hb
    · split at hb
      · split at hb
        · split at hb
          · exact hF_good hb.2 (H2 _ _ _ _ _ hb.1)
          · exact hF_good hb.2 (H2 _ _ _ _ _ hb.1)
        · exact hb.elim
      · split at hb
        · exact hF_good hb.2 (H _ _ _ _ _ hb.1)
        · exact hF_good hb.2 (H _ _ _ _ _ hb.1)
    · exact hb.elim
  · exact hb.elim
end
section
variable {off n : Nat} {cs : Array Value} (ty : TypeId) (L : Int) (h : PrOk cs off n) (hk : tkOk cs off n = true)
include h hk
theorem bq_round {i : Nat} (hi : i < n)
    (ih : ∀ w l bs, Rep w l bs (bytesL cs off (i + 1)) → Good Tryd.prog (byRet (bytesL cs off n).length (bytesL cs off n).toArray) 1 (headF (byF w l ((i + 1 : Nat) : Int))) (byM w off n L cs ty bs)) :
    ∀ (j k : Nat), k + j = (32 * nn0 cs off i).toNat → ∀ w l bs, Rep w l bs (bytesL cs off i ++ pcs (at0 cs off i) k) → Good Tryd.prog (byRet (bytesL cs off n).length (bytesL cs off n).toArray) 1 (headF (bqF w l i (k : Nat))) (byM w off n L cs ty bs) := by
  have hs := tkOk_small hk
  have hsi := hs i hi
  have hmay := takeOk_may (tkOk_one hk hi)
  have hsum := sumN_le hs i (by omega)
  have hlen := bytesL_len hs i (by omega)
  have hle := h.le
  have hN := next80 hi hle
  have ea : intAt cs (off + i * 2) = at0 cs off i := rfl
  have eb : intAt cs (off + i * 2 + 1) = nn0 cs off i := rfl
  have eM : ari .mul .i64 32 (nn0 cs off i) = 32 * nn0 cs off i := by rw [ari_mul, i64w (by omega)]
  have eM2 : ari .mul .i64 32 (at0 cs off i) = 32 * at0 cs off i := by rw [ari_mul, i64w (by omega)]
  have hij : ((0 : Int) ≤ (i : Int) ∧ (i : Int) < (n : Int)) ∧ True := ⟨⟨by omega, by omega⟩, trivial⟩
  intro j
  induction j with
  | zero =>
    intro k hkj w l bs hr
    have hr : Rep w l bs (bytesL cs off (i + 1)) := by unfold bytesL; rw [show (32 * nn0 cs off i).toNat = k by omega]; exact hr
    have hno : ¬ (k : Int) < 32 * nn0 cs off i := by omega
    cases w with
    | false =>
      obtain ⟨r0, rfl, rfl⟩ := hr
      refine past_vc EX_ok 1000 (by_i0 off n L cs ty i k (bytesL cs off n).length (bytesL cs off n).toArray (fun q w i' k' l' bs' => q = false ∧ w = false ∧ i' = ((i + 1 : Nat) : Int) ∧ l' = 0 ∧ bs' = #[])) ?_ (fun _ _ h => h)
        (fun fs m hb => byA_good (fun w i' l' bs' k' ⟨_, e2, e3, e4, e5⟩ => by rw [e2, e3, e4, e5]; exact ih false 0 #[] ⟨r0, rfl, rfl⟩) (fun _ _ _ _ _ h => by cases h.1) hb)
      simp only [Int.toNat_natCast, ea, eb, eM, hN]
      refine ⟨hij, ⟨h.b i hi, trivial⟩, fun hd => absurd (of_decide_eq_true hd) hno, fun _ => ?_⟩
      repeat' first | exact trivial | exact byH_ok | exact rfl | apply And.intro
    | true =>
      refine past_vc EX_ok 1000 (by_i1 off n L cs ty l i k bs (bytesL cs off n).length (bytesL cs off n).toArray (fun q w i' k' l' bs' => q = false ∧ w = true ∧ i' = ((i + 1 : Nat) : Int) ∧ l' = l ∧ bs' = bs)) ?_ (fun _ _ h => h)
        (fun fs m hb => byA_good (fun w i' l' bs' k' ⟨_, e2, e3, e4, e5⟩ => by rw [e2, e3, e4, e5]; exact ih true l bs hr) (fun _ _ _ _ _ h => by cases h.1) hb)
      simp only [Int.toNat_natCast, ea, eb, eM, hN]
      refine ⟨hij, ⟨h.b i hi, trivial⟩, fun hd => absurd (of_decide_eq_true hd) hno, fun _ => ?_⟩
      repeat' first | exact trivial | exact byH_ok2 | exact rfl | apply And.intro
  | succ j ihj =>
    intro k hkj w l bs hr
    have hyes : (k : Int) < 32 * nn0 cs off i := by omega
    have eK : ari .add .i64 (k : Int) 1 = ((k + 1 : Nat) : Int) := by rw [ari_add, i64w (by omega)]; omega
    have eV : ari .add .i64 (32 * at0 cs off i) (k : Int) = 32 * at0 cs off i + (k : Nat) := by rw [ari_add, i64w (by omega)]
    cases w with
    | false =>
      obtain ⟨r0, rfl, rfl⟩ := hr
      have hr' : Rep true 1 #[.int .i64 (32 * at0 cs off i + (k : Nat))] (bytesL cs off i ++ pcs (at0 cs off i) (k + 1)) := by
        rw [pcs_succ, ← List.append_assoc, r0]
        exact ⟨rfl, rfl⟩
      refine past_vc EX_ok 1000 (by_i0 off n L cs ty i k (bytesL cs off n).length (bytesL cs off n).toArray (fun q w i' k' l' bs' => q = true ∧ w = true ∧ i' = (i : Int) ∧ k' = ((k + 1 : Nat) : Int) ∧ l' = 1 ∧ bs' = #[.int .i64 (32 * at0 cs off i + (k : Nat))])) ?_ (fun _ _ h => h)
        (fun fs m hb => byA_good (fun _ _ _ _ _ h => by cases h.1) (fun w i' k' l' bs' ⟨_, e2, e3, e4, e5, e6⟩ => by rw [e2, e3, e4, e5, e6]; exact ihj (k + 1) (by omega) true 1 _ hr') hb)
      simp only [Int.toNat_natCast, ea, eb, eM, eM2, eK, eV]
      refine ⟨hij, ⟨h.b i hi, trivial⟩, fun _ => ⟨hij, ⟨h.a i hi, trivial⟩, ?_⟩, fun hd => absurd hyes (of_decide_eq_false hd)⟩
      repeat' first | exact trivial | exact bqH_ok2 | exact rfl | apply And.intro
    | true =>
      obtain ⟨rl, rb⟩ := hr
      have hl : l = (bytesL cs off i).length + k := by rw [rl, List.length_append, pcs_len]
      have hr' : Rep true (l + 1) (bs ++ #[.int .i64 (32 * at0 cs off i + (k : Nat))]) (bytesL cs off i ++ pcs (at0 cs off i) (k + 1)) := by
        rw [pcs_succ, ← List.append_assoc]
        exact ⟨by rw [List.length_append, ← rl]; rfl, by rw [rb]; simp⟩
      refine past_vc EX_ok 1000 (by_i1 off n L cs ty l i k bs (bytesL cs off n).length (bytesL cs off n).toArray (fun q w i' k' l' bs' => q = true ∧ w = true ∧ i' = (i : Int) ∧ k' = ((k + 1 : Nat) : Int) ∧ l' = l + 1 ∧ bs' = bs ++ #[.int .i64 (32 * at0 cs off i + (k : Nat))])) ?_ (fun _ _ h => h)
        (fun fs m hb => byA_good (fun _ _ _ _ _ h => by cases h.1) (fun w i' k' l' bs' ⟨_, e2, e3, e4, e5, e6⟩ => by rw [e2, e3, e4, e5, e6]; exact ihj (k + 1) (by omega) true _ _ hr') hb)
      have hsz : l * 1 = bs.size := by rw [Nat.mul_one, rb, List.size_toArray, rl]
      simp only [Int.toNat_natCast, ea, eb, eM, eM2, eK, eV]
      refine ⟨hij, ⟨h.b i hi, trivial⟩, fun _ => ⟨hij, ⟨h.a i hi, trivial⟩, ⟨⟨by omega, by omega⟩, hsz, trivial⟩, ?_⟩, fun hd => absurd hyes (of_decide_eq_false hd)⟩
      repeat' first | exact trivial | exact bqH_ok2 | exact rfl | apply And.intro
theorem by_round (hn : n ≠ 0) : ∀ (k i : Nat), i + k = n → ∀ w l bs, Rep w l bs (bytesL cs off i) → Good Tryd.prog (byRet (bytesL cs off n).length (bytesL cs off n).toArray) 1 (headF (byF w l i)) (byM w off n L cs ty bs) := by
  have hs := tkOk_small hk
  have hle := h.le
  intro k
  induction k with
  | zero =>
    intro i hi w l bs hr
    obtain rfl : i = n := by omega
    have hsum := sumN_le hs i (Nat.le_refl _)
    have hlen := bytesL_len hs i (Nat.le_refl _)
    have hno : ¬ (i : Int) < (i : Int) := by omega
    cases w with
    | false =>
      obtain ⟨r0, _, _⟩ := hr
      rw [r0] at hlen
      simp at hlen
      omega
    | true =>
      obtain ⟨rl, rb⟩ := hr
      refine past_vc EX_ok 1000 (by_o1 off i L cs ty l i bs (bytesL cs off i).length (bytesL cs off i).toArray (fun _ _ _ _ _ _ => False)) ?_ (fun _ _ h => h)
        (fun fs m hb => byA_good (fun _ _ _ _ _ h => h.elim) (fun _ _ _ _ _ h => h.elim) hb)
      exact ⟨fun hd => absurd (of_decide_eq_true hd) hno, fun _ => ⟨rl.symm, rfl, rb.symm, trivial⟩⟩
  | succ k ih =>
    intro i hi w l bs hr
    have hi' : i < n := by omega
    have hyes : (i : Int) < (n : Int) := by omega
    have hsi := hs i hi'
    have key : ∀ w l bs, Rep w l bs (bytesL cs off i) → Good Tryd.prog (byRet (bytesL cs off n).length (bytesL cs off n).toArray) 1 (headF (bqF w l i 0)) (byM w off n L cs ty bs) := fun w l bs hr =>
      bq_round ty L h hk hi' (fun w l bs hr => ih (i + 1) (by omega) w l bs hr) (32 * nn0 cs off i).toNat 0 (by omega) w l bs (by rw [show pcs (at0 cs off i) 0 = [] from rfl, List.append_nil]; exact hr)
    cases w with
    | false =>
      obtain ⟨r0, rfl, rfl⟩ := hr
      refine past_vc EX_ok 1000 (by_o0 off n L cs ty i (bytesL cs off n).length (bytesL cs off n).toArray (fun q w i' k' l' bs' => q = true ∧ w = false ∧ i' = (i : Int) ∧ k' = 0 ∧ l' = 0 ∧ bs' = #[])) ?_ (fun _ _ h => h)
        (fun fs m hb => byA_good (fun _ _ _ _ _ h => by cases h.1) (fun w i' k' l' bs' ⟨_, e2, e3, e4, e5, e6⟩ => by rw [e2, e3, e4, e5, e6]; exact key false 0 #[] ⟨r0, rfl, rfl⟩) hb)
      refine ⟨fun _ => ?_, fun hd => absurd hyes (of_decide_eq_false hd)⟩
      repeat' first | exact trivial | exact bqT_ok | exact rfl | apply And.intro
    | true =>
      refine past_vc EX_ok 1000 (by_o1 off n L cs ty l i bs (bytesL cs off n).length (bytesL cs off n).toArray (fun q w i' k' l' bs' => q = true ∧ w = true ∧ i' = (i : Int) ∧ k' = 0 ∧ l' = l ∧ bs' = bs)) ?_ (fun _ _ h => h)
        (fun fs m hb => byA_good (fun _ _ _ _ _ h => by cases h.1) (fun w i' k' l' bs' ⟨_, e2, e3, e4, e5, e6⟩ => by rw [e2, e3, e4, e5, e6]; exact key true l bs hr) hb)
      refine ⟨fun _ => ?_, fun hd => absurd hyes (of_decide_eq_false hd)⟩
      repeat' first | exact trivial | exact bqT_ok2 | exact rfl | apply And.intro
theorem by_good (hn : n ≠ 0) : Good Tryd.prog (fun s m' => s = .s (.c (.f (.slice 1 (.l 0) (.o (bytesL cs off n).length) .any))) ∧ m' = ⟨2, Tr.nil.set 1 (some ⟨.pop (bytesL cs off n).toArray, 3, true⟩), []⟩) 1 (byC off n L) (rwM true cs ty) := by
  refine Good.retX (Good.mono (run_vc EX_ok 1000 (by_start off n L cs ty (bytesL cs off n).length (bytesL cs off n).toArray (fun q w i k l bs => q = false ∧ w = false ∧ i = ((0 : Nat) : Int) ∧ l = 0 ∧ bs = #[])) ?_ (fun _ _ h => h)
    (fun fs m hb => byA_good (fun w i l bs k ⟨_, e2, e3, e4, e5⟩ => by rw [e2, e3, e4, e5]; exact by_round ty L h hk hn n 0 (by omega) false 0 #[] ⟨rfl, rfl, rfl⟩) (fun _ _ _ _ _ h => by cases h.1) hb)) ?_)
  · repeat' first | exact trivial | exact byT_ok | exact rfl | apply And.intro
  · intro s m h
    unfold byRet at h
    split at h
    · exact ⟨_, h⟩
    · exact h.elim
end
end Go.Proofs.YtccbfkeigfnibaaDoor
/- Of extent: the contract of the document's Bytes. No condition. -/
namespace Go.Proofs.YtccbfkeigfnibaaDoor
set_option maxRecDepth 100000
theorem by_con {m : SMem} {i : Nat} {o n : SN} {cap : SK} {x : SI} {cs : Array Value} (hr : rowV m i = some (true, cs)) :
    Con E0 11 [.s (.agg (.ls [.f (.slice i o n cap), .f (.int .i64 x)]))] m (needs [PrOk cs o.den n.den, tkOk cs o.den n.den = true, n.den ≠ 0]
      (.ret (.s (.c (.f (.slice m.next (.l 0) (.o (bytesL cs o.den n.den).length) .any)))) (m.new (.pop (bytesL cs o.den n.den).toArray) 3))) := by
  obtain ⟨ty, wr, hb⟩ := rowV_of hr
  intro A hs
  obtain ⟨hq, hA⟩ := Tree.sat_needs hs
  refine ⟨Tryd.f11, (by kernel_rfl : E0.fn 11 = some Tryd.f11), by rw [(by kernel_rfl : Tryd.f11.body = some (Tryd.f11.body.getD .skip))]; rfl, fun n0 F w0 w R args ha hR => ?_⟩
  obtain ⟨gx, ds, fz, k1, _⟩ := hR.blk _ _ hb
  have hlt := hR.nx _ _ k1
  have hl' : All2 (SV.ok (pull (fun _ => i) 1 R)) [extS o.den n.den x.den] args.toList := by
    revert ha
    generalize args.toList = vs
    intro ha
    match vs, ha with
    | [u], ha =>
      obtain ⟨⟨ds, e, hd⟩, _⟩ := ha
      refine ⟨⟨ds, e, ?_⟩, trivial⟩
      have hd : All2 (SC.ok R) [.f (.slice i o n cap), .f (.int .i64 x)] ds.toList := hd
      show All2 (SC.ok _) [.f (sl0 o.den n.den), .f (.int .i64 (.o x.den))] ds.toList
      generalize ds.toList = L at hd ⊢
      match L, hd with
      | [a, b], hd =>
        obtain ⟨⟨gl, cp, e1, e2, e3, e4⟩, hb2, _⟩ := hd
        exact ⟨⟨gl, cp, by unfold pull; exact e1, e2, trivial, e4⟩, hb2, trivial⟩
  refine (frame (ms := rwM true cs ty) (ms' := ⟨2, Tr.nil.set 1 (some ⟨.pop (bytesL cs o.den n.den).toArray, 3, true⟩), []⟩) (E0_ok.fns 11 _ (by kernel_rfl : E0.fn 11 = some Tryd.f11)).1 (by kernel_rfl : Tryd.f11.body = some (Tryd.f11.body.getD .skip)) (by_good ty x.den (hq _ (by simp)) (hq _ (by simp)) (hq _ (by simp))) rfl (ι := fun _ => i) ?_ (fun _ _ => hlt) ?_ ?_ ?_ (show 1 ≤ 2 by decide) hl' hR).mono ?_
  · intro a b h1 h2 _
    have h1 : a < 1 := h1
    have h2 : b < 1 := h2
    omega
  · intro j b hj
    obtain ⟨rfl, rfl⟩ := rwM_get hj
    exact ⟨Nat.zero_lt_one, _, hb, rfl, fun h => (by cases h), fun R cs' h => h⟩
  · intro j b hj hw
    obtain ⟨rfl, rfl⟩ := rwM_get hj
    cases hw
  · intro j b hj h1
    have h1 : j < 1 := h1
    have e : j = 0 := by omega
    subst e
    have hj : (none : Option SBlk) = some b := hj
    cases hj
  · rintro u w' ⟨R', k1, k2, k3⟩
    exact ⟨_, _, R', hA, k1, k2, k3⟩
end Go.Proofs.YtccbfkeigfnibaaDoor
/- Of extent: the document's Needs: its loop's states. No condition. -/
namespace Go.Proofs.YtccbfkeigfnibaaDoor
noncomputable section
def ndC (s a : Int) : List SFr := [callFr 8 Tryd.f8.ntmps [i64 (.o s), i64 (.o a)] (Tryd.f8.body.getD .skip)]
def ndR (s a : Int) : Tree := run EX 1000 0 (ndC s a) ⟨0, .nil, []⟩
def ndF (s a k : Int) : List SFr := reTm [tmOf Tryd.f8.ntmps [(0, i64 (.o s)), (1, i64 (.o a)), (5, i64 (.o k))]] (ndR 0 0).fsE
def ndS (s a k : Int) : Tree := stepT EX.go (run EX 1000) 0 (headF (ndF s a k)) ⟨0, .nil, []⟩
def ndN (h : Bool) (s a : Int) (Q : Int → Prop) (fs : List SFr) (m : SMem) : Prop := match fs with
  | f :: _ => match rdI f 5 with
    | some k => Q k ∧ subOk 0 [] (hF h (ndF s a k)) ⟨0, .nil, []⟩ fs m
    | _ => False
  | [] => False
def ndT : List SIt := headTd (ndF 0 0 0)
def ndH : List SIt := headTd (headF (ndF 0 0 0))
end
end Go.Proofs.YtccbfkeigfnibaaDoor
/- Of extent: the document's Needs: its loop's rounds, as propositions. No condition. -/
namespace Go.Proofs.YtccbfkeigfnibaaDoor
set_option maxRecDepth 100000
theorem nd_start (s a : Int) (r : Int) (Q : Int → Prop) : (ndR s a).vc (intR r) (ndN false s a Q) =
    (Q (0 : Int) ∧ CallKind.normal = CallKind.normal ∧ TodoOk (ren 0 []) ndT ndT ∧ s = s ∧ a = a ∧ (0 : Int) = (0 : Int) ∧ True) := by kernel_rfl
theorem nd_step (s a k : Int) (r : Int) (Q : Int → Prop) : (ndS s a k).vc (intR r) (ndN true s a Q) =
    (((decide (s ≥ (1 : Int)) == true) = true → ((decide (s ≤ (128 : Int)) == true) = true → (((a == (1 : Int)) == false) = true → (((a == (2 : Int)) == false) = true → (((a == (4 : Int)) == false) = true → (((a == (8 : Int)) == true) = true → (decide (ari BinOp.mul IntKind.i64 (32 : Int) k < s) = true → Q (ari BinOp.add IntKind.i64 k (1 : Int)) ∧ CallKind.normal = CallKind.normal ∧ TodoOk (ren 0 []) ndH ndH ∧ s = s ∧ a = a ∧ ari BinOp.add IntKind.i64 k (1 : Int) = ari BinOp.add IntKind.i64 k (1 : Int) ∧ True) ∧ (decide (ari BinOp.mul IntKind.i64 (32 : Int) k < s) = false → k = r)) ∧ (((a == (8 : Int)) == true) = false → k = r)) ∧ (((a == (4 : Int)) == false) = false → (decide (ari BinOp.mul IntKind.i64 (32 : Int) k < s) = true → Q (ari BinOp.add IntKind.i64 k (1 : Int)) ∧ CallKind.normal = CallKind.normal ∧ TodoOk (ren 0 []) ndH ndH ∧ s = s ∧ a = a ∧ ari BinOp.add IntKind.i64 k (1 : Int) = ari BinOp.add IntKind.i64 k (1 : Int) ∧ True) ∧ (decide (ari BinOp.mul IntKind.i64 (32 : Int) k < s) = false → k = r))) ∧ (((a == (2 : Int)) == false) = false → (decide (ari BinOp.mul IntKind.i64 (32 : Int) k < s) = true → Q (ari BinOp.add IntKind.i64 k (1 : Int)) ∧ CallKind.normal = CallKind.normal ∧ TodoOk (ren 0 []) ndH ndH ∧ s = s ∧ a = a ∧ ari BinOp.add IntKind.i64 k (1 : Int) = ari BinOp.add IntKind.i64 k (1 : Int) ∧ True) ∧ (decide (ari BinOp.mul IntKind.i64 (32 : Int) k < s) = false → k = r))) ∧ (((a == (1 : Int)) == false) = false → (decide (ari BinOp.mul IntKind.i64 (32 : Int) k < s) = true → Q (ari BinOp.add IntKind.i64 k (1 : Int)) ∧ CallKind.normal = CallKind.normal ∧ TodoOk (ren 0 []) ndH ndH ∧ s = s ∧ a = a ∧ ari BinOp.add IntKind.i64 k (1 : Int) = ari BinOp.add IntKind.i64 k (1 : Int) ∧ True) ∧ (decide (ari BinOp.mul IntKind.i64 (32 : Int) k < s) = false → k = r))) ∧ ((decide (s ≤ (128 : Int)) == true) = false → k = r)) ∧ ((decide (s ≥ (1 : Int)) == true) = false → k = r)) := by kernel_rfl
end Go.Proofs.YtccbfkeigfnibaaDoor
/- Of extent: the document's Needs: what it answers. No condition. -/
namespace Go.Proofs.YtccbfkeigfnibaaDoor
set_option maxRecDepth 100000
/-- Is there such an object? -/
def objB (s a : Int) : Bool := decide (1 ≤ s ∧ s ≤ 128 ∧ (a = 1 ∨ a = 2 ∨ a = 4 ∨ a = 8))
theorem objB_iff {s a : Int} : objB s a = true ↔ 1 ≤ s ∧ s ≤ 128 ∧ (a = 1 ∨ a = 2 ∨ a = 4 ∨ a = 8) := by unfold objB; rw [decide_eq_true_eq]
/-- How many pages it needs; 0: there is none. -/
def needN (s a : Int) : Int := if objB s a = true then (s + 31) / 32 else 0
theorem ndT_ok : TodoOk (ren 0 []) ndT ndT := TodoOk.same (by kernel_rfl)
theorem ndH_ok : TodoOk (ren 0 []) ndH ndH := TodoOk.same (by kernel_rfl)
theorem ndN_good {h : Bool} {s a : Int} {A : SV → SMem → Prop} {Q : Int → Prop} {fs : List SFr} {m : SMem} (H : ∀ k, Q k → Good Tryd.prog A 0 (headF (ndF s a k)) ⟨0, .nil, []⟩) (hb : ndN h s a Q fs m) : Good Tryd.prog A 0 fs m := by
  unfold ndN at hb
  split at hb
  · split at hb
    · exact hF_good hb.2 (H _ hb.1)
    · exact hb.elim
  · exact hb.elim
theorem nd_round (s a : Int) : ∀ (k : Nat) (j : Int), 0 ≤ j → j + k = needN s a → Good Tryd.prog (intR (needN s a)) 0 (headF (ndF s a j)) ⟨0, .nil, []⟩ := by
  intro k
  induction k with
  | zero =>
    intro j h0 hj
    refine past_vc EX_ok 1000 (nd_step s a j (needN s a) (fun _ => False)) ?_ (fun _ _ h => h) (fun fs m hb => ndN_good (fun _ h => h.elim) hb)
    have hr : j = needN s a := by omega
    have key : 1 ≤ s → s ≤ 128 → (a = 1 ∨ a = 2 ∨ a = 4 ∨ a = 8) → ¬ ari .mul .i64 32 j < s := by
      intro h1 h2 h3
      have ho : objB s a = true := objB_iff.2 ⟨h1, h2, h3⟩
      unfold needN at hr
      rw [if_pos ho] at hr
      rw [ari_mul, i64w (by omega)]
      omega
    simp only [decide_eq_true_eq, beq_iff_eq, beq_eq_false_iff_ne, decide_eq_false_iff_not, ne_eq, Bool.not_eq_true, beq_true, beq_false, Bool.not_eq_eq_eq_not, Bool.not_true, Bool.not_false]
    repeat' first | apply And.intro | (intro hh)
    all_goals first | exact hr | (exact absurd ‹ari .mul .i64 32 j < s› (key (by omega) (by omega) (by omega))) | skip
  | succ k ih =>
    intro j h0 hj
    refine past_vc EX_ok 1000 (nd_step s a j (needN s a) (fun j' => j' = j + 1)) ?_ (fun _ _ h => h) (fun fs m hb => ndN_good (fun j' e => by rw [e]; exact ih (j + 1) (by omega) (by omega)) hb)
    have ho : objB s a = true := by
      cases e : objB s a with
      | true => rfl
      | false =>
        unfold needN at hj
        rw [e] at hj
        simp at hj
        omega
    obtain ⟨h1, h2, h3⟩ := objB_iff.1 ho
    have hn : needN s a = (s + 31) / 32 := by unfold needN; rw [if_pos ho]
    have e1 : ari .mul .i64 32 j = 32 * j := by rw [ari_mul, i64w (by omega)]
    have e2 : ari .add .i64 j 1 = j + 1 := by rw [ari_add, i64w (by omega)]
    have hlt : 32 * j < s := by omega
    rw [e1, e2]
    simp only [decide_eq_true_eq, beq_iff_eq, beq_eq_false_iff_ne, decide_eq_false_iff_not, ne_eq, Bool.not_eq_true, beq_true, beq_false, Bool.not_eq_eq_eq_not, Bool.not_true, Bool.not_false]
    have hT := ndH_ok
    generalize ndH = T at hT ⊢
    repeat' first | apply And.intro | (intro hh)
    all_goals first | exact trivial | exact hT | exact rfl | omega
theorem need_con (s a : Int) (m : SMem) : Con E0 8 [i64 (.o s), i64 (.o a)] m (needs [] (.ret (i64 (.o (needN s a))) m)) := by
  refine Con.ro E0_ok (l' := [i64 (.o s), i64 (.o a)]) (ms := ⟨0, .nil, []⟩) (m := m) (q := []) (A := intR (needN s a)) (by kernel_rfl : E0.fn 8 = some Tryd.f8) (by kernel_rfl : Tryd.f8.body = some (Tryd.f8.body.getD .skip)) rfl (fun i => i) (fun i b hb => by
    have hb : (Tr.nil : Tr SBlk).get i = some b := hb
    rw [Tr.get_nil] at hb; cases hb) (fun R vs ha => ?_) (fun _ => ?_) (fun _ _ _ _ _ => intR_ok)
  · match vs, ha with
    | [x, y], ha => exact ⟨ha.1, ha.2.1, trivial⟩
  · refine run_vc EX_ok 1000 (nd_start s a (needN s a) (fun k => k = 0)) ?_ (fun _ _ h => h) (fun fs m hb => ndN_good (fun k e => by
      rw [e]
      have h0 : 0 ≤ needN s a := by
        unfold needN
        split
        · rename_i h
          have := objB_iff.1 h
          omega
        · omega
      exact nd_round s a (needN s a).toNat 0 (by omega) (by omega)) hb)
    repeat' first | exact trivial | exact ndT_ok | exact rfl | apply And.intro
end Go.Proofs.YtccbfkeigfnibaaDoor
/- Of extent: where an object fits: the environment, and the document's loop's states. No condition. -/
namespace Go.Proofs.YtccbfkeigfnibaaDoor
noncomputable section
def byV (m : SMem) (i : Nat) (o n : SN) : Option Tree := match rowV m i with
  | some (true, cs) => some (needs [PrOk cs o.den n.den, tkOk cs o.den n.den = true, n.den ≠ 0] (.ret (.s (.c (.f (.slice m.next (.l 0) (.o (bytesL cs o.den n.den).length) .any)))) (m.new (.pop (bytesL cs o.den n.den).toArray) 3)))
  | _ => none
def conZ (g : FuncId) (l : List SV) (m : SMem) : Option Tree :=
  match g, l with
  | 11, [.s (.agg (.ls [.f (.slice i o n _), .f (.int .i64 _)]))] => byV m i o n
  | g, l => conY g l m
def EZ : Env := ⟨Tryd.prog, fnOf, conZ, fun _ _ x => isLoop x⟩
def frC (off n : Nat) (L s a : Int) : List SFr := [callFr 13 Tryd.f13.ntmps [extS off n L, i64 (.o s), i64 (.o a)] (Tryd.f13.body.getD .skip)]
def frR (off n : Nat) (L s a : Int) (cs : Array Value) (ty : TypeId) : Tree := run EZ 1000 1 (frC off n L s a) (rwM true cs ty)
def frF (s a l t : Int) : List SFr := reTm [tmOf Tryd.f13.ntmps [(1, i64 (.o s)), (2, i64 (.o a)), (7, i64 (.o l)), (8, i64 (.o t))]] (frR 0 0 0 0 0 #[] 0).fsE
def frM : SMem := ⟨1, .nil, []⟩
def frS (s a l t : Int) : Tree := stepT EZ.go (run EZ 1000) 1 (headF (frF s a l t)) frM
def frN (h : Bool) (s a : Int) (Q : Int → Int → Prop) (fs : List SFr) (m : SMem) : Prop := match fs with
  | f :: _ => match rdI f 7, rdI f 8 with
    | some l, some t => Q l t ∧ subOk 1 [] (hF h (frF s a l t)) frM fs m
    | _, _ => False
  | [] => False
def frT : List SIt := headTd (frF 0 0 0 0)
def frH : List SIt := headTd (headF (frF 0 0 0 0))
/-! The program's. -/
def ftC (off n : Nat) (L s a : Int) : List SFr := [callFr 12 Tryd.f12.ntmps [extS off n L, i64 (.o s), i64 (.o a)] (Tryd.f12.body.getD .skip)]
def pairR (x : Int) (b : Bool) (s : SV) (_ : SMem) : Prop := match s with
  | .tup [.c (.f (.int .i64 y)), .c (.f (.bool c))] => y.den = x ∧ c.den = b
  | _ => False
end
theorem conZ_ok : ∀ g l m t, conZ g l m = some t → Con E0 g l m t := by
  intro g l m t h
  unfold conZ at h
  split at h
  · unfold byV at h
    split at h
    · rename_i e; cases h; exact by_con e
    · cases h
  · exact conY_ok _ _ _ _ h
theorem EZ_ok : EnvOk EZ := EnvOk.with E0_ok _ _ conZ_ok
end Go.Proofs.YtccbfkeigfnibaaDoor
/- Of extent: where an object fits, as propositions. No condition. -/
namespace Go.Proofs.YtccbfkeigfnibaaDoor
set_option maxRecDepth 100000
theorem fr_start (off n : Nat) (L s a : Int) (cs : Array Value) (ty : TypeId) (r : Int) (Q : Int → Int → Prop) : (frR off n L s a cs ty).vc (intR r) (frN false s a Q) =
    ((PrOk cs off n ∧ tkOk cs off n = true ∧ n ≠ (0 : Nat) ∧ True) ∧ Q (↑(List.length (bytesL cs off n)) : Int) L ∧ CallKind.normal = CallKind.normal ∧ TodoOk (ren 1 []) frT frT ∧ s = s ∧ (↑(List.length (bytesL cs off n)) : Int) = (↑(List.length (bytesL cs off n)) : Int) ∧ a = a ∧ L = L ∧ True) := by kernel_rfl
theorem fr_step (s a l t : Int) (r : Int) (Q : Int → Int → Prop) : (frS s a l t).vc (intR r) (frN true s a Q) =
    (((decide (s ≥ (1 : Int)) == true) = true → ((decide (s ≤ (128 : Int)) == true) = true → (((a == (1 : Int)) == false) = true → (((a == (2 : Int)) == false) = true → (((a == (4 : Int)) == false) = true → (((a == (8 : Int)) == true) = true → (decide (ari BinOp.add IntKind.i64 t s ≤ l) = true → (a ≠ (0 : Int) ∧ True) ∧ ((ari BinOp.rem IntKind.i64 t a == (0 : Int)) = true → t = r) ∧ ((ari BinOp.rem IntKind.i64 t a == (0 : Int)) = false → Q l (ari BinOp.add IntKind.i64 t (1 : Int)) ∧ CallKind.normal = CallKind.normal ∧ TodoOk (ren 1 []) frH frH ∧ s = s ∧ l = l ∧ a = a ∧ ari BinOp.add IntKind.i64 t (1 : Int) = ari BinOp.add IntKind.i64 t (1 : Int) ∧ True)) ∧ (decide (ari BinOp.add IntKind.i64 t s ≤ l) = false → (-1 : Int) = r)) ∧ (((a == (8 : Int)) == true) = false → (-1 : Int) = r)) ∧ (((a == (4 : Int)) == false) = false → (decide (ari BinOp.add IntKind.i64 t s ≤ l) = true → (a ≠ (0 : Int) ∧ True) ∧ ((ari BinOp.rem IntKind.i64 t a == (0 : Int)) = true → t = r) ∧ ((ari BinOp.rem IntKind.i64 t a == (0 : Int)) = false → Q l (ari BinOp.add IntKind.i64 t (1 : Int)) ∧ CallKind.normal = CallKind.normal ∧ TodoOk (ren 1 []) frH frH ∧ s = s ∧ l = l ∧ a = a ∧ ari BinOp.add IntKind.i64 t (1 : Int) = ari BinOp.add IntKind.i64 t (1 : Int) ∧ True)) ∧ (decide (ari BinOp.add IntKind.i64 t s ≤ l) = false → (-1 : Int) = r))) ∧ (((a == (2 : Int)) == false) = false → (decide (ari BinOp.add IntKind.i64 t s ≤ l) = true → (a ≠ (0 : Int) ∧ True) ∧ ((ari BinOp.rem IntKind.i64 t a == (0 : Int)) = true → t = r) ∧ ((ari BinOp.rem IntKind.i64 t a == (0 : Int)) = false → Q l (ari BinOp.add IntKind.i64 t (1 : Int)) ∧ CallKind.normal = CallKind.normal ∧ TodoOk (ren 1 []) frH frH ∧ s = s ∧ l = l ∧ a = a ∧ ari BinOp.add IntKind.i64 t (1 : Int) = ari BinOp.add IntKind.i64 t (1 : Int) ∧ True)) ∧ (decide (ari BinOp.add IntKind.i64 t s ≤ l) = false → (-1 : Int) = r))) ∧ (((a == (1 : Int)) == false) = false → (decide (ari BinOp.add IntKind.i64 t s ≤ l) = true → (a ≠ (0 : Int) ∧ True) ∧ ((ari BinOp.rem IntKind.i64 t a == (0 : Int)) = true → t = r) ∧ ((ari BinOp.rem IntKind.i64 t a == (0 : Int)) = false → Q l (ari BinOp.add IntKind.i64 t (1 : Int)) ∧ CallKind.normal = CallKind.normal ∧ TodoOk (ren 1 []) frH frH ∧ s = s ∧ l = l ∧ a = a ∧ ari BinOp.add IntKind.i64 t (1 : Int) = ari BinOp.add IntKind.i64 t (1 : Int) ∧ True)) ∧ (decide (ari BinOp.add IntKind.i64 t s ≤ l) = false → (-1 : Int) = r))) ∧ ((decide (s ≤ (128 : Int)) == true) = false → (-1 : Int) = r)) ∧ ((decide (s ≥ (1 : Int)) == true) = false → (-1 : Int) = r)) := by kernel_rfl
theorem ft_run (off n : Nat) (L s a : Int) (cs : Array Value) (ty : TypeId) (x : Int) (b : Bool) : (run EY 1000 1 (ftC off n L s a) (rwM false cs ty)).vc (pairR x b) (fun _ _ => False) =
    (((decide (s ≥ (1 : Int)) == true) = true → ((decide (s ≤ (128 : Int)) == true) = true → (((a == (1 : Int)) == false) = true → (((a == (2 : Int)) == false) = true → (((a == (4 : Int)) == false) = true → ((!a == (8 : Int)) = true → (0 : Int) = x ∧ false = b) ∧ ((!a == (8 : Int)) = false → (a ≠ (0 : Int) ∧ True) ∧ (PrOk cs off n ∧ Small cs off n ∧ True) ∧ (decide (s > ari BinOp.sub IntKind.i64 (ari BinOp.mul IntKind.i64 (sumN cs off n) (32 : Int)) (ari BinOp.mul IntKind.i64 (ari BinOp.quo IntKind.i64 (ari BinOp.sub IntKind.i64 (ari BinOp.add IntKind.i64 L a) (1 : Int)) a) a)) = true → (0 : Int) = x ∧ false = b) ∧ (decide (s > ari BinOp.sub IntKind.i64 (ari BinOp.mul IntKind.i64 (sumN cs off n) (32 : Int)) (ari BinOp.mul IntKind.i64 (ari BinOp.quo IntKind.i64 (ari BinOp.sub IntKind.i64 (ari BinOp.add IntKind.i64 L a) (1 : Int)) a) a)) = false → ari BinOp.mul IntKind.i64 (ari BinOp.quo IntKind.i64 (ari BinOp.sub IntKind.i64 (ari BinOp.add IntKind.i64 L a) (1 : Int)) a) a = x ∧ true = b))) ∧ (((a == (4 : Int)) == false) = false → (a ≠ (0 : Int) ∧ True) ∧ (PrOk cs off n ∧ Small cs off n ∧ True) ∧ (decide (s > ari BinOp.sub IntKind.i64 (ari BinOp.mul IntKind.i64 (sumN cs off n) (32 : Int)) (ari BinOp.mul IntKind.i64 (ari BinOp.quo IntKind.i64 (ari BinOp.sub IntKind.i64 (ari BinOp.add IntKind.i64 L a) (1 : Int)) a) a)) = true → (0 : Int) = x ∧ false = b) ∧ (decide (s > ari BinOp.sub IntKind.i64 (ari BinOp.mul IntKind.i64 (sumN cs off n) (32 : Int)) (ari BinOp.mul IntKind.i64 (ari BinOp.quo IntKind.i64 (ari BinOp.sub IntKind.i64 (ari BinOp.add IntKind.i64 L a) (1 : Int)) a) a)) = false → ari BinOp.mul IntKind.i64 (ari BinOp.quo IntKind.i64 (ari BinOp.sub IntKind.i64 (ari BinOp.add IntKind.i64 L a) (1 : Int)) a) a = x ∧ true = b))) ∧ (((a == (2 : Int)) == false) = false → (a ≠ (0 : Int) ∧ True) ∧ (PrOk cs off n ∧ Small cs off n ∧ True) ∧ (decide (s > ari BinOp.sub IntKind.i64 (ari BinOp.mul IntKind.i64 (sumN cs off n) (32 : Int)) (ari BinOp.mul IntKind.i64 (ari BinOp.quo IntKind.i64 (ari BinOp.sub IntKind.i64 (ari BinOp.add IntKind.i64 L a) (1 : Int)) a) a)) = true → (0 : Int) = x ∧ false = b) ∧ (decide (s > ari BinOp.sub IntKind.i64 (ari BinOp.mul IntKind.i64 (sumN cs off n) (32 : Int)) (ari BinOp.mul IntKind.i64 (ari BinOp.quo IntKind.i64 (ari BinOp.sub IntKind.i64 (ari BinOp.add IntKind.i64 L a) (1 : Int)) a) a)) = false → ari BinOp.mul IntKind.i64 (ari BinOp.quo IntKind.i64 (ari BinOp.sub IntKind.i64 (ari BinOp.add IntKind.i64 L a) (1 : Int)) a) a = x ∧ true = b))) ∧ (((a == (1 : Int)) == false) = false → (a ≠ (0 : Int) ∧ True) ∧ (PrOk cs off n ∧ Small cs off n ∧ True) ∧ (decide (s > ari BinOp.sub IntKind.i64 (ari BinOp.mul IntKind.i64 (sumN cs off n) (32 : Int)) (ari BinOp.mul IntKind.i64 (ari BinOp.quo IntKind.i64 (ari BinOp.sub IntKind.i64 (ari BinOp.add IntKind.i64 L a) (1 : Int)) a) a)) = true → (0 : Int) = x ∧ false = b) ∧ (decide (s > ari BinOp.sub IntKind.i64 (ari BinOp.mul IntKind.i64 (sumN cs off n) (32 : Int)) (ari BinOp.mul IntKind.i64 (ari BinOp.quo IntKind.i64 (ari BinOp.sub IntKind.i64 (ari BinOp.add IntKind.i64 L a) (1 : Int)) a) a)) = false → ari BinOp.mul IntKind.i64 (ari BinOp.quo IntKind.i64 (ari BinOp.sub IntKind.i64 (ari BinOp.add IntKind.i64 L a) (1 : Int)) a) a = x ∧ true = b))) ∧ ((decide (s ≤ (128 : Int)) == true) = false → (0 : Int) = x ∧ false = b)) ∧ ((decide (s ≥ (1 : Int)) == true) = false → (0 : Int) = x ∧ false = b)) := by kernel_rfl
end Go.Proofs.YtccbfkeigfnibaaDoor
/- Of extent: where an object fits: what is answered. No condition. -/
namespace Go.Proofs.YtccbfkeigfnibaaDoor
set_option maxRecDepth 100000
/-- The least address that is one of that alignment. -/
def upN (L a : Int) : Int := (L + a - 1) / a * a
theorem upN_at {L a : Int} (h0 : 0 ≤ L) (ha : a = 1 ∨ a = 2 ∨ a = 4 ∨ a = 8) : L ≤ upN L a ∧ upN L a < L + a ∧ upN L a % a = 0 ∧ ∀ t, L ≤ t → t < upN L a → t % a ≠ 0 := by
  unfold upN
  rcases ha with rfl | rfl | rfl | rfl
  all_goals
    refine ⟨by omega, by omega, by omega, fun t h1 h2 => by omega⟩
def fitOk (L s a T : Int) : Bool := objB s a && decide (upN L a + s ≤ T)
def fitR (L s a T : Int) : Int := if fitOk L s a T = true then upN L a else -1
def fitV (L s a T : Int) : Int := if fitOk L s a T = true then upN L a else 0
theorem fitOk_iff {L s a T : Int} : fitOk L s a T = true ↔ (1 ≤ s ∧ s ≤ 128 ∧ (a = 1 ∨ a = 2 ∨ a = 4 ∨ a = 8)) ∧ upN L a + s ≤ T := by
  unfold fitOk
  rw [Bool.and_eq_true, objB_iff, decide_eq_true_eq]
theorem rem_pos {t a : Int} (h : 0 ≤ t) : ari .rem .i64 t a = t % a := by
  rw [ari_rem]
  exact Int.tmod_eq_emod_of_nonneg h
theorem quo_pos {t a : Int} (h : 0 ≤ t) (hb : t ≤ 1000000) (ha : a = 1 ∨ a = 2 ∨ a = 4 ∨ a = 8) : ari .quo .i64 t a = t / a := by
  show IntKind.i64.wrap (Int.tdiv t a) = _
  rw [Int.tdiv_eq_ediv_of_nonneg h]
  rcases ha with rfl | rfl | rfl | rfl <;> exact i64w (by omega)
theorem frT_ok : TodoOk (ren 1 []) frT frT := TodoOk.same (by kernel_rfl)
theorem frH_ok : TodoOk (ren 1 []) frH frH := TodoOk.same (by kernel_rfl)
theorem frN_good {h : Bool} {s a : Int} {A : SV → SMem → Prop} {Q : Int → Int → Prop} {fs : List SFr} {m : SMem} (H : ∀ l t, Q l t → Good Tryd.prog A 1 (headF (frF s a l t)) frM) (hb : frN h s a Q fs m) : Good Tryd.prog A 1 fs m := by
  unfold frN at hb
  split at hb
  · split at hb
    · exact hF_good hb.2 (H _ _ hb.1)
    · exact hb.elim
  · exact hb.elim
theorem fr_round {L s a T : Int} (h0 : 0 ≤ L) (hL : L ≤ T) (hT : T ≤ 200000) : ∀ (k : Nat) (t : Int), L ≤ t → (objB s a = true → t + k = upN L a) → (objB s a = false → k = 0) → t ≤ T + 10 → Good Tryd.prog (intR (fitR L s a T)) 1 (headF (frF s a T t)) frM := by
  intro k
  induction k with
  | zero =>
    intro t h1 h2 h3 h5
    refine past_vc EZ_ok 1000 (fr_step s a T t (fitR L s a T) (fun _ _ => False)) ?_ (fun _ _ h => h) (fun fs m hb => frN_good (fun _ _ h => h.elim) hb)
    have no : ¬ (1 ≤ s ∧ s ≤ 128 ∧ (a = 1 ∨ a = 2 ∨ a = 4 ∨ a = 8)) → -1 = fitR L s a T := fun hn => by
      unfold fitR
      rw [if_neg (fun hf => hn (fitOk_iff.1 hf).1)]
    have no2 : 1 ≤ s → s ≤ 128 → (a = 1 ∨ a = 2 ∨ a = 4 ∨ a = 8) → ¬ ari .add .i64 t s ≤ T → -1 = fitR L s a T := fun k1 k2 k3 k4 => by
      have hu := h2 (objB_iff.2 ⟨k1, k2, k3⟩)
      rw [ari_add, i64w (by omega)] at k4
      unfold fitR
      rw [if_neg (fun hf => by have := (fitOk_iff.1 hf).2; omega)]
    have yes : 1 ≤ s → s ≤ 128 → (a = 1 ∨ a = 2 ∨ a = 4 ∨ a = 8) → ari .add .i64 t s ≤ T → t = fitR L s a T := fun k1 k2 k3 k4 => by
      have hu := h2 (objB_iff.2 ⟨k1, k2, k3⟩)
      rw [ari_add, i64w (by omega)] at k4
      unfold fitR
      rw [if_pos (fitOk_iff.2 ⟨⟨k1, k2, k3⟩, by omega⟩)]
      omega
    have zer : 1 ≤ s → s ≤ 128 → (a = 1 ∨ a = 2 ∨ a = 4 ∨ a = 8) → ¬ ari .rem .i64 t a = 0 → False := fun k1 k2 k3 k4 => by
      have hu := h2 (objB_iff.2 ⟨k1, k2, k3⟩)
      obtain ⟨_, _, u3, _⟩ := upN_at h0 k3
      rw [rem_pos (by omega)] at k4
      have : t = upN L a := by omega
      rw [this] at k4
      exact k4 u3
    simp only [decide_eq_true_eq, beq_iff_eq, beq_eq_false_iff_ne, decide_eq_false_iff_not, ne_eq, beq_true, beq_false, Bool.not_eq_eq_eq_not, Bool.not_true, Bool.not_false]
    repeat' first | apply And.intro | (intro hh)
    all_goals first
      | exact trivial
      | omega
      | exact no (by omega)
      | exact no2 (by omega) (by omega) (by omega) (by assumption)
      | exact yes (by omega) (by omega) (by omega) (by assumption)
      | exact (zer (by omega) (by omega) (by omega) (by assumption)).elim
  | succ k ih =>
    intro t h1 h2 h3 h5
    have ho : objB s a = true := by
      cases e : objB s a with
      | true => rfl
      | false => have := h3 e; omega
    obtain ⟨k1, k2, k3⟩ := objB_iff.1 ho
    have hu := h2 ho
    obtain ⟨u1, u2, u3, u4⟩ := upN_at h0 k3
    have e1 : ari .add .i64 t 1 = t + 1 := by rw [ari_add, i64w (by omega)]
    refine past_vc EZ_ok 1000 (fr_step s a T t (fitR L s a T) (fun l t' => l = T ∧ t' = t + 1 ∧ t + s ≤ T)) ?_ (fun _ _ h => h)
      (fun fs m hb => frN_good (fun l t' ⟨e, e', e''⟩ => by rw [e, e']; exact ih (t + 1) (by omega) (fun _ => by omega) (fun h => by rw [ho] at h; cases h) (by omega)) hb)
    have no2 : ¬ ari .add .i64 t s ≤ T → -1 = fitR L s a T := fun k4 => by
      rw [ari_add, i64w (by omega)] at k4
      unfold fitR
      rw [if_neg (fun hf => by have := (fitOk_iff.1 hf).2; omega)]
    have zer : ari .rem .i64 t a = 0 → t = fitR L s a T := fun k4 => by
      rw [rem_pos (by omega)] at k4
      exact (u4 t h1 (by omega) k4).elim
    have hle : ari .add .i64 t s ≤ T → t + s ≤ T := fun k4 => by
      rwa [ari_add, i64w (by omega)] at k4
    rw [e1]
    simp only [decide_eq_true_eq, beq_iff_eq, beq_eq_false_iff_ne, decide_eq_false_iff_not, ne_eq, beq_true, beq_false, Bool.not_eq_eq_eq_not, Bool.not_true, Bool.not_false]
    have hTd := frH_ok
    generalize frH = TD at hTd ⊢
    repeat' first | apply And.intro | (intro hh)
    all_goals first
      | exact trivial
      | exact hTd
      | exact rfl
      | omega
      | exact no2 (by assumption)
      | exact zer (by assumption)
      | exact hle (by assumption)
section
variable {off n : Nat} {cs : Array Value} (ty : TypeId) (L s a : Int) (h : PrOk cs off n) (hk : tkOk cs off n = true) (h0 : 0 ≤ L) (hL : L ≤ 32 * sumN cs off n)
include h hk h0 hL
theorem fr_good (hn : n ≠ 0) : Good Tryd.prog (intR (fitR L s a (32 * sumN cs off n))) 1 (frC off n L s a) (rwM true cs ty) := by
  have hs := tkOk_small hk
  have hsum := sumN_le hs n (Nat.le_refl _)
  have hlen := bytesL_len hs n (Nat.le_refl _)
  have hle := h.le
  refine run_vc EZ_ok 1000 (fr_start off n L s a cs ty (fitR L s a (32 * sumN cs off n)) (fun l t => l = 32 * sumN cs off n ∧ t = L)) ?_ (fun _ _ h => h)
    (fun fs m hb => frN_good (fun l t ⟨e1, e2⟩ => by
      rw [e1, e2]
      by_cases ho : objB s a = true
      · obtain ⟨_, _, k3⟩ := objB_iff.1 ho
        obtain ⟨u1, u2, _, _⟩ := upN_at h0 k3
        exact fr_round h0 hL (by omega) (upN L a - L).toNat L (Int.le_refl _) (fun _ => by omega) (fun e => by rw [ho] at e; cases e) (by omega)
      · exact fr_round h0 hL (by omega) 0 L (Int.le_refl _) (fun e => absurd e ho) (fun _ => rfl) (by omega)) hb)
  rw [hlen]
  refine ⟨⟨h, hk, hn, trivial⟩, ⟨rfl, rfl⟩, rfl, frT_ok, ?_⟩
  repeat' first | exact trivial | exact rfl | apply And.intro
theorem ft_good : Good Tryd.prog (pairR (fitV L s a (32 * sumN cs off n)) (fitOk L s a (32 * sumN cs off n))) 1 (ftC off n L s a) (rwM false cs ty) := by
  have hs := tkOk_small hk
  have hsum := sumN_le hs n (Nat.le_refl _)
  have hle := h.le
  refine run_vc EY_ok 1000 (ft_run off n L s a cs ty (fitV L s a (32 * sumN cs off n)) (fitOk L s a (32 * sumN cs off n))) ?_ (fun _ _ h => h) (fun _ _ h => h.elim)
  have no : ¬ (1 ≤ s ∧ s ≤ 128 ∧ (a = 1 ∨ a = 2 ∨ a = 4 ∨ a = 8)) → 0 = fitV L s a (32 * sumN cs off n) ∧ false = fitOk L s a (32 * sumN cs off n) := fun hn => by
    have hf : fitOk L s a (32 * sumN cs off n) = false := by
      cases e : fitOk L s a (32 * sumN cs off n) with
      | false => rfl
      | true => exact absurd (fitOk_iff.1 e).1 hn
    unfold fitV
    rw [hf]
    exact ⟨rfl, rfl⟩
  have eU : (a = 1 ∨ a = 2 ∨ a = 4 ∨ a = 8) → ari .mul .i64 (ari .quo .i64 (ari .sub .i64 (ari .add .i64 L a) 1) a) a = upN L a := fun k3 => by
    obtain ⟨u1, u2, _, _⟩ := upN_at h0 k3
    have e1 : ari .add .i64 L a = L + a := by rw [ari_add, i64w (by omega)]
    have e2 : ari .sub .i64 (L + a) 1 = L + a - 1 := by rw [ari_sub, i64w (by omega)]
    rw [e1, e2, quo_pos (by omega) (by omega) k3]
    exact i64w (by unfold upN at u1 u2; omega)
  have eS : (a = 1 ∨ a = 2 ∨ a = 4 ∨ a = 8) → ari .sub .i64 (ari .mul .i64 (sumN cs off n) 32) (upN L a) = 32 * sumN cs off n - upN L a := fun k3 => by
    obtain ⟨u1, u2, _, _⟩ := upN_at h0 k3
    have e1 : ari .mul .i64 (sumN cs off n) 32 = 32 * sumN cs off n := by rw [ari_mul, i64w (by omega), Int.mul_comm]
    rw [e1, ari_sub, i64w (by omega)]
  have no2 : 1 ≤ s → s ≤ 128 → (a = 1 ∨ a = 2 ∨ a = 4 ∨ a = 8) → s > ari .sub .i64 (ari .mul .i64 (sumN cs off n) 32) (ari .mul .i64 (ari .quo .i64 (ari .sub .i64 (ari .add .i64 L a) 1) a) a) → 0 = fitV L s a (32 * sumN cs off n) ∧ false = fitOk L s a (32 * sumN cs off n) := fun k1 k2 k3 k4 => by
    rw [eU k3, eS k3] at k4
    have hf : fitOk L s a (32 * sumN cs off n) = false := by
      cases e : fitOk L s a (32 * sumN cs off n) with
      | false => rfl
      | true => have := (fitOk_iff.1 e).2; omega
    unfold fitV
    rw [hf]
    exact ⟨rfl, rfl⟩
  have yes : 1 ≤ s → s ≤ 128 → (a = 1 ∨ a = 2 ∨ a = 4 ∨ a = 8) → ¬ s > ari .sub .i64 (ari .mul .i64 (sumN cs off n) 32) (ari .mul .i64 (ari .quo .i64 (ari .sub .i64 (ari .add .i64 L a) 1) a) a) → ari .mul .i64 (ari .quo .i64 (ari .sub .i64 (ari .add .i64 L a) 1) a) a = fitV L s a (32 * sumN cs off n) ∧ true = fitOk L s a (32 * sumN cs off n) := fun k1 k2 k3 k4 => by
    rw [eU k3, eS k3] at k4
    have hf : fitOk L s a (32 * sumN cs off n) = true := fitOk_iff.2 ⟨⟨k1, k2, k3⟩, by omega⟩
    unfold fitV
    rw [hf, eU k3]
    exact ⟨rfl, rfl⟩
  generalize hU : ari .mul .i64 (ari .quo .i64 (ari .sub .i64 (ari .add .i64 L a) 1) a) a = U at *
  generalize hV : ari .sub .i64 (ari .mul .i64 (sumN cs off n) 32) U = V at *
  generalize hX : (0 = fitV L s a (32 * sumN cs off n) ∧ false = fitOk L s a (32 * sumN cs off n)) = X at *
  generalize hY : (U = fitV L s a (32 * sumN cs off n) ∧ true = fitOk L s a (32 * sumN cs off n)) = Y at *
  clear hX hY hV hU eU eS
  simp only [decide_eq_true_eq, beq_iff_eq, beq_eq_false_iff_ne, decide_eq_false_iff_not, ne_eq, beq_true, beq_false, Bool.not_eq_eq_eq_not, Bool.not_true, Bool.not_false]
  repeat' first | exact hs | exact h | apply And.intro | (intro hh)
  all_goals first
    | exact trivial
    | exact h
    | exact hs
    | omega
    | exact no (by omega)
    | exact no2 (by omega) (by omega) (by omega) (by assumption)
    | exact yes (by omega) (by omega) (by omega) (by assumption)
end
end Go.Proofs.YtccbfkeigfnibaaDoor
/- Of extent: Place: its loop's states. No condition. -/
namespace Go.Proofs.YtccbfkeigfnibaaDoor
noncomputable section
def plC (off n : Nat) (L t : Int) : List SFr := [callFr 17 Tryd.f17.ntmps [extS off n L, i64 (.o t)] (Tryd.f17.body.getD .skip)]
def plR (off n : Nat) (L t : Int) (cs : Array Value) (ty : TypeId) : Tree := run EX 1000 1 (plC off n L t) (rwM false cs ty)
def plF (off n : Nat) (L t : Int) (b i : Int) : List SFr := setSl [(3, i64 (.o b)), (9, i64 (.o i))] ((plR off n L t #[] 0).fsE.map SFr.bare)
def plM (off n : Nat) (L t : Int) (cs : Array Value) (ty : TypeId) : SMem := (plR off n L t cs ty).memE.bare
def plS (off n : Nat) (L t : Int) (cs : Array Value) (ty : TypeId) (b i : Int) : Tree := stepT EX.go (run EX 1000) 1 (headF (plF off n L t b i)) (plM off n L t cs ty)
def plN (h : Bool) (off n : Nat) (L t : Int) (cs : Array Value) (ty : TypeId) (Q : Int → Int → Prop) (fs : List SFr) (m : SMem) : Prop := match fs with
  | f :: _ => match rdI f 3, rdI f 9 with
    | some b, some i => Q b i ∧ subOk 1 (idFrom 1 (plM off n L t cs ty).next) (hF h (plF off n L t b i)) (plM off n L t cs ty) fs m
    | _, _ => False
  | [] => False
def plT0 : List SIt := tdAt 0 (plF 0 0 0 0 0 0)
def plH0 : List SIt := tdAt 0 (headF (plF 0 0 0 0 0 0))
def plT1 : List SIt := tdAt 1 (plF 0 0 0 0 0 0)
def plT2 : List SIt := tdAt 2 (plF 0 0 0 0 0 0)
def plLp : LoopP := getLp (loopAt 0 (plM 0 0 0 0 #[] 0))
end
end Go.Proofs.YtccbfkeigfnibaaDoor
/- Of extent: Place: its loop's rounds, as propositions. No condition. -/
namespace Go.Proofs.YtccbfkeigfnibaaDoor
set_option maxRecDepth 100000
theorem pl_start (off n : Nat) (L t : Int) (cs : Array Value) (ty : TypeId) (x : Int) (r : Bool) (Q : Int → Int → Prop) : (plR off n L t cs ty).vc (pairR x r) (plN false off n L t cs ty Q) =
    (Q (0 : Int) (0 : Int) ∧ CallKind.normal = CallKind.normal ∧ TodoOk (ren 1 [(1, 1), (2, 2), (3, 3), (4, 4), (5, 5), (6, 6), (7, 7)]) plT0 plT0 ∧ (0 : Int) = (0 : Int) ∧ off = off ∧ n = n ∧ (0 : Int) = (0 : Int) ∧ (↑n : Int) = (↑n : Int) ∧ CallKind.normal = CallKind.normal ∧ TodoOk (ren 1 [(1, 1), (2, 2), (3, 3), (4, 4), (5, 5), (6, 6), (7, 7)]) plT1 plT1 ∧ off = off ∧ n = n ∧ L = L ∧ t = t ∧ Fn.func (33 : Nat) = Fn.func (33 : Nat) ∧ off = off ∧ n = n ∧ L = L ∧ ty = ty ∧ cs = cs ∧ (28 : Nat) = (28 : Nat) ∧ off = off ∧ n = n ∧ L = L ∧ (3 : Nat) = (3 : Nat) ∧ (28 : Nat) = (28 : Nat) ∧ off = off ∧ n = n ∧ L = L ∧ (3 : Nat) = (3 : Nat) ∧ t = t ∧ (4 : Nat) = (4 : Nat) ∧ EqL plLp plLp ∧ off = off ∧ n = n ∧ L = L ∧ t = t ∧ Fn.func (33 : Nat) = Fn.func (33 : Nat) ∧ off = off ∧ n = n ∧ L = L ∧ True) := by kernel_rfl
theorem pl_step (off n : Nat) (L t : Int) (cs : Array Value) (ty : TypeId) (b i : Int) (x : Int) (r : Bool) (Q : Int → Int → Prop) : (plS off n L t cs ty b i).vc (pairR x r) (plN true off n L t cs ty Q) =
    ((decide (i < (↑n : Int)) = true → (((0 : Int) ≤ i ∧ i < (↑n : Int)) ∧ True) ∧ (IsInt IntKind.i64 cs (off + Int.toNat i * 2) ∧ IsInt IntKind.i64 cs (off + Int.toNat i * 2 + 1) ∧ True) ∧ ((decide (t ≥ b) == true) = true → (decide (ari BinOp.sub IntKind.i64 t b < ari BinOp.mul IntKind.i64 (intAt cs (off + Int.toNat i * 2 + 1)) (32 : Int)) = true → ari BinOp.sub IntKind.i64 (ari BinOp.add IntKind.i64 (ari BinOp.mul IntKind.i64 (intAt cs (off + Int.toNat i * 2)) (32 : Int)) t) b = x ∧ true = r) ∧ (decide (ari BinOp.sub IntKind.i64 t b < ari BinOp.mul IntKind.i64 (intAt cs (off + Int.toNat i * 2 + 1)) (32 : Int)) = false → Q (ari BinOp.add IntKind.i64 b (ari BinOp.mul IntKind.i64 (intAt cs (off + Int.toNat i * 2 + 1)) (32 : Int))) (ari BinOp.add IntKind.i64 i (1 : Int)) ∧ CallKind.normal = CallKind.normal ∧ TodoOk (ren 1 [(1, 1), (2, 2), (3, 3), (4, 4), (5, 5), (6, 6), (7, 7)]) plH0 plH0 ∧ ari BinOp.add IntKind.i64 b (ari BinOp.mul IntKind.i64 (intAt cs (off + Int.toNat i * 2 + 1)) (32 : Int)) = ari BinOp.add IntKind.i64 b (ari BinOp.mul IntKind.i64 (intAt cs (off + Int.toNat i * 2 + 1)) (32 : Int)) ∧ off = off ∧ n = n ∧ ari BinOp.add IntKind.i64 i (1 : Int) = ari BinOp.add IntKind.i64 i (1 : Int) ∧ (↑n : Int) = (↑n : Int) ∧ CallKind.normal = CallKind.normal ∧ TodoOk (ren 1 [(1, 1), (2, 2), (3, 3), (4, 4), (5, 5), (6, 6), (7, 7)]) plT1 plT1 ∧ off = off ∧ n = n ∧ L = L ∧ t = t ∧ Fn.func (33 : Nat) = Fn.func (33 : Nat) ∧ off = off ∧ n = n ∧ L = L ∧ ty = ty ∧ cs = cs ∧ (28 : Nat) = (28 : Nat) ∧ off = off ∧ n = n ∧ L = L ∧ (3 : Nat) = (3 : Nat) ∧ (28 : Nat) = (28 : Nat) ∧ off = off ∧ n = n ∧ L = L ∧ (3 : Nat) = (3 : Nat) ∧ t = t ∧ (4 : Nat) = (4 : Nat) ∧ EqL plLp plLp ∧ off = off ∧ n = n ∧ L = L ∧ t = t ∧ Fn.func (33 : Nat) = Fn.func (33 : Nat) ∧ off = off ∧ n = n ∧ L = L ∧ True)) ∧ ((decide (t ≥ b) == true) = false → Q (ari BinOp.add IntKind.i64 b (ari BinOp.mul IntKind.i64 (intAt cs (off + Int.toNat i * 2 + 1)) (32 : Int))) (ari BinOp.add IntKind.i64 i (1 : Int)) ∧ CallKind.normal = CallKind.normal ∧ TodoOk (ren 1 [(1, 1), (2, 2), (3, 3), (4, 4), (5, 5), (6, 6), (7, 7)]) plH0 plH0 ∧ ari BinOp.add IntKind.i64 b (ari BinOp.mul IntKind.i64 (intAt cs (off + Int.toNat i * 2 + 1)) (32 : Int)) = ari BinOp.add IntKind.i64 b (ari BinOp.mul IntKind.i64 (intAt cs (off + Int.toNat i * 2 + 1)) (32 : Int)) ∧ off = off ∧ n = n ∧ ari BinOp.add IntKind.i64 i (1 : Int) = ari BinOp.add IntKind.i64 i (1 : Int) ∧ (↑n : Int) = (↑n : Int) ∧ CallKind.normal = CallKind.normal ∧ TodoOk (ren 1 [(1, 1), (2, 2), (3, 3), (4, 4), (5, 5), (6, 6), (7, 7)]) plT1 plT1 ∧ off = off ∧ n = n ∧ L = L ∧ t = t ∧ Fn.func (33 : Nat) = Fn.func (33 : Nat) ∧ off = off ∧ n = n ∧ L = L ∧ ty = ty ∧ cs = cs ∧ (28 : Nat) = (28 : Nat) ∧ off = off ∧ n = n ∧ L = L ∧ (3 : Nat) = (3 : Nat) ∧ (28 : Nat) = (28 : Nat) ∧ off = off ∧ n = n ∧ L = L ∧ (3 : Nat) = (3 : Nat) ∧ t = t ∧ (4 : Nat) = (4 : Nat) ∧ EqL plLp plLp ∧ off = off ∧ n = n ∧ L = L ∧ t = t ∧ Fn.func (33 : Nat) = Fn.func (33 : Nat) ∧ off = off ∧ n = n ∧ L = L ∧ True)) ∧ (decide (i < (↑n : Int)) = false → (0 : Int) = x ∧ false = r)) := by kernel_rfl
end Go.Proofs.YtccbfkeigfnibaaDoor
/- Of extent: Place: what it answers. No condition. -/
namespace Go.Proofs.YtccbfkeigfnibaaDoor
set_option maxRecDepth 100000
theorem pcs_at (a : Int) {k t : Nat} (h : t < k) : (pcs a k)[t]? = some (.int .i64 (32 * a + (t : Nat))) := by
  unfold pcs
  rw [List.getElem?_map, List.getElem?_range h]
  rfl
theorem bytesL_at {cs : Array Value} {off : Nat} : ∀ {n : Nat}, Small cs off n → ∀ i, i < n → ∀ k : Nat, (k : Int) < 32 * nn0 cs off i → (bytesL cs off n)[(32 * sumN cs off i).toNat + k]? = some (Value.int .i64 (32 * at0 cs off i + (k : Nat)))
  | 0, _, i, hi, _, _ => by omega
  | n + 1, h, i, hi, k, hk => by
    have h' : Small cs off n := fun j hj => h j (by omega)
    have hl := bytesL_len h' n (Nat.le_refl _)
    have hsn := sumN_le h' n (Nat.le_refl _)
    unfold bytesL
    by_cases e : i = n
    · subst e
      rw [List.getElem?_append_right (by omega), show (32 * sumN cs off i).toNat + k - (bytesL cs off i).length = k by omega]
      exact pcs_at _ (by omega)
    · have hin : i < n := by omega
      have hmono : ∀ j, i < j → j ≤ n → sumN cs off i + nn0 cs off i ≤ sumN cs off j := by
        intro j
        induction j with
        | zero => intro a; omega
        | succ j ih =>
          intro a b
          have := h' j (by omega)
          show _ ≤ sumN cs off j + nn0 cs off j
          by_cases e2 : i = j
          · subst e2; omega
          · have := ih (by omega) (by omega); omega
      have := hmono n hin (Nat.le_refl _)
      have hsi := sumN_le h' i (by omega)
      rw [List.getElem?_append_left (by omega)]
      exact bytesL_at h' i hin k hk
def plB (cs : Array Value) (off n : Nat) (t : Int) : Bool := decide (0 ≤ t ∧ t < 32 * sumN cs off n)
def plV (cs : Array Value) (off n : Nat) (t : Int) : Int := if plB cs off n t = true then intAt (bytesL cs off n).toArray t.toNat else 0
theorem plT0_ok : TodoOk (ren 1 [(1, 1), (2, 2), (3, 3), (4, 4), (5, 5), (6, 6), (7, 7)]) plT0 plT0 := TodoOk.same (by kernel_rfl)
theorem plH0_ok : TodoOk (ren 1 [(1, 1), (2, 2), (3, 3), (4, 4), (5, 5), (6, 6), (7, 7)]) plH0 plH0 := TodoOk.same (by kernel_rfl)
theorem plT1_ok : TodoOk (ren 1 [(1, 1), (2, 2), (3, 3), (4, 4), (5, 5), (6, 6), (7, 7)]) plT1 plT1 := TodoOk.same (by kernel_rfl)
section
variable {off n : Nat} {L t : Int} {cs : Array Value} {ty : TypeId}
theorem plN_good {h : Bool} {A : SV → SMem → Prop} {Q : Int → Int → Prop} {fs : List SFr} {m : SMem} (H : ∀ b i, Q b i → Good Tryd.prog A 1 (headF (plF off n L t b i)) (plM off n L t cs ty)) (hb : plN h off n L t cs ty Q fs m) : Good Tryd.prog A 1 fs m := by
  unfold plN at hb
  split at hb
  · split at hb
    · exact hF_good hb.2 (H _ _ hb.1)
    · exact hb.elim
  · exact hb.elim
end
section
variable {off n : Nat} {cs : Array Value} (ty : TypeId) (L t : Int) (h : PrOk cs off n) (hs : Small cs off n) (hat : ∀ i, i < n → 0 ≤ at0 cs off i ∧ at0 cs off i ≤ 63) (ht : -9223372036854775808 ≤ t ∧ t ≤ 9223372036854775807)
include h hs hat ht
theorem pl_round : ∀ k i : Nat, i + k = n → (t < 0 ∨ 32 * sumN cs off i ≤ t) → Good Tryd.prog (pairR (plV cs off n t) (plB cs off n t)) 1 (headF (plF off n L t (32 * sumN cs off i) i)) (plM off n L t cs ty) := by
  have hle := h.le
  intro k
  induction k with
  | zero =>
    intro i hi hb
    obtain rfl : i = n := by omega
    refine past_vc EX_ok 1000 (pl_step off i L t cs ty (32 * sumN cs off i) i (plV cs off i t) (plB cs off i t) (fun _ _ => False)) ?_ (fun _ _ h => h) (fun fs m hb => plN_good (fun _ _ h => h.elim) hb)
    refine ⟨fun hd => ?_, fun _ => ?_⟩
    · have := of_decide_eq_true hd
      omega
    · have hf : plB cs off i t = false := decide_eq_false (by omega)
      unfold plV
      rw [hf]
      exact ⟨rfl, rfl⟩
  | succ k ih =>
    intro i hi hb
    have hi' : i < n := by omega
    have hN := next80 hi' hle
    have hsi := sumN_le hs i (by omega)
    have hsn := sumN_le hs n (Nat.le_refl _)
    have hni := hs i hi'
    have hai := hat i hi'
    have e1 : ari .mul .i64 (nn0 cs off i) 32 = 32 * nn0 cs off i := by rw [ari_mul, i64w (by omega), Int.mul_comm]
    have e2 : ari .add .i64 (32 * sumN cs off i) (32 * nn0 cs off i) = 32 * sumN cs off (i + 1) := by
      rw [ari_add, i64w (by omega)]
      show _ = 32 * (sumN cs off i + nn0 cs off i)
      omega
    have hnext : t < 0 ∨ 32 * sumN cs off (i + 1) ≤ t → Good Tryd.prog (pairR (plV cs off n t) (plB cs off n t)) 1 (headF (plF off n L t (32 * sumN cs off (i + 1)) ((i + 1 : Nat) : Int))) (plM off n L t cs ty) := fun hc => ih (i + 1) (by omega) hc
    refine past_vc EX_ok 1000 (pl_step off n L t cs ty (32 * sumN cs off i) i (plV cs off n t) (plB cs off n t) (fun b' i' => b' = 32 * sumN cs off (i + 1) ∧ i' = ((i + 1 : Nat) : Int) ∧ (t < 0 ∨ 32 * sumN cs off (i + 1) ≤ t))) ?_ (fun _ _ h => h)
      (fun fs m hb => plN_good (fun b' i' ⟨x1, x2, x3⟩ => by rw [x1, x2]; exact hnext x3) hb)
    have esum : sumN cs off (i + 1) = sumN cs off i + nn0 cs off i := rfl
    refine ⟨fun _ => ?_, fun hd => ?_⟩
    · have ea : intAt cs (off + i * 2) = at0 cs off i := rfl
      have eb : intAt cs (off + i * 2 + 1) = nn0 cs off i := rfl
      simp only [Int.toNat_natCast, ea, eb, e1, e2, hN]
      have hTH := plH0_ok
      have hT1 := plT1_ok
      refine ⟨⟨⟨by omega, by omega⟩, trivial⟩, ⟨h.a i hi', h.b i hi', trivial⟩, fun c1 => ⟨fun c2 => ?_, fun c2 => ?_⟩, fun c1 => ?_⟩
      · have c1 : 32 * sumN cs off i ≤ t := by simpa using c1
        have c2 := of_decide_eq_true c2
        rw [ari_sub, i64w (by omega)] at c2
        have hlt : t < 32 * sumN cs off n := by
          have hmono : ∀ j, i < j → j ≤ n → sumN cs off i + nn0 cs off i ≤ sumN cs off j := by
            intro j
            induction j with
            | zero => intro a; omega
            | succ j ih =>
              intro a b
              have := hs j (by omega)
              show _ ≤ sumN cs off j + nn0 cs off j
              by_cases e2 : i = j
              · subst e2; omega
              · have := ih (by omega) (by omega); omega
          have := hmono n hi' (Nat.le_refl _)
          omega
        have hf : plB cs off n t = true := decide_eq_true ⟨by omega, hlt⟩
        have hk := bytesL_at hs i hi' (t - 32 * sumN cs off i).toNat (by omega)
        have hidx : (32 * sumN cs off i).toNat + (t - 32 * sumN cs off i).toNat = t.toNat := by omega
        rw [hidx] at hk
        have hv : intAt (bytesL cs off n).toArray t.toNat = 32 * at0 cs off i + (t - 32 * sumN cs off i).toNat := by
          unfold intAt
          rw [List.getElem?_toArray, hk]
        have e3 : ari .mul .i64 (at0 cs off i) 32 = 32 * at0 cs off i := by rw [ari_mul, i64w (by omega), Int.mul_comm]
        have e4 : ari .add .i64 (32 * at0 cs off i) t = 32 * at0 cs off i + t := by rw [ari_add, i64w (by omega)]
        refine ⟨?_, hf.symm⟩
        rw [e3, e4, ari_sub, i64w (by omega)]
        unfold plV
        rw [if_pos hf, hv]
        omega
      · have c1 : 32 * sumN cs off i ≤ t := by simpa using c1
        have c2 := of_decide_eq_false c2
        rw [ari_sub, i64w (by omega)] at c2
        have hc : t < 0 ∨ 32 * sumN cs off (i + 1) ≤ t := by rw [esum]; omega
        repeat' first | exact hc | exact hTH | exact hT1 | exact trivial | exact rfl | apply And.intro
      · have c1 : ¬ 32 * sumN cs off i ≤ t := by simpa using c1
        have hc : t < 0 ∨ 32 * sumN cs off (i + 1) ≤ t := by omega
        repeat' first | exact hc | exact hTH | exact hT1 | exact trivial | exact rfl | apply And.intro
    · have := of_decide_eq_false hd
      omega
theorem pl_good : Good Tryd.prog (pairR (plV cs off n t) (plB cs off n t)) 1 (plC off n L t) (rwM false cs ty) := by
  have h0 : sumN cs off 0 = 0 := rfl
  refine run_vc EX_ok 1000 (pl_start off n L t cs ty (plV cs off n t) (plB cs off n t) (fun b i => b = 32 * sumN cs off 0 ∧ i = ((0 : Nat) : Int))) ?_ (fun _ _ h => h)
    (fun fs m hb => plN_good (fun b i ⟨e1, e2⟩ => by rw [e1, e2]; exact pl_round ty L t h hs hat ht n 0 (by omega) (by rw [h0]; omega)) hb)
  have hT0 := plT0_ok
  have hT1 := plT1_ok
  repeat' first | exact hT0 | exact hT1 | exact trivial | exact rfl | apply And.intro
end
end Go.Proofs.YtccbfkeigfnibaaDoor
/- Of extent: Same: its loop's states. No condition. -/
namespace Go.Proofs.YtccbfkeigfnibaaDoor
noncomputable section
def sl1 (off n : Nat) : SF := .slice 1 (.o off) (.o n) .any
def ex1S (off n : Nat) (len : Int) : SV := .s (.agg (.ls [.f (sl1 off n), .f (.int .i64 (.o len))]))
def smM0 (v : Bool) (cs ds : Array Value) (ty tz : TypeId) : SMem := ⟨2, ((Tr.nil : Tr SBlk).set 0 (some ⟨.pop cs, ty, false⟩)).set 1 (some ⟨rwA v ds, tz, false⟩), []⟩
def smC (off n : Nat) (L : Int) (off' n' : Nat) (L' : Int) : List SFr := [callFr 15 Tryd.f15.ntmps [extS off n L, ex1S off' n' L'] (Tryd.f15.body.getD .skip)]
def smR (v : Bool) (off n : Nat) (L : Int) (off' n' : Nat) (L' : Int) (cs ds : Array Value) (ty tz : TypeId) : Tree := run EX 1000 2 (smC off n L off' n' L') (smM0 v cs ds ty tz)
def smF (i : Int) : List SFr := reTm [tmOf Tryd.f15.ntmps [(2, ptr 2 (.l 0)), (3, ptr 3 (.l 0)), (5, i64 (.o i))]] ((smR true 0 0 0 0 0 0 #[] #[] 0 0).fsAt 4)
def smM (v : Bool) (off n : Nat) (L : Int) (off' n' : Nat) (L' : Int) (cs ds : Array Value) (ty tz : TypeId) : SMem :=
  ⟨4, ((((Tr.nil : Tr SBlk).set 0 (some ⟨.pop cs, ty, false⟩)).set 1 (some ⟨rwA v ds, tz, false⟩)).set 2 (some ⟨.ls [.f (sl0 off n), .f (.int .i64 (.o L))], 28, true⟩)).set 3 (some ⟨.ls [.f (sl1 off' n'), .f (.int .i64 (.o L'))], 24, true⟩), []⟩
def smS (v : Bool) (off n : Nat) (L : Int) (off' n' : Nat) (L' : Int) (cs ds : Array Value) (ty tz : TypeId) (i : Int) : Tree := stepT EX.go (run EX 1000) 2 (headF (smF i)) (smM v off n L off' n' L' cs ds ty tz)
def smN (h v : Bool) (off n : Nat) (L : Int) (off' n' : Nat) (L' : Int) (cs ds : Array Value) (ty tz : TypeId) (Q : Int → Prop) (fs : List SFr) (m : SMem) : Prop := match fs with
  | f :: _ => match rdI f 5, rdP f 2, rdP f 3 with
    | some i, some p, some q => Q i ∧ subOk 2 [(2, p), (3, q)] (hF h (smF i)) (smM v off n L off' n' L' cs ds ty tz) fs m
    | _, _, _ => False
  | [] => False
def smT : List SIt := headTd (smF 0)
def smH : List SIt := headTd (headF (smF 0))
end
end Go.Proofs.YtccbfkeigfnibaaDoor
/- Of extent: Same: its loop's rounds, as propositions. No condition. -/
namespace Go.Proofs.YtccbfkeigfnibaaDoor
set_option maxRecDepth 100000
theorem sm_start_r (off n : Nat) (L : Int) (off' n' : Nat) (L' : Int) (cs ds : Array Value) (ty tz : TypeId) (Q : Int → Prop) : (smR true off n L off' n' L' cs ds ty tz).vc (boolR true) (smN false true off n L off' n' L' cs ds ty tz Q) =
    (((((↑n : Int) != (↑n' : Int)) == false) = true → ((L != L') = true → false = true) ∧ ((L != L') = false → Q (0 : Int) ∧ CallKind.normal = CallKind.normal ∧ TodoOk (ren 2 [(2, 2), (3, 3)]) smT smT ∧ (0 : Int) = (0 : Int) ∧ ty = ty ∧ cs = cs ∧ tz = tz ∧ ds = ds ∧ (24 : TypeId) = (24 : Nat) ∧ off' = off' ∧ n' = n' ∧ L' = L' ∧ (28 : TypeId) = (28 : Nat) ∧ off = off ∧ n = n ∧ L = L ∧ True)) ∧ ((((↑n : Int) != (↑n' : Int)) == false) = false → false = true)) := by kernel_rfl
theorem sm_start_p (off n : Nat) (L : Int) (off' n' : Nat) (L' : Int) (cs ds : Array Value) (ty tz : TypeId) (Q : Int → Prop) : (smR false off n L off' n' L' cs ds ty tz).vc (boolR true) (smN false false off n L off' n' L' cs ds ty tz Q) =
    (((((↑n : Int) != (↑n' : Int)) == false) = true → ((L != L') = true → false = true) ∧ ((L != L') = false → Q (0 : Int) ∧ CallKind.normal = CallKind.normal ∧ TodoOk (ren 2 [(2, 2), (3, 3)]) smT smT ∧ (0 : Int) = (0 : Int) ∧ ty = ty ∧ cs = cs ∧ tz = tz ∧ ds = ds ∧ (24 : TypeId) = (24 : Nat) ∧ off' = off' ∧ n' = n' ∧ L' = L' ∧ (28 : TypeId) = (28 : Nat) ∧ off = off ∧ n = n ∧ L = L ∧ True)) ∧ ((((↑n : Int) != (↑n' : Int)) == false) = false → false = true)) := by kernel_rfl
theorem sm_step_r (off n : Nat) (L : Int) (off' n' : Nat) (L' : Int) (cs ds : Array Value) (ty tz : TypeId) (i : Int) (Q : Int → Prop) : (smS true off n L off' n' L' cs ds ty tz i).vc (boolR true) (smN true true off n L off' n' L' cs ds ty tz Q) =
    ((decide (i < (↑n : Int)) = true → (((0 : Int) ≤ i ∧ i < (↑n : Int)) ∧ True) ∧ (IsInt IntKind.i64 cs (off + Int.toNat i * 2) ∧ True) ∧ (((0 : Int) ≤ i ∧ i < (↑n' : Int)) ∧ True) ∧ (IsInt IntKind.i64 ds (off' + Int.toNat i * 2) ∧ True) ∧ (((intAt cs (off + Int.toNat i * 2) != intAt ds (off' + Int.toNat i * 2)) == false) = true → (((0 : Int) ≤ i ∧ i < (↑n : Int)) ∧ True) ∧ (IsInt IntKind.i64 cs (off + Int.toNat i * 2 + 1) ∧ True) ∧ (((0 : Int) ≤ i ∧ i < (↑n' : Int)) ∧ True) ∧ (IsInt IntKind.i64 ds (off' + Int.toNat i * 2 + 1) ∧ True) ∧ ((intAt cs (off + Int.toNat i * 2 + 1) != intAt ds (off' + Int.toNat i * 2 + 1)) = true → false = true) ∧ ((intAt cs (off + Int.toNat i * 2 + 1) != intAt ds (off' + Int.toNat i * 2 + 1)) = false → Q (ari BinOp.add IntKind.i64 i (1 : Int)) ∧ CallKind.normal = CallKind.normal ∧ TodoOk (ren 2 [(2, 2), (3, 3)]) smH smH ∧ ari BinOp.add IntKind.i64 i (1 : Int) = ari BinOp.add IntKind.i64 i (1 : Int) ∧ ty = ty ∧ cs = cs ∧ tz = tz ∧ ds = ds ∧ (24 : TypeId) = (24 : TypeId) ∧ off' = off' ∧ n' = n' ∧ L' = L' ∧ (28 : TypeId) = (28 : TypeId) ∧ off = off ∧ n = n ∧ L = L ∧ True)) ∧ (((intAt cs (off + Int.toNat i * 2) != intAt ds (off' + Int.toNat i * 2)) == false) = false → false = true)) ∧ (decide (i < (↑n : Int)) = false → true = true)) := by kernel_rfl
theorem sm_step_p (off n : Nat) (L : Int) (off' n' : Nat) (L' : Int) (cs ds : Array Value) (ty tz : TypeId) (i : Int) (Q : Int → Prop) : (smS false off n L off' n' L' cs ds ty tz i).vc (boolR true) (smN true false off n L off' n' L' cs ds ty tz Q) =
    ((decide (i < (↑n : Int)) = true → (((0 : Int) ≤ i ∧ i < (↑n : Int)) ∧ True) ∧ (IsInt IntKind.i64 cs (off + Int.toNat i * 2) ∧ True) ∧ (((0 : Int) ≤ i ∧ i < (↑n' : Int)) ∧ True) ∧ (IsInt IntKind.i64 ds (off' + Int.toNat i * 2) ∧ True) ∧ (((intAt cs (off + Int.toNat i * 2) != intAt ds (off' + Int.toNat i * 2)) == false) = true → (((0 : Int) ≤ i ∧ i < (↑n : Int)) ∧ True) ∧ (IsInt IntKind.i64 cs (off + Int.toNat i * 2 + 1) ∧ True) ∧ (((0 : Int) ≤ i ∧ i < (↑n' : Int)) ∧ True) ∧ (IsInt IntKind.i64 ds (off' + Int.toNat i * 2 + 1) ∧ True) ∧ ((intAt cs (off + Int.toNat i * 2 + 1) != intAt ds (off' + Int.toNat i * 2 + 1)) = true → false = true) ∧ ((intAt cs (off + Int.toNat i * 2 + 1) != intAt ds (off' + Int.toNat i * 2 + 1)) = false → Q (ari BinOp.add IntKind.i64 i (1 : Int)) ∧ CallKind.normal = CallKind.normal ∧ TodoOk (ren 2 [(2, 2), (3, 3)]) smH smH ∧ ari BinOp.add IntKind.i64 i (1 : Int) = ari BinOp.add IntKind.i64 i (1 : Int) ∧ ty = ty ∧ cs = cs ∧ tz = tz ∧ ds = ds ∧ (24 : TypeId) = (24 : TypeId) ∧ off' = off' ∧ n' = n' ∧ L' = L' ∧ (28 : TypeId) = (28 : TypeId) ∧ off = off ∧ n = n ∧ L = L ∧ True)) ∧ (((intAt cs (off + Int.toNat i * 2) != intAt ds (off' + Int.toNat i * 2)) == false) = false → false = true)) ∧ (decide (i < (↑n : Int)) = false → true = true)) := by kernel_rfl
end Go.Proofs.YtccbfkeigfnibaaDoor
