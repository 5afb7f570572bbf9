/- What a table of bytes that the program lays holds, for the symbolic machine; a call that is told of no block. No condition. -/
import Derived.Test.YtiblicobfmihdaaDoorRows
import Derived.Test.YtiblicobfmihdaaDoorE1
import Derived.ProofKit
import Derived.LaidMore
import Derived.OpenShut
import Derived.ChangeSame
import Derived.Deep.Slices
import Derived.Deep.Fields
import Derived.Stop.Joined
import Derived.Test.YtiblicobfmihdaaDoorK15
import Derived.Test.YtiblicobfmihdaaDoorF1
import Derived.IntWalk
import Derived.Test.YtiblicobfmihdaaDoorK1
import Derived.Lib.TrailingZeros
import Derived.Test.YtiblicobfmihdaaDoorK2
import Derived.Test.YtiblicobfmihdaaDoorK14c
import Derived.Test.YtiblicobfmihdaaDoorK23
set_option linter.unusedVariables false
set_option linter.unusedSimpArgs false
namespace Go.Proofs.YtiblicobfmihdaaDoor
open Go.ChangeShapes Go.WideShapes Go.ChangeAt Go.WideMaps Go.WideElems Go.RowKit

theorem own : ownKnob Tryd.prog.godebug = none := by kernel_rfl
theorem laidOut : laidOutB Tryd.prog = true := by kernel_rfl
theorem gTab : Tryd.prog.globalNamed "math/bits.deBruijn64tab" = some 0 := by kernel_rfl
theorem tTab : (Tryd.prog.globals[0]?).map (·.type) = some 76 := by kernel_rfl
def tabV : List Value := (glTab.headD (0, [])).2
def tabD {H : Type} : List (DataW H) := tabV.map fun | .int k n => .lit (.int k n) | _ => .nil
theorem tabD_eq {H : Type} : (Rows.laid_math_bits_deBruijn64tab : DataW H) = .agg tabD := rfl
theorem tab_byte : ∀ i : Nat, i < 64 → ∃ n, tabV[i]? = some (.int .u8 n) := by
  intro i hi
  have : ∀ i : Fin 64, (match tabV[i.val]? with | some (.int .u8 _) => true | _ => false) = true := by decide +kernel
  have := this ⟨i, hi⟩
  revert this
  generalize tabV[i]? = v
  intro h
  split at h
  · rename_i n; exact ⟨n, rfl⟩
  · cases h
def laidL : List (String × DataW Unit) := [("math/bits.deBruijn64tab", Rows.laid_math_bits_deBruijn64tab)]
/-- The table lies there. -/
theorem tab_lies {W : World} (h : laidMetH Tryd.prog laidL W) : ∃ cs ty fz, W.heap[0]? = some (.cells cs ty fz) ∧ ∀ i : Nat, i < tabV.length → cs[i]? = tabV[i]? := by
  rw [MakeChecks.laidMetH_plain _ _ _ (by kernel_rfl)] at h
  obtain ⟨ps, ⟨g0, t0, cs0, f0, p0, q0, hg0, ht0, hv0, hd0, _, _⟩, _, _⟩ := h
  obtain rfl := Option.some.inj (gTab.symm.trans hg0)
  obtain rfl := Option.some.inj (tTab.symm.trans ht0)
  have hv0' := hv0
  unfold World.var? at hv0
  rw [gTab] at hv0
  simp only [Option.bind_some] at hv0
  split at hv0
  · rename_i cs ty fz hb
    cases hv0
    refine ⟨cs0, ty, fz, hb, ?_⟩
    obtain ⟨xs, m1, rfl, hx1, hlen, hn3, hel⟩ := DataW.trod_array Tryd.underlying76 hd0
    have c5 : Tryd.prog.cellsOf 5 = 1 := by kernel_rfl
    have cT : Tryd.prog.cellsOf 76 = 64 := by kernel_rfl
    rw [cT] at hlen
    have hlen : cs0.size = 64 := by simpa using hlen
    simp only [Prod.mk.injEq, tabD_eq, DataW.agg.injEq] at hx1
    intro i hi
    have hi : i < 64 := hi
    obtain ⟨n, hn⟩ := tab_byte i hi
    have h0 := hel i hi
    have hxi : xs[i]? = some (xs[i]'(by omega)) := List.getElem?_eq_getElem (by omega)
    rw [c5, Nat.mul_one, hxi] at h0
    have hci : cs0.toList[i]? = some (cs0[i]'(by omega)) := by rw [Array.getElem?_toList, Array.getElem?_eq_getElem (by omega)]
    have hdrop : (cs0.toList.drop i).take 1 = [cs0[i]'(by omega)] := by
      rw [List.drop_eq_getElem_cons (by rw [Array.length_toList]; omega)]
      simp
    rw [hdrop] at h0
    obtain ⟨k, e1, e2, _⟩ := DataW.trod_int Tryd.underlying5 h0
    have e3 : (xs.map (·.1))[i]? = (tabD : List (DataW Unit))[i]? := by rw [hx1.1]
    rw [List.getElem?_map, hxi] at e3
    unfold tabD at e3
    rw [List.getElem?_map, hn] at e3
    rw [e2] at e3
    simp only [Option.map_some, Option.some.injEq, DataW.lit.injEq, Lit.int.injEq] at e3
    simp only [List.cons.injEq, and_true] at e1
    rw [← Array.getElem?_toList, hci, e1, hn, e3.2]
  · cases hv0
theorem tab_small {W : World} (h : laidMetH Tryd.prog laidL W) : 0 < W.heap.size := by
  obtain ⟨cs, ty, fz, hb, _⟩ := tab_lies h
  exact (Array.getElem?_eq_some_iff.1 hb).1
/-- The start of a call: no block is known. -/
theorem rel_start {W : World} (h : laidMetH Tryd.prog laidL W) (n : Nat) : Rel W.heap.size (fun _ => False) W (fun _ => none) ⟨n, .nil, []⟩ W :=
  ⟨fun _ _ _ _ _ _ h => by (cases h), fun _ _ h => by (cases h), fun _ _ h => by (cases h), fun i b h => by (have h : (Tr.nil : Tr SBlk).get i = some b := h; rw [Tr.get_nil] at h; cases h), Nat.le_refl _, BelowF.refl _ _ _, fun _ _ h => by (cases h), fun _ _ _ _ _ _ h => by (cases h), fun g cs hg => by
    have e : (g, cs) = (0, tabV) := by
      have : glTab = [(0, tabV)] := rfl
      rw [this] at hg
      simpa using hg
    cases e
    obtain ⟨cs', ty, fz, h1, h2⟩ := tab_lies h
    exact ⟨tab_small h, fun x => x, cs', ty, fz, h1, h2⟩⟩
theorem below_of {n0 : Nat} {w0 w : World} (h : BelowF n0 (fun _ => False) w0 w) : Below n0 w0 w := ⟨h.os, h.tape, h.output, h.size, fun k hk => h.block k hk fun x => x⟩
section
variable {H : Type} {enc : TypeId × Value → H} {P : Program}
theorem post_of_below {f : Func} {s : ChangeSpec} {apart fresh handsOn again : Bool} {W W' : World} {args : Array Value} {v : Value} {ds gs : List (DataW H)} {before pa pv : List MemPlace}
    (hW : DataW.Whole enc P f.params.toList s.vars apart W args.toList ds gs before)
    (hres : ∀ (b : Nat) (sp : Nat → Bool) (hd : Bool), DataW.TrodAll enc P W' b sp hd f.resultTypes.toList (v.resultList f.resultTypes.size) (s.fn H (ds ++ gs)).results [])
    (hargs : ∀ sp : Nat → Bool, (∀ p ∈ before, sp p.block = true) → DataW.TrodAll enc P W' 0 sp true f.params.toList args.toList (s.fn H (ds ++ gs)).args pa)
    (hvars : ∀ sp : Nat → Bool, (∀ p ∈ before, sp p.block = true) → DataW.TrodVars enc P W' sp s.vars (s.fn H (ds ++ gs)).vars pv)
    (hps : before = pa ++ pv) (hb : Below W.heap.size W W')
    (hok : ∀ (j : Nat) (t : TypeId) (r : Value), f.resultTypes[j]? = some t → (v.resultList f.resultTypes.size)[j]? = some r → Value.okWide P W' .any 0 t r) :
    s.post enc P f apart fresh handsOn again W args v W' := by
  have hlt : ∀ p ∈ before, p.block < W.heap.size := fun p hp => hW.lt p hp
  have hold : ∀ p ∈ before, (fun b => decide (b < W.heap.size)) p.block = true := fun p hp => by simpa using hlt p hp
  refine ⟨ds, gs, before, [], pa, pv, hW, hres _ _ _, hargs _ hold, hvars _ hold, World.keptBut_mono (fun p hp => ⟨hp, ?_⟩) (hb.frame (· ∈ before)), fun _ => ?_⟩
  · rw [hps, List.mem_append] at hp
    exact Or.inr hp
  · obtain ⟨_, _, _, _, _, hz, hn⟩ := hW
    refine ⟨hok, _, _, ([] ++ pa) ++ pv, ⟨[] ++ pa, pv, trodAll_append (hargs _ (fun _ _ => rfl)) (hres _ _ _), hvars _ (fun _ _ => rfl), rfl, ?_, ?_⟩, ?_⟩
    · intro b off hp
      have hin : MemPlace.cell b off ∈ before := by rw [hps]; simpa using hp
      rw [hb.frozen (hlt _ hin)]
      exact hz b off hin
    · intro ha
      have := hn ha
      rw [hps] at this
      simpa using this
    · intro p hp _
      rw [hps]
      simpa using hp
end
end Go.Proofs.YtiblicobfmihdaaDoor
/- Blocks that came in, told to the symbolic machine one by one; slices that came in. No condition. -/
namespace Go.Proofs.YtiblicobfmihdaaDoor
noncomputable section
open Go.ChangeShapes Go.WideShapes Go.ChangeAt Go.RowKit Go.Deep
theorem sub_get {l : List Value} {a b o : Nat} {v : Value} (h : ((l.drop a).take b)[o]? = some v) : l[a + o]? = some v := by
  rw [List.getElem?_take] at h
  split at h
  · rw [List.getElem?_drop] at h; exact h
  · cases h
theorem sub_one {l : List Value} {a b : Nat} {v : Value} (h : (l.drop a).take b = [v]) : l[a]? = some v := by
  have : ((l.drop a).take b)[0]? = some v := by rw [h]; rfl
  exact sub_get this
section
variable {H : Type} {enc : TypeId × Value → H} {P : Program} {w : World} {base : Nat} {spare : Nat → Bool} {held : Bool}
theorem field_of {t : TypeId} {fs : Array Field} {fuel : Nat} {cs : List Value} {x : DataW H × List MemPlace} (ht : P.underlying t = some (.struct fs)) (h : DataW.trod enc P w base spare held fuel t cs = some x)
    (i : Nat) {f : Field} (hf : fs[i]? = some f) : ∃ n y, DataW.trod enc P w base spare held n f.type ((cs.drop f.offset).take (P.cellsOf f.type)) = some y := by
  obtain ⟨ys, n, _, _, _, hyl, hg⟩ := DataW.trod_struct ht h
  have hlt : i < fs.size := (Array.getElem?_eq_some_iff.1 hf).1
  have hys : ys[i]? = some (ys[i]'(by omega)) := List.getElem?_eq_getElem (by omega)
  exact ⟨n, _, (hg i f hf).trans hys⟩
theorem add_none (b off n : Nat) : (⟨b, off, none⟩ : Addr).add n = ⟨b, off + n, none⟩ := by
  unfold Addr.add
  split
  · rename_i e; subst e; rfl
  · rfl
/-- A slice that came in: where it lies, and each element as it reads. -/
theorem slice_cells {t e : TypeId} {base' C : Nat} {fuel : Nat} {A : Option Addr} {len cap : Nat} {x : DataW H × List MemPlace} (ht : P.underlying t = some (.slice e)) (hC : P.cellsOf e = C)
    (hok : Value.okWide P w .any base t (.slice A len cap)) (h : DataW.trod enc P w base' (fun _ => true) held fuel t [.slice A len cap] = some x) :
    (A = none ∧ len = 0 ∧ cap = 0) ∨ ∃ b off cs ty fz, A = some ⟨b, off, none⟩ ∧ len ≤ cap ∧ cap ≤ maxLen ∧ w.heap[b]? = some (.cells cs ty fz) ∧
      ∀ j, j < len → ∃ n y, DataW.trod enc P w base' (fun _ => true) held n e ((cs.toList.drop (off + j * C)).take C) = some y := by
  rcases open_slice ht h with ⟨hcs, hx⟩ | ⟨a, len', cap', m, n, D, Pl, hcs, _, hl, hmx, hm, hx, hi⟩
  · simp at hcs
    exact .inl hcs
  · simp at hcs
    obtain ⟨rfl, rfl, rfl⟩ := hcs
    simp at hm
    subst hm
    obtain ⟨b, off, spot⟩ := a
    simp only [Value.okWide, ht, Cell.okWide, Cell.ok] at hok
    obtain ⟨_, _, _, hs, _, _, hsh, _⟩ := hok
    have hs : spot = none := hs
    subst hs
    cases ho : w.heap[b]? with
    | none => simp [World.shape?, ho] at hsh
    | some o =>
      have hcells : ∃ cs ty fz, o = .cells cs ty fz := by
        cases o <;> first | exact ⟨_, _, _, rfl⟩ | simp [World.shape?, ho] at hsh
      obtain ⟨cs, ty, fz, rfl⟩ := hcells
      refine .inr ⟨b, off, cs, ty, fz, rfl, hl, hmx, ho, fun j hj => ?_⟩
      obtain ⟨cs', hc, ht'⟩ := hi j (by omega)
      rw [hC] at hc
      obtain ⟨_, hcl, hat⟩ := World.cells?_some hc
      refine ⟨n, (D j, Pl j), ?_⟩
      rw [← ht']
      congr 1
      apply List.ext_getElem?
      intro i
      rw [List.getElem?_take]
      by_cases hi' : i < C
      · rw [if_pos hi', ← hat i hi', add_none, add_none]
        simp [World.cell?, ho, Nat.add_assoc]
      · rw [if_neg hi', List.getElem?_eq_none (by omega)]
end

/-- Nothing of what is known may be written. -/
def OnlyRead (m : SMem) : Prop := m.xs = [] ∧ ∀ i b, getB m.bl i = some b → b.wr = false
theorem rel_add {W : World} {R : Ren} {m : SMem} (hR : Rel W.heap.size (fun _ => False) W R m W) (ho : OnlyRead m) {i b : Nat} {cs : Array Value} {ty : TypeId} {fz : Nat × Nat} (hi : i < m.next) (hn : R i = none) (hb : W.heap[b]? = some (.cells cs ty fz)) :
    Rel W.heap.size (fun _ => False) W (fun j => if j = i then some ⟨b, cs.size⟩ else R j) ⟨m.next, m.bl.set i (some ⟨.raw cs, ty, false⟩), m.xs⟩ W ∧ OnlyRead ⟨m.next, m.bl.set i (some ⟨.raw cs, ty, false⟩), m.xs⟩ := by
  have ho' : OnlyRead ⟨m.next, m.bl.set i (some ⟨.raw cs, ty, false⟩), m.xs⟩ := by
    refine ⟨ho.1, fun j c hc => ?_⟩
    have hc : (m.bl.set i (some ⟨.raw cs, ty, false⟩)).get j = some c := hc
    rw [Tr.get_set] at hc
    split at hc
    · cases hc; rfl
    · exact ho.2 j c hc
  have hlt : b < W.heap.size := (Array.getElem?_eq_some_iff.1 hb).1
  refine ⟨⟨fun j k g h x y h1 h2 h3 h4 h5 h6 => ?_, fun j g h => ?_, fun j g h => ?_, fun j c hc => ?_, Nat.le_refl _, BelowF.refl _ _ _, fun j x hx => ?_, fun j k g h x y _ _ _ h4 => ?_, fun g cs hg => ?_⟩, ho'⟩
  · have e1 := ho'.2 _ _ h4
    have e2 := ho'.2 _ _ h5
    rw [e1, e2] at h6
    rcases h6 with h6 | h6 <;> cases h6
  · split at h
    · cases h; exact hlt
    · exact hR.lt j g h
  · split at h
    · rename_i e; rw [e]; exact hi
    · exact hR.nx j g h
  · have hc : (m.bl.set i (some ⟨.raw cs, ty, false⟩)).get j = some c := hc
    rw [Tr.get_set] at hc
    split at hc
    · rename_i e
      cases hc
      exact ⟨⟨b, cs.size⟩, cs, fz, by simp [e], hb, rfl, rfl, fun h => by cases h⟩
    · rename_i e
      obtain ⟨g, cs', fz', k1, k2, k3, k4, k5⟩ := hR.blk j c hc
      refine ⟨g, cs', fz', by simp [e, k1], k2, k3, SA.monoM (fun l g hl => ?_) k4, k5⟩
      by_cases el : l = i
      · rw [el, hn] at hl; cases hl
      · rw [if_neg el]; exact hl
  · have hx : getX m.xs j = some x := hx
    rw [ho.1] at hx; cases hx
  · have h4 : getX m.xs j = some x := h4
    rw [ho.1] at h4; cases h4
  · exact hR.gl g cs hg
theorem onlyRead_nil (n : Nat) : OnlyRead ⟨n, .nil, []⟩ := ⟨rfl, fun i b h => by
  have h : (Tr.nil : Tr SBlk).get i = some b := h
  rw [Tr.get_nil] at h; cases h⟩
theorem isInt_of {k : IntKind} {cs : Array Value} {i : Nat} {n : Int} (h : cs.toList[i]? = some (.int k n)) : IsInt k cs i := by
  rw [Array.getElem?_toList] at h
  unfold IsInt intAt
  rw [h]
end
end Go.Proofs.YtiblicobfmihdaaDoor
/- Of pool: the closed test. No condition. -/
namespace Go.Proofs.YtiblicobfmihdaaDoor
set_option maxRecDepth 1000000 in
theorem wakes_fast : (runC E0 200000 0 [callFr 4 Tryd.f4.ntmps [] (Tryd.f4.body.getD .skip)] ⟨0, .nil, []⟩).allTrue = true := by kernel_rfl
theorem wakes_true : (run E0 200000 0 [callFr 4 Tryd.f4.ntmps [] (Tryd.f4.body.getD .skip)] ⟨0, .nil, []⟩).allTrue = true := by
  rw [← runC_eq]
  exact wakes_fast
theorem wakes_fn : E0.fn 4 = some Tryd.f4 := by kernel_rfl
theorem wakes_body : Tryd.f4.body = some (Tryd.f4.body.getD .skip) := by kernel_rfl
theorem wakes_con (m : SMem) : Con E0 4 [] m (needs [] (.ret (sB (.l true)) m)) :=
  Con.pure E0_ok wakes_fn wakes_body (by kernel_rfl) (by kernel_rfl) fun _ => good_true E0_ok wakes_true
end Go.Proofs.YtiblicobfmihdaaDoor
/- Of runs: contracts of the functions of numbers. No condition. -/
namespace Go.Proofs.YtiblicobfmihdaaDoor
section
variable (p n : Int)
def mayB : Bool := decide (1 ≤ n ∧ 0 ≤ p ∧ p < 64 ∧ n ≤ 64 - p)
theorem may_run (b : Bool) : (run E0 1000 0 [callFr 35 Tryd.f35.ntmps [i64 (.o p), i64 (.o n)] (Tryd.f35.body.getD .skip)] ⟨0, .nil, []⟩).vc (retOk 0 [] (sB (.o b)) ⟨0, .nil, []⟩) (fun _ _ => False) =
    (((decide (n ≥ 1) == true) = true →
        ((decide (p ≥ 0) == true) = true →
            ((decide (p < 64) == true) = true → b = decide (n ≤ IntKind.i64.wrap (64 - p)) ∧ True) ∧
              ((decide (p < 64) == true) = false → b = false ∧ True)) ∧
          ((decide (p ≥ 0) == true) = false → b = false ∧ True)) ∧
      ((decide (n ≥ 1) == true) = false → b = false ∧ True)) := by kernel_rfl
theorem may_fn : E0.fn 35 = some Tryd.f35 := by kernel_rfl
theorem may_body : Tryd.f35.body = some (Tryd.f35.body.getD .skip) := by kernel_rfl
theorem may_con (m : SMem) : Con E0 35 [i64 (.o p), i64 (.o n)] m (needs [] (.ret (sB (.o (mayB p n))) m)) := by
  refine Con.pure E0_ok may_fn may_body (by kernel_rfl) (by kernel_rfl) fun _ => ?_
  have hw : 0 ≤ p → p < 64 → IntKind.i64.wrap (64 - p) = 64 - p := fun h1 h2 => by
    exact Go.IntWalk.i64_in _ (by omega)
  refine (Good.ret [] (run_vc E0_ok 1000 (may_run p n (mayB p n)) ?_ (fun s m h => h) fun _ _ h => h.elim)).mono fun _ _ h => h.1
  unfold mayB
  by_cases h1 : n ≥ 1 <;> by_cases h2 : p ≥ 0 <;> by_cases h3 : p < 64 <;> simp [h1, h2, h3] <;> first | (rw [hw h2 h3]; omega) | omega | skip
def spanI : Int := IntKind.u64.wrap (Int.fdiv 18446744073709551615 (2 ^ min (IntKind.i64.wrap (64 - n)).toNat 64) * 2 ^ min p.toNat 64)
theorem span_run (x : Int) : (run E0 1000 0 [callFr 37 Tryd.f37.ntmps [i64 (.o p), i64 (.o n)] (Tryd.f37.body.getD .skip)] ⟨0, .nil, []⟩).vc (retOk 0 [] (.s (.c (.f (.int .u64 (.o x))))) ⟨0, .nil, []⟩) (fun _ _ => False) =
    ((0 ≤ IntKind.i64.wrap (64 - n) ∧ True) ∧ (0 ≤ p ∧ True) ∧ x = spanI p n ∧ True) := by kernel_rfl
theorem span_fn : E0.fn 37 = some Tryd.f37 := by kernel_rfl
theorem span_body : Tryd.f37.body = some (Tryd.f37.body.getD .skip) := by kernel_rfl
theorem span_con (m : SMem) : Con E0 37 [i64 (.o p), i64 (.o n)] m (needs [0 ≤ IntKind.i64.wrap (64 - n), 0 ≤ p] (.ret (.s (.c (.f (.int .u64 (.o (spanI p n)))))) m)) := by
  refine Con.pure E0_ok span_fn span_body (by kernel_rfl) (by kernel_rfl) fun hq => ?_
  refine (Good.ret [] (run_vc E0_ok 1000 (span_run p n (spanI p n)) ?_ (fun s m h => h) fun _ _ h => h.elim)).mono fun _ _ h => h.1
  exact ⟨⟨hq _ (by simp), trivial⟩, ⟨hq _ (by simp), trivial⟩, rfl, trivial⟩
end
end Go.Proofs.YtiblicobfmihdaaDoor
/- Of runs: the functions of math/bits, as propositions. No condition. -/
namespace Go.Proofs.YtiblicobfmihdaaDoor
set_option maxRecDepth 100000
theorem tz_run (p x : Int) : (run E0 1000 0 [callFr 43 Tryd.f43.ntmps [.s (.c (.f (.int .u64 (.o p))))] (Tryd.f43.body.getD .skip)] ⟨0, .nil, []⟩).vc (retOk 0 [] (i64 (.o x)) ⟨0, .nil, []⟩) (fun _ _ => False) =
    (((p == (0 : Int)) = true → x = (64 : Int) ∧ True) ∧ ((p == (0 : Int)) = false → (((0 : Int) ≤ ari BinOp.shr IntKind.u64 (ari BinOp.mul IntKind.u64 (ari BinOp.and IntKind.u64 p (ari BinOp.sub IntKind.u64 (0 : Int) p)) (285870213051353865 : Int)) (58 : Int) ∧ ari BinOp.shr IntKind.u64 (ari BinOp.mul IntKind.u64 (ari BinOp.and IntKind.u64 p (ari BinOp.sub IntKind.u64 (0 : Int) p)) (285870213051353865 : Int)) (58 : Int) < (64 : Int)) ∧ True) ∧ (IsInt IntKind.u8 #[Value.int IntKind.u8 (0 : Int), Value.int IntKind.u8 (1 : Int), Value.int IntKind.u8 (56 : Int), Value.int IntKind.u8 (2 : Int), Value.int IntKind.u8 (57 : Int), Value.int IntKind.u8 (49 : Int), Value.int IntKind.u8 (28 : Int), Value.int IntKind.u8 (3 : Int), Value.int IntKind.u8 (61 : Int), Value.int IntKind.u8 (58 : Int), Value.int IntKind.u8 (42 : Int), Value.int IntKind.u8 (50 : Int), Value.int IntKind.u8 (38 : Int), Value.int IntKind.u8 (29 : Int), Value.int IntKind.u8 (17 : Int), Value.int IntKind.u8 (4 : Int), Value.int IntKind.u8 (62 : Int), Value.int IntKind.u8 (47 : Int), Value.int IntKind.u8 (59 : Int), Value.int IntKind.u8 (36 : Int), Value.int IntKind.u8 (45 : Int), Value.int IntKind.u8 (43 : Int), Value.int IntKind.u8 (51 : Int), Value.int IntKind.u8 (22 : Int), Value.int IntKind.u8 (53 : Int), Value.int IntKind.u8 (39 : Int), Value.int IntKind.u8 (33 : Int), Value.int IntKind.u8 (30 : Int), Value.int IntKind.u8 (24 : Int), Value.int IntKind.u8 (18 : Int), Value.int IntKind.u8 (12 : Int), Value.int IntKind.u8 (5 : Int), Value.int IntKind.u8 (63 : Int), Value.int IntKind.u8 (55 : Int), Value.int IntKind.u8 (48 : Int), Value.int IntKind.u8 (27 : Int), Value.int IntKind.u8 (60 : Int), Value.int IntKind.u8 (41 : Int), Value.int IntKind.u8 (37 : Int), Value.int IntKind.u8 (16 : Int), Value.int IntKind.u8 (46 : Int), Value.int IntKind.u8 (35 : Int), Value.int IntKind.u8 (44 : Int), Value.int IntKind.u8 (21 : Int), Value.int IntKind.u8 (52 : Int), Value.int IntKind.u8 (32 : Int), Value.int IntKind.u8 (23 : Int), Value.int IntKind.u8 (11 : Int), Value.int IntKind.u8 (54 : Int), Value.int IntKind.u8 (26 : Int), Value.int IntKind.u8 (40 : Int), Value.int IntKind.u8 (15 : Int), Value.int IntKind.u8 (34 : Int), Value.int IntKind.u8 (20 : Int), Value.int IntKind.u8 (31 : Int), Value.int IntKind.u8 (10 : Int), Value.int IntKind.u8 (25 : Int), Value.int IntKind.u8 (14 : Int), Value.int IntKind.u8 (19 : Int), Value.int IntKind.u8 (9 : Int), Value.int IntKind.u8 (13 : Int), Value.int IntKind.u8 (8 : Int), Value.int IntKind.u8 (7 : Int), Value.int IntKind.u8 (6 : Int)] ((0 : Nat) + Int.toNat (ari BinOp.shr IntKind.u64 (ari BinOp.mul IntKind.u64 (ari BinOp.and IntKind.u64 p (ari BinOp.sub IntKind.u64 (0 : Int) p)) (285870213051353865 : Int)) (58 : Int)) * 1) ∧ True) ∧ x = IntKind.wrap IntKind.i64 (intAt #[Value.int IntKind.u8 (0 : Int), Value.int IntKind.u8 (1 : Int), Value.int IntKind.u8 (56 : Int), Value.int IntKind.u8 (2 : Int), Value.int IntKind.u8 (57 : Int), Value.int IntKind.u8 (49 : Int), Value.int IntKind.u8 (28 : Int), Value.int IntKind.u8 (3 : Int), Value.int IntKind.u8 (61 : Int), Value.int IntKind.u8 (58 : Int), Value.int IntKind.u8 (42 : Int), Value.int IntKind.u8 (50 : Int), Value.int IntKind.u8 (38 : Int), Value.int IntKind.u8 (29 : Int), Value.int IntKind.u8 (17 : Int), Value.int IntKind.u8 (4 : Int), Value.int IntKind.u8 (62 : Int), Value.int IntKind.u8 (47 : Int), Value.int IntKind.u8 (59 : Int), Value.int IntKind.u8 (36 : Int), Value.int IntKind.u8 (45 : Int), Value.int IntKind.u8 (43 : Int), Value.int IntKind.u8 (51 : Int), Value.int IntKind.u8 (22 : Int), Value.int IntKind.u8 (53 : Int), Value.int IntKind.u8 (39 : Int), Value.int IntKind.u8 (33 : Int), Value.int IntKind.u8 (30 : Int), Value.int IntKind.u8 (24 : Int), Value.int IntKind.u8 (18 : Int), Value.int IntKind.u8 (12 : Int), Value.int IntKind.u8 (5 : Int), Value.int IntKind.u8 (63 : Int), Value.int IntKind.u8 (55 : Int), Value.int IntKind.u8 (48 : Int), Value.int IntKind.u8 (27 : Int), Value.int IntKind.u8 (60 : Int), Value.int IntKind.u8 (41 : Int), Value.int IntKind.u8 (37 : Int), Value.int IntKind.u8 (16 : Int), Value.int IntKind.u8 (46 : Int), Value.int IntKind.u8 (35 : Int), Value.int IntKind.u8 (44 : Int), Value.int IntKind.u8 (21 : Int), Value.int IntKind.u8 (52 : Int), Value.int IntKind.u8 (32 : Int), Value.int IntKind.u8 (23 : Int), Value.int IntKind.u8 (11 : Int), Value.int IntKind.u8 (54 : Int), Value.int IntKind.u8 (26 : Int), Value.int IntKind.u8 (40 : Int), Value.int IntKind.u8 (15 : Int), Value.int IntKind.u8 (34 : Int), Value.int IntKind.u8 (20 : Int), Value.int IntKind.u8 (31 : Int), Value.int IntKind.u8 (10 : Int), Value.int IntKind.u8 (25 : Int), Value.int IntKind.u8 (14 : Int), Value.int IntKind.u8 (19 : Int), Value.int IntKind.u8 (9 : Int), Value.int IntKind.u8 (13 : Int), Value.int IntKind.u8 (8 : Int), Value.int IntKind.u8 (7 : Int), Value.int IntKind.u8 (6 : Int)] ((0 : Nat) + Int.toNat (ari BinOp.shr IntKind.u64 (ari BinOp.mul IntKind.u64 (ari BinOp.and IntKind.u64 p (ari BinOp.sub IntKind.u64 (0 : Int) p)) (285870213051353865 : Int)) (58 : Int)) * 1)) ∧ True)) := by kernel_rfl
end Go.Proofs.YtiblicobfmihdaaDoor
/- Numbers of 64 bits: what the operations of whole numbers make of them. No condition. -/
namespace Go.Proofs.YtiblicobfmihdaaDoor
/-- A word, as a whole number. -/
def uw (X : BitVec 64) : Int := (X.toNat : Int)
theorem wrap_u64 (n : Int) : IntKind.u64.wrap n = n % 18446744073709551616 := rfl
theorem uw_range (X : BitVec 64) : 0 ≤ uw X ∧ uw X < 18446744073709551616 := by
  have := X.isLt
  unfold uw
  omega
theorem ofInt_uw (X : BitVec 64) : BitVec.ofInt 64 (uw X) = X := by
  unfold uw
  rw [BitVec.ofInt_natCast, BitVec.ofNat_toNat, BitVec.setWidth_eq]
theorem wrap_uw (X : BitVec 64) : IntKind.u64.wrap (uw X) = uw X := by
  rw [wrap_u64]
  have := uw_range X
  omega
theorem wrap_toNat (X : BitVec 64) : IntKind.u64.wrap (X.toNat : Int) = uw X := wrap_uw X
theorem wrap_ofInt (n : Int) : IntKind.u64.wrap n = uw (BitVec.ofInt 64 n) := by
  unfold uw
  rw [wrap_u64, BitVec.toNat_ofInt]
  have : 0 ≤ n % (2 ^ 64 : Nat) := Int.emod_nonneg _ (by decide)
  rw [Int.toNat_of_nonneg this]
  rfl
theorem uw_inj {X Y : BitVec 64} : uw X = uw Y ↔ X = Y := by
  unfold uw
  constructor
  · intro h
    exact BitVec.eq_of_toNat_eq (by omega)
  · intro h; rw [h]
theorem uw_and (X Y : BitVec 64) : IntKind.u64.wrap ((BitVec.ofInt 64 (uw X) &&& BitVec.ofInt 64 (uw Y)).toNat : Int) = uw (X &&& Y) := by rw [ofInt_uw, ofInt_uw, wrap_toNat]
theorem uw_or (X Y : BitVec 64) : IntKind.u64.wrap ((BitVec.ofInt 64 (uw X) ||| BitVec.ofInt 64 (uw Y)).toNat : Int) = uw (X ||| Y) := by rw [ofInt_uw, ofInt_uw, wrap_toNat]
theorem uw_andNot (X Y : BitVec 64) : IntKind.u64.wrap ((BitVec.ofInt 64 (uw X) &&& ~~~ BitVec.ofInt 64 (uw Y)).toNat : Int) = uw (X &&& ~~~ Y) := by rw [ofInt_uw, ofInt_uw, wrap_toNat]
theorem uw_not (X : BitVec 64) : IntKind.u64.wrap ((BitVec.ofInt 64 18446744073709551615 ^^^ BitVec.ofInt 64 (uw X)).toNat : Int) = uw (~~~ X) := by
  rw [ofInt_uw, wrap_toNat]
  have : BitVec.ofInt 64 18446744073709551615 = BitVec.allOnes 64 := by decide
  rw [this, BitVec.allOnes_xor]
theorem uw_mul (X Y : BitVec 64) : IntKind.u64.wrap (uw X * uw Y) = uw (X * Y) := by
  unfold uw
  rw [wrap_u64, BitVec.toNat_mul]
  omega
theorem uw_neg (X : BitVec 64) : IntKind.u64.wrap (0 - uw X) = uw (- X) := by
  have h := X.isLt
  unfold uw
  rw [wrap_u64, BitVec.toNat_neg]
  omega
theorem uw_shl (X : BitVec 64) (p : Nat) : IntKind.u64.wrap (uw X * 2 ^ min p 64) = uw (X <<< p) := by
  unfold uw
  rw [wrap_u64, BitVec.toNat_shiftLeft, Nat.shiftLeft_eq]
  by_cases h : p ≤ 64
  · rw [Nat.min_eq_left h]
    rw [Int.natCast_emod, Int.natCast_mul, Int.natCast_pow]
    rfl
  · rw [Nat.min_eq_right (by omega)]
    have e : 2 ^ p = 2 ^ 64 * 2 ^ (p - 64) := by rw [← Nat.pow_add]; congr 1; omega
    rw [e, ← Nat.mul_assoc, Nat.mul_comm X.toNat, Nat.mul_assoc, Nat.mul_mod_right]
    have : ((2 : Int) ^ 64) = 18446744073709551616 := by decide
    rw [this]
    simp
theorem uw_shr (X : BitVec 64) (p : Nat) : Int.fdiv (uw X) (2 ^ min p 64) = uw (X >>> p) := by
  unfold uw
  rw [BitVec.toNat_ushiftRight, Nat.shiftRight_eq_div_pow]
  have e2 : ∀ k : Nat, ((2 : Int) ^ k) = ((2 ^ k : Nat) : Int) := fun k => by rw [Int.natCast_pow]; rfl
  rw [e2, Int.fdiv_eq_ediv_of_nonneg _ (Int.natCast_nonneg _), ← Int.natCast_ediv]
  by_cases h : p ≤ 64
  · rw [Nat.min_eq_left h]
  · rw [Nat.min_eq_right (by omega)]
    have h1 : X.toNat / 2 ^ 64 = 0 := Nat.div_eq_of_lt X.isLt
    have h2 : X.toNat / 2 ^ p = 0 := Nat.div_eq_of_lt (Nat.lt_of_lt_of_le X.isLt (Nat.pow_le_pow_right (by decide) (by omega)))
    rw [h1, h2]
theorem uw_zero_iff (X : BitVec 64) : (uw X == 0) = decide (X = 0#64) := by
  have : (uw X = 0) ↔ X = 0#64 := by rw [← uw_inj]; rfl
  rw [Bool.eq_iff_iff, beq_iff_eq, decide_eq_true_eq, this]
/-- A known number. -/
theorem uw_lit (n : Nat) (h : n < 18446744073709551616) : (n : Int) = uw (BitVec.ofNat 64 n) := by
  unfold uw
  rw [BitVec.toNat_ofNat]
  omega
end Go.Proofs.YtiblicobfmihdaaDoor
/- The lowest bit of a word, as math/bits finds it. No condition. -/
namespace Go.Proofs.YtiblicobfmihdaaDoor
/-- The lowest bit's place; 64: there is none. -/
def tz (X : BitVec 64) : Nat := X.ctz.toNat
theorem tz_zero : tz 0#64 = 64 := by decide +kernel
theorem tz_lt {X : BitVec 64} (h : X ≠ 0#64) : tz X < 64 := by
  rcases Nat.lt_or_ge (tz X) 64 with h1 | h1
  · exact h1
  · have : X.getLsbD (tz X) = true := BitVec.getLsbD_true_ctz_of_ne_zero h
    rw [BitVec.getLsbD_of_ge _ _ h1] at this
    cases this
theorem tz_le (X : BitVec 64) : tz X ≤ 64 := by
  by_cases h : X = 0#64
  · subst h; rw [tz_zero]; exact Nat.le_refl _
  · exact Nat.le_of_lt (tz_lt h)
theorem tz_bit {X : BitVec 64} (h : X ≠ 0#64) : X.getLsbD (tz X) = true := BitVec.getLsbD_true_ctz_of_ne_zero h
theorem tz_below {X : BitVec 64} {i : Nat} (h : i < tz X) : X.getLsbD i = false := BitVec.getLsbD_false_of_lt_ctz h
theorem tz_unique {X : BitVec 64} {k : Nat} (h1 : X.getLsbD k = true) (h2 : ∀ i, i < k → X.getLsbD i = false) : tz X = k := by
  have hne : X ≠ 0#64 := by
    intro h; subst h; simp at h1
  rcases Nat.lt_trichotomy (tz X) k with h | h | h
  · have := h2 _ h
    rw [tz_bit hne] at this
    cases this
  · exact h
  · have := tz_below h
    rw [h1] at this
    cases this
theorem low_bit {X : BitVec 64} (h : X ≠ 0#64) : X &&& (-X) = BitVec.twoPow 64 (tz X) := by
  have h0 : X.toNat ≠ 0 := fun e => h (BitVec.eq_of_toNat_eq (by simpa using e))
  obtain ⟨h1, h2⟩ := Go.Lib.lowest_bit 64 X.toNat h0 X.isLt
  have e : X &&& (-X) = BitVec.twoPow 64 (Go.Lib.ctz 64 X.toNat) := by
    apply BitVec.eq_of_toNat_eq
    have e1 : (-X).toNat = 2 ^ 64 - X.toNat := by
      rw [BitVec.toNat_neg, Nat.mod_eq_of_lt]
      have := X.isLt
      omega
    rw [BitVec.toNat_and, e1, h1, BitVec.toNat_twoPow, Nat.mod_eq_of_lt]
    exact Nat.pow_lt_pow_right (by decide) h2
  have key : ∀ i, (X &&& (-X)).getLsbD i = decide (i = Go.Lib.ctz 64 X.toNat) := by
    intro i
    rw [e, BitVec.getLsbD_twoPow]
    by_cases hi : i = Go.Lib.ctz 64 X.toNat
    · subst hi; simp [h2]
    · have : ¬ Go.Lib.ctz 64 X.toNat = i := fun x => hi x.symm
      simp [hi, this]
  obtain ⟨m, hm, _⟩ := Go.Lib.ctzFrom_spec 64 X.toNat (by omega) X.isLt
  have hc : Go.Lib.ctz 64 X.toNat = Go.Lib.ctzFrom 64 X.toNat := by simp [Go.Lib.ctz, h0]
  rw [e]
  congr 1
  refine (tz_unique ?_ fun i hi => ?_).symm
  · have := key (Go.Lib.ctz 64 X.toNat)
    rw [BitVec.getLsbD_and] at this
    simp at this
    exact this.1
  · unfold BitVec.getLsbD
    rw [hc] at hi
    rw [hm, Nat.mul_comm, Nat.testBit_mul_two_pow]
    simp
    omega
/-- The table's answer. -/
def deB : List Nat := Go.Lib.deBruijn64tab
theorem deB_at (k : Nat) (h : k < 64) : ((BitVec.twoPow 64 k * 285870213051353865#64) >>> 58).toNat < 64 ∧ deB.getD ((BitVec.twoPow 64 k * 285870213051353865#64) >>> 58).toNat 0 = k := by
  have := Go.Lib.deBruijn64_at k h
  have e : ((BitVec.twoPow 64 k * 285870213051353865#64) >>> 58).toNat = 2 ^ k * 285870213051353865 % 18446744073709551616 / 288230376151711744 := by
    rw [BitVec.toNat_ushiftRight, BitVec.toNat_mul, BitVec.toNat_twoPow, Nat.shiftRight_eq_div_pow, Nat.mod_eq_of_lt (Nat.pow_lt_pow_right (by decide) h)]
    rfl
  rw [e]
  exact this
theorem tz_at {X : BitVec 64} (h : X ≠ 0#64) : (((X &&& (-X)) * 285870213051353865#64) >>> 58).toNat < 64 ∧ deB.getD (((X &&& (-X)) * 285870213051353865#64) >>> 58).toNat 0 = tz X := by
  rw [low_bit h]
  exact deB_at _ (tz_lt h)
end Go.Proofs.YtiblicobfmihdaaDoor
/- Operations of words, as the conditions name them. No condition. -/
namespace Go.Proofs.YtiblicobfmihdaaDoor
theorem ari_uw_and (X Y : BitVec 64) : ari .and .u64 (uw X) (uw Y) = uw (X &&& Y) := uw_and X Y
theorem ari_uw_or (X Y : BitVec 64) : ari .or .u64 (uw X) (uw Y) = uw (X ||| Y) := uw_or X Y
theorem ari_uw_andNot (X Y : BitVec 64) : ari .andNot .u64 (uw X) (uw Y) = uw (X &&& ~~~ Y) := uw_andNot X Y
theorem ari_uw_mul (X Y : BitVec 64) : ari .mul .u64 (uw X) (uw Y) = uw (X * Y) := uw_mul X Y
theorem ari_uw_neg (X : BitVec 64) : ari .sub .u64 0 (uw X) = uw (- X) := uw_neg X
theorem ari_uw_not (X : BitVec 64) : ari .xor .u64 18446744073709551615 (uw X) = uw (~~~ X) := uw_not X
theorem ari_uw_add (X Y : BitVec 64) : ari .add .u64 (uw X) (uw Y) = uw (X + Y) := by
  rw [ari_add, wrap_u64]
  unfold uw
  rw [BitVec.toNat_add]
  omega
theorem ari_uw_shl (X : BitVec 64) (p : Int) : ari .shl .u64 (uw X) p = uw (X <<< p.toNat) := uw_shl X p.toNat
theorem ari_uw_shr (X : BitVec 64) (p : Int) : ari .shr .u64 (uw X) p = uw (X >>> p.toNat) := uw_shr X p.toNat
theorem uw_toNat (X : BitVec 64) : (uw X).toNat = X.toNat := Int.toNat_natCast _
def tabL : List Value := (glTab.headD (0, [])).2
def tabOk (i : Nat) : Bool := match tabL[i]? with | some (.int .u8 n) => n == (deB.getD i 0 : Nat) | _ => false
theorem tab_all : ∀ i : Fin 64, tabOk i.val = true := by decide +kernel
theorem tab_at {i : Nat} (h : i < 64) : IsInt .u8 tabL.toArray i ∧ intAt tabL.toArray i = (deB.getD i 0 : Nat) := by
  have := tab_all ⟨i, h⟩
  unfold tabOk at this
  dsimp only at this
  split at this
  · rename_i n hn
    have e : intAt tabL.toArray i = n := by
      unfold intAt
      rw [List.getElem?_toArray, hn]
    have hn' : n = (deB.getD i 0 : Nat) := by simpa using this
    refine ⟨?_, e.trans hn'⟩
    unfold IsInt
    rw [e, List.getElem?_toArray, hn]
  · cases this
end Go.Proofs.YtiblicobfmihdaaDoor
/- Of runs: the lowest bit: its contract. No condition. -/
namespace Go.Proofs.YtiblicobfmihdaaDoor
def u64S (p : Int) : SV := .s (.c (.f (.int .u64 (.o p))))
theorem tz_fn : E0.fn 43 = some Tryd.f43 := by kernel_rfl
theorem tz_body : Tryd.f43.body = some (Tryd.f43.body.getD .skip) := by kernel_rfl
def tzI (p : Int) : Int := (tz (BitVec.ofInt 64 p) : Nat)
theorem tzI_uw (X : BitVec 64) : tzI (uw X) = (tz X : Nat) := by unfold tzI; rw [ofInt_uw]
theorem tz_good (X : BitVec 64) : Good Tryd.prog (retOk 0 [] (i64 (.o (tzI (uw X)))) ⟨0, .nil, []⟩) 0 [callFr 43 Tryd.f43.ntmps [u64S (uw X)] (Tryd.f43.body.getD .skip)] ⟨0, .nil, []⟩ := by
  refine run_vc E0_ok 1000 (tz_run (uw X) (tzI (uw X))) ?_ (fun s m h => h) fun _ _ h => h.elim
  rw [tzI_uw]
  refine ⟨fun h => ⟨?_, trivial⟩, fun h => ?_⟩
  · rw [uw_zero_iff, decide_eq_true_eq] at h
    rw [h, tz_zero]
    rfl
  · rw [uw_zero_iff, decide_eq_false_iff_not] at h
    obtain ⟨h1, h2⟩ := tz_at h
    have ec : (285870213051353865 : Int) = uw 285870213051353865#64 := rfl
    have e58 : (58 : Int).toNat = 58 := rfl
    rw [ari_uw_neg, ari_uw_and, ec, ari_uw_mul, ari_uw_shr, e58]
    generalize hY : (((X &&& (-X)) * 285870213051353865#64) >>> 58) = Y at h1 h2
    have hr := uw_range Y
    obtain ⟨k1, k2⟩ := tab_at h1
    have hlt : Y.toNat < 64 := h1
    have e0 : 0 + (uw Y).toNat * 1 = Y.toNat := by rw [uw_toNat]; omega
    rw [e0]
    refine ⟨⟨⟨hr.1, ?_⟩, trivial⟩, ⟨k1, trivial⟩, ?_, trivial⟩
    · unfold uw; omega
    · refine Eq.trans ?_ (congrArg (IntKind.wrap .i64) k2).symm
      rw [h2]
      have := tz_le X
      exact (Go.IntWalk.i64_in _ (by omega)).symm
theorem tz_con (p : Int) (m : SMem) : Con E0 43 [u64S p] m (needs [uw (BitVec.ofInt 64 p) = p] (.ret (i64 (.o (tzI p))) m)) := by
  refine Con.pure E0_ok tz_fn tz_body (by kernel_rfl) (by kernel_rfl) fun hq => ?_
  have hp : uw (BitVec.ofInt 64 p) = p := hq _ (by simp)
  have := tz_good (BitVec.ofInt 64 p)
  rw [hp] at this
  exact (Good.ret [] this).mono fun _ _ h => h.1
end Go.Proofs.YtiblicobfmihdaaDoor
/- Of runs: Of, Has, as propositions. No condition. -/
namespace Go.Proofs.YtiblicobfmihdaaDoor
set_option maxRecDepth 100000
theorem of_run (p x : Int) : (run E0 1000 0 [callFr 19 Tryd.f19.ntmps [i64 (.o p)] (Tryd.f19.body.getD .skip)] ⟨0, .nil, []⟩).vc (retOk 0 [] (.s (.agg (.ls [.f (.int .u64 (.o x))]))) ⟨0, .nil, []⟩) (fun _ _ => False) =
    ((((if (64 : Int) < if (0 : Int) > p then (0 : Int) else p then (64 : Int) else if (0 : Int) > p then (0 : Int) else p) == (0 : Int)) = true → x = (0 : Int) ∧ True) ∧ (((if (64 : Int) < if (0 : Int) > p then (0 : Int) else p then (64 : Int) else if (0 : Int) > p then (0 : Int) else p) == (0 : Int)) = false → ((0 : Int) ≤ ari BinOp.sub IntKind.i64 (64 : Int) (if (64 : Int) < if (0 : Int) > p then (0 : Int) else p then (64 : Int) else if (0 : Int) > p then (0 : Int) else p) ∧ True) ∧ x = ari BinOp.shr IntKind.u64 (18446744073709551615 : Int) (ari BinOp.sub IntKind.i64 (64 : Int) (if (64 : Int) < if (0 : Int) > p then (0 : Int) else p then (64 : Int) else if (0 : Int) > p then (0 : Int) else p)) ∧ True)) := by kernel_rfl
theorem has_run (mk p : Int) (b : Bool) : (run E0 1000 0 [callFr 39 Tryd.f39.ntmps [.s (.agg (.ls [.f (.int .u64 (.o mk))])), i64 (.o p)] (Tryd.f39.body.getD .skip)] ⟨0, .nil, []⟩).vc (retOk 0 [] (sB (.o b)) ⟨0, .nil, []⟩) (fun _ _ => False) =
    (((decide (p ≥ (0 : Int)) == true) = true → ((decide (p < (64 : Int)) == true) = true → ((0 : Int) ≤ p ∧ True) ∧ b = (ari BinOp.and IntKind.u64 (ari BinOp.shr IntKind.u64 mk p) (1 : Int) == (1 : Int)) ∧ True) ∧ ((decide (p < (64 : Int)) == true) = false → b = false ∧ True)) ∧ ((decide (p ≥ (0 : Int)) == true) = false → b = false ∧ True)) := by kernel_rfl
end Go.Proofs.YtiblicobfmihdaaDoor
/- Of runs: contracts: Of, Has. No condition. -/
namespace Go.Proofs.YtiblicobfmihdaaDoor
/-- So many first pages. -/
def lowW (k : Nat) : BitVec 64 := BitVec.allOnes 64 >>> (64 - k)
theorem lowW_bit (k i : Nat) (hk : k ≤ 64) : (lowW k).getLsbD i = decide (i < k) := by
  unfold lowW
  rw [BitVec.getLsbD_ushiftRight, BitVec.getLsbD_allOnes]
  by_cases h : i < k
  · rw [decide_eq_true h, decide_eq_true (by omega)]
  · rw [decide_eq_false h, decide_eq_false (by omega)]
def clampN (p : Int) : Nat := if p < 0 then 0 else if 64 < p then 64 else p.toNat
theorem of_con (p : Int) (m : SMem) : Con E0 19 [i64 (.o p)] m (needs [] (.ret (.s (.agg (.ls [.f (.int .u64 (.o (uw (lowW (clampN p)))))]))) m)) := by
  refine Con.pure E0_ok (by kernel_rfl : E0.fn 19 = some Tryd.f19) (by kernel_rfl : Tryd.f19.body = some (Tryd.f19.body.getD .skip)) (by kernel_rfl) (by kernel_rfl) fun _ => ?_
  refine (Good.ret [] (run_vc E0_ok 1000 (of_run p (uw (lowW (clampN p)))) ?_ (fun s m h => h) fun _ _ h => h.elim)).mono fun _ _ h => h.1
  have hc : (if (64 : Int) < if (0 : Int) > p then (0 : Int) else p then (64 : Int) else if (0 : Int) > p then (0 : Int) else p) = (clampN p : Nat) := by
    unfold clampN
    split <;> split <;> first | omega | (split <;> omega)
  have hk : clampN p ≤ 64 := by unfold clampN; split <;> first | omega | (split <;> omega)
  rw [hc]
  have e64 : ari .sub .i64 64 (clampN p : Nat) = (64 - clampN p : Nat) := by
    rw [ari_sub]
    have := Go.IntWalk.i64_in (64 - (clampN p : Nat) : Int) (by omega)
    rw [this]
    omega
  rw [e64]
  have eA : (18446744073709551615 : Int) = uw (BitVec.allOnes 64) := rfl
  refine ⟨fun h => ?_, fun h => ⟨⟨by omega, trivial⟩, ?_, trivial⟩⟩
  · have h0 : clampN p = 0 := by
      have := eq_of_beq h
      omega
    rw [h0]
    exact ⟨rfl, trivial⟩
  · rw [eA, ari_uw_shr, Int.toNat_natCast]
    rfl
theorem has_con (X : BitVec 64) (p : Int) (m : SMem) : Con E0 39 [.s (.agg (.ls [.f (.int .u64 (.o (uw X)))])), i64 (.o p)] m (needs [] (.ret (sB (.o (decide (0 ≤ p) && X.getLsbD p.toNat))) m)) := by
  refine Con.pure E0_ok (by kernel_rfl : E0.fn 39 = some Tryd.f39) (by kernel_rfl : Tryd.f39.body = some (Tryd.f39.body.getD .skip)) (by kernel_rfl) (by kernel_rfl) fun _ => ?_
  refine (Good.ret [] (run_vc E0_ok 1000 (has_run (uw X) p (decide (0 ≤ p) && X.getLsbD p.toNat)) ?_ (fun s m h => h) fun _ _ h => h.elim)).mono fun _ _ h => h.1
  have hb : (ari .and .u64 (ari .shr .u64 (uw X) p) 1 == (1 : Int)) = X.getLsbD p.toNat := by
    have e1 : (1 : Int) = uw 1#64 := rfl
    rw [e1, ari_uw_shr, ari_uw_and, Bool.eq_iff_iff, beq_iff_eq, uw_inj]
    constructor
    · intro h
      have := congrArg (BitVec.getLsbD · 0) h
      simpa using this
    · intro h
      apply BitVec.eq_of_getLsbD_eq
      intro i hi
      rw [BitVec.getLsbD_and, BitVec.getLsbD_ushiftRight]
      by_cases h0 : i = 0
      · subst h0; simp [h]
      · have : (1#64).getLsbD i = false := by
          rw [BitVec.getLsbD_one]; simp [h0]
        rw [this]; simp
  rw [hb]
  refine ⟨fun h1 => ⟨fun h2 => ?_, fun h2 => ?_⟩, fun h1 => ?_⟩
  · have h1 : 0 ≤ p := by simpa using h1
    refine ⟨⟨h1, trivial⟩, ?_, trivial⟩
    rw [decide_eq_true h1, Bool.true_and]
  · have h1 : 0 ≤ p := by simpa using h1
    have h2 : ¬ p < 64 := by simpa using h2
    rw [BitVec.getLsbD_of_ge _ _ (by omega)]
    simp
  · have h1 : ¬ 0 ≤ p := by simpa using h1
    rw [decide_eq_false h1]
    exact ⟨rfl, trivial⟩
end Go.Proofs.YtiblicobfmihdaaDoor
/- Of runs: the environment of its functions. No condition. -/
namespace Go.Proofs.YtiblicobfmihdaaDoor
theorem has_con' (mk p : Int) (m : SMem) : Con E0 39 [.s (.agg (.ls [.f (.int .u64 (.o mk))])), i64 (.o p)] m (needs [uw (BitVec.ofInt 64 mk) = mk] (.ret (sB (.o (decide (0 ≤ p) && (BitVec.ofInt 64 mk).getLsbD p.toNat))) m)) := by
  intro A hs
  obtain ⟨hq, hA⟩ := Tree.sat_needs hs
  have hp : uw (BitVec.ofInt 64 mk) = mk := hq _ (by simp)
  have h := has_con (BitVec.ofInt 64 mk) p m
  rw [hp] at h
  exact h A hA
def conC (g : FuncId) (l : List SV) (m : SMem) : Option Tree :=
  match g, l with
  | 4, [] => some (.ret (sB (.l true)) m)
  | 35, [.s (.c (.f (.int .i64 (.o p)))), .s (.c (.f (.int .i64 (.o n))))] => some (.ret (sB (.o (mayB p n))) m)
  | 37, [.s (.c (.f (.int .i64 (.o p)))), .s (.c (.f (.int .i64 (.o n))))] => some (.need [0 ≤ IntKind.i64.wrap (64 - n), 0 ≤ p] (.ret (.s (.c (.f (.int .u64 (.o (spanI p n)))))) m))
  | 43, [.s (.c (.f (.int .u64 (.o p))))] => some (.need [uw (BitVec.ofInt 64 p) = p] (.ret (i64 (.o (tzI p))) m))
  | _, _ => none
theorem conC_ok : ∀ g l m t, conC g l m = some t → Con E0 g l m t := by
  intro g l m t h
  unfold conC at h
  split at h
  · cases h; exact wakes_con m
  · cases h; exact may_con _ _ m
  · cases h; exact span_con _ _ m
  · cases h; exact tz_con _ m
  · cases h
/-- One stops at the loop of each. -/
noncomputable def EC : Env := ⟨Tryd.prog, fnOf, conC, fun _ f x => Nat.beq f 42 && isLoop x⟩
theorem EC_ok : EnvOk EC := EnvOk.with E0_ok _ _ conC_ok
end Go.Proofs.YtiblicobfmihdaaDoor
/- Of runs: the loop of each below Give, Take, Find and All: its states. No condition. -/
namespace Go.Proofs.YtiblicobfmihdaaDoor
noncomputable section
/-- The first frame with a slot set. -/
def setTop (d : Nat) (v : SV) : List SFr → List SFr
  | ⟨fn, tm, td, dfs, md, kind, rnd⟩ :: cs => ⟨fn, tm.set d (some v), td, dfs, md, kind, rnd⟩ :: cs
  | [] => []
/-- What is left to do in a frame. -/
def tdAt (k : Nat) (l : List SFr) : List SIt := match nth l k with
  | some f => f.todo
  | none => []
def loopAt (k : Nat) (m : SMem) : Option LoopP := match nth m.xs k with
  | some ⟨_, .loop st pe fn _ ps ag bd _⟩ => some ⟨st, pe, fn, ps, ag, bd⟩
  | _ => none
def getLp (o : Option LoopP) : LoopP := match o with
  | some l => l
  | none => ⟨.ready, none, 0, #[], .skip, .skip⟩
def setIs (x : Int) : SV := .s (.agg (.ls [.f (.int .u64 (.o x))]))
def topInt (d : Nat) : List SFr → Option Int
  | f :: _ => svInt (f.tm.get d)
  | [] => none
def opR (c : List SFr) : Tree := run EC 1000 0 c ⟨0, .nil, []⟩
def opF (c : List SFr) (left : Int) : List SFr := setTop 3 (u64S left) ((opR c).fsE.map SFr.bare)
def opM (c : List SFr) : SMem := (opR c).memE.bare
def opH (c : List SFr) (left : Int) : List SFr := headF (opF c left)
def opS (c : List SFr) (left : Int) : Tree := stepT EC.go (run EC 1000) 0 (opH c left) (opM c)
/-- The next round's state, as it is come to: what is left is so. -/
def opN0 (c : List SFr) (Q : Int → Prop) (fs : List SFr) (m : SMem) : Prop :=
  match topInt 3 fs with
  | some left => Q left ∧ subOk 0 (idπ (opM c).next) (opF c left) (opM c) fs m
  | none => False
def opN (c : List SFr) (Q : Int → Prop) (fs : List SFr) (m : SMem) : Prop :=
  match topInt 3 fs with
  | some left => Q left ∧ subOk 0 (idπ (opM c).next) (opH c left) (opM c) fs m
  | none => False
def giveC (x p n : Int) : List SFr := [callFr 29 Tryd.f29.ntmps [setIs x, i64 (.o p), i64 (.o n)] (Tryd.f29.body.getD .skip)]
def takeC (x p n : Int) : List SFr := [callFr 22 Tryd.f22.ntmps [setIs x, i64 (.o p), i64 (.o n)] (Tryd.f22.body.getD .skip)]
def findC (x n : Int) : List SFr := [callFr 21 Tryd.f21.ntmps [setIs x, i64 (.o n)] (Tryd.f21.body.getD .skip)]
def giveT0 : List SIt := tdAt 0 (opF (giveC 0 0 0) 0)
def giveH0 : List SIt := tdAt 0 (opH (giveC 0 0 0) 0)
def giveT1 : List SIt := tdAt 1 (opF (giveC 0 0 0) 0)
def giveH1 : List SIt := tdAt 1 (opH (giveC 0 0 0) 0)
def giveT2 : List SIt := tdAt 2 (opF (giveC 0 0 0) 0)
def giveH2 : List SIt := tdAt 2 (opH (giveC 0 0 0) 0)
def takeT0 : List SIt := tdAt 0 (opF (takeC 0 0 0) 0)
def takeH0 : List SIt := tdAt 0 (opH (takeC 0 0 0) 0)
def takeT1 : List SIt := tdAt 1 (opF (takeC 0 0 0) 0)
def takeH1 : List SIt := tdAt 1 (opH (takeC 0 0 0) 0)
def takeT2 : List SIt := tdAt 2 (opF (takeC 0 0 0) 0)
def takeH2 : List SIt := tdAt 2 (opH (takeC 0 0 0) 0)
def findT0 : List SIt := tdAt 0 (opF (findC 0 0) 0)
def findH0 : List SIt := tdAt 0 (opH (findC 0 0) 0)
def findT1 : List SIt := tdAt 1 (opF (findC 0 0) 0)
def findH1 : List SIt := tdAt 1 (opH (findC 0 0) 0)
def findT2 : List SIt := tdAt 2 (opF (findC 0 0) 0)
def findH2 : List SIt := tdAt 2 (opH (findC 0 0) 0)
def giveLp : LoopP := getLp (loopAt 0 (opM (giveC 0 0 0)))
def takeLp : LoopP := getLp (loopAt 0 (opM (takeC 0 0 0)))
def findLp : LoopP := getLp (loopAt 0 (opM (findC 0 0)))
def setB (x : Int) (b : Bool) : SV := .tup [.agg (.ls [.f (.int .u64 (.o x))]), .c (.f (.bool (.o b)))]
def intB (x : Int) (b : Bool) : SV := .tup [.c (.f (.int .i64 (.o x))), .c (.f (.bool (.o b)))]
def opA (v : SV) : SV → SMem → Prop := retOk 0 [] v ⟨0, .nil, []⟩
end
end Go.Proofs.YtiblicobfmihdaaDoor
/- Of runs: the loop of each below Give, Take and Find, as propositions. No condition. -/
namespace Go.Proofs.YtiblicobfmihdaaDoor
set_option maxRecDepth 100000
theorem give_start (x p n y : Int) (b : Bool) (Q : Int → Prop) : (opR (giveC x p n)).vc (opA (setB y b)) (opN0 (giveC x p n) Q) =
    (((!mayB p n) = true → y = x ∧ b = false ∧ True) ∧ ((!mayB p n) = false → Q x ∧ CallKind.normal = CallKind.normal ∧ TodoOk (ren 0 [(0, 0), (1, 1), (2, 2), (3, 3), (4, 4), (5, 5), (6, 6), (7, 7), (8, 8), (9, 9)]) giveT0 giveT0 ∧ x = x ∧ x = x ∧ CallKind.normal = CallKind.normal ∧ TodoOk (ren 0 [(0, 0), (1, 1), (2, 2), (3, 3), (4, 4), (5, 5), (6, 6), (7, 7), (8, 8), (9, 9)]) giveT1 giveT1 ∧ x = x ∧ Fn.func (40 : Nat) = Fn.func (40 : Nat) ∧ Fn.func (42 : Nat) = Fn.func (42 : Nat) ∧ x = x ∧ CallKind.normal = CallKind.normal ∧ TodoOk (ren 0 [(0, 0), (1, 1), (2, 2), (3, 3), (4, 4), (5, 5), (6, 6), (7, 7), (8, 8), (9, 9)]) giveT2 giveT2 ∧ x = x ∧ p = p ∧ Fn.func (40 : Nat) = Fn.func (40 : Nat) ∧ mayB p n = mayB p n ∧ p = p ∧ n = n ∧ n = n ∧ x = x ∧ (45 : Nat) = (45 : Nat) ∧ x = x ∧ (3 : Nat) = (3 : Nat) ∧ p = p ∧ (45 : Nat) = (45 : Nat) ∧ (45 : Nat) = (45 : Nat) ∧ x = x ∧ (67 : Nat) = (67 : Nat) ∧ Fn.func (40 : Nat) = Fn.func (40 : Nat) ∧ (3 : Nat) = (3 : Nat) ∧ n = n ∧ (45 : Nat) = (45 : Nat) ∧ x = x ∧ (65 : Nat) = (65 : Nat) ∧ EqL giveLp giveLp ∧ x = x ∧ Fn.func (40 : Nat) = Fn.func (40 : Nat) ∧ Fn.func (42 : Nat) = Fn.func (42 : Nat) ∧ x = x ∧ True)) := by kernel_rfl
theorem give_step (x p n left y : Int) (b : Bool) (Q : Int → Prop) : (opS (giveC x p n) left).vc (opA (setB y b)) (opN (giveC x p n) Q) =
    (((left != (0 : Int)) = true → (uw (BitVec.ofInt (64 : Nat) left) = left ∧ True) ∧ ((0 : Int) ≤ tzI left ∧ True) ∧ (uw (BitVec.ofInt (64 : Nat) (ari BinOp.xor IntKind.u64 (18446744073709551615 : Int) (ari BinOp.shr IntKind.u64 left (tzI left)))) = ari BinOp.xor IntKind.u64 (18446744073709551615 : Int) (ari BinOp.shr IntKind.u64 left (tzI left)) ∧ True) ∧ ((decide (tzI left < ari BinOp.add IntKind.i64 p n) == true) = true → (decide (p < ari BinOp.add IntKind.i64 (tzI left) (tzI (ari BinOp.xor IntKind.u64 (18446744073709551615 : Int) (ari BinOp.shr IntKind.u64 left (tzI left))))) = true → ((!(tzI left == (0 : Int) && tzI (ari BinOp.xor IntKind.u64 (18446744073709551615 : Int) (ari BinOp.shr IntKind.u64 left (tzI left))) == (0 : Int))) = true → y = x ∧ b = false ∧ True) ∧ ((!(tzI left == (0 : Int) && tzI (ari BinOp.xor IntKind.u64 (18446744073709551615 : Int) (ari BinOp.shr IntKind.u64 left (tzI left))) == (0 : Int))) = false → ((0 : Int) ≤ IntKind.wrap IntKind.i64 ((64 : Int) - n) ∧ (0 : Int) ≤ p ∧ True) ∧ y = ari BinOp.or IntKind.u64 x (spanI p n) ∧ b = true ∧ True)) ∧ (decide (p < ari BinOp.add IntKind.i64 (tzI left) (tzI (ari BinOp.xor IntKind.u64 (18446744073709551615 : Int) (ari BinOp.shr IntKind.u64 left (tzI left))))) = false → ((0 : Int) ≤ IntKind.wrap IntKind.i64 ((64 : Int) - tzI (ari BinOp.xor IntKind.u64 (18446744073709551615 : Int) (ari BinOp.shr IntKind.u64 left (tzI left)))) ∧ (0 : Int) ≤ tzI left ∧ True) ∧ Q (ari BinOp.andNot IntKind.u64 left (spanI (tzI left) (tzI (ari BinOp.xor IntKind.u64 (18446744073709551615 : Int) (ari BinOp.shr IntKind.u64 left (tzI left)))))) ∧ CallKind.normal = CallKind.normal ∧ TodoOk (ren 0 [(0, 0), (1, 1), (2, 2), (3, 3), (4, 4), (5, 5), (6, 6), (7, 7), (8, 8), (9, 9)]) giveH0 giveH0 ∧ ari BinOp.andNot IntKind.u64 left (spanI (tzI left) (tzI (ari BinOp.xor IntKind.u64 (18446744073709551615 : Int) (ari BinOp.shr IntKind.u64 left (tzI left))))) = ari BinOp.andNot IntKind.u64 left (spanI (tzI left) (tzI (ari BinOp.xor IntKind.u64 (18446744073709551615 : Int) (ari BinOp.shr IntKind.u64 left (tzI left))))) ∧ x = x ∧ CallKind.normal = CallKind.normal ∧ TodoOk (ren 0 [(0, 0), (1, 1), (2, 2), (3, 3), (4, 4), (5, 5), (6, 6), (7, 7), (8, 8), (9, 9)]) giveH1 giveH1 ∧ x = x ∧ Fn.func (40 : Nat) = Fn.func (40 : Nat) ∧ Fn.func (42 : Nat) = Fn.func (42 : Nat) ∧ x = x ∧ CallKind.normal = CallKind.normal ∧ TodoOk (ren 0 [(0, 0), (1, 1), (2, 2), (3, 3), (4, 4), (5, 5), (6, 6), (7, 7), (8, 8), (9, 9)]) giveH2 giveH2 ∧ x = x ∧ p = p ∧ Fn.func (40 : Nat) = Fn.func (40 : Nat) ∧ mayB p n = mayB p n ∧ p = p ∧ n = n ∧ n = n ∧ x = x ∧ (45 : Nat) = (45 : Nat) ∧ x = x ∧ (3 : Nat) = (3 : Nat) ∧ p = p ∧ (45 : Nat) = (45 : Nat) ∧ (45 : Nat) = (45 : Nat) ∧ x = x ∧ (67 : Nat) = (67 : Nat) ∧ Fn.func (40 : Nat) = Fn.func (40 : Nat) ∧ (3 : Nat) = (3 : Nat) ∧ n = n ∧ (45 : Nat) = (45 : Nat) ∧ x = x ∧ (65 : Nat) = (65 : Nat) ∧ EqL giveLp giveLp ∧ x = x ∧ Fn.func (40 : Nat) = Fn.func (40 : Nat) ∧ Fn.func (42 : Nat) = Fn.func (42 : Nat) ∧ x = x ∧ True)) ∧ ((decide (tzI left < ari BinOp.add IntKind.i64 p n) == true) = false → ((0 : Int) ≤ IntKind.wrap IntKind.i64 ((64 : Int) - tzI (ari BinOp.xor IntKind.u64 (18446744073709551615 : Int) (ari BinOp.shr IntKind.u64 left (tzI left)))) ∧ (0 : Int) ≤ tzI left ∧ True) ∧ Q (ari BinOp.andNot IntKind.u64 left (spanI (tzI left) (tzI (ari BinOp.xor IntKind.u64 (18446744073709551615 : Int) (ari BinOp.shr IntKind.u64 left (tzI left)))))) ∧ CallKind.normal = CallKind.normal ∧ TodoOk (ren 0 [(0, 0), (1, 1), (2, 2), (3, 3), (4, 4), (5, 5), (6, 6), (7, 7), (8, 8), (9, 9)]) giveH0 giveH0 ∧ ari BinOp.andNot IntKind.u64 left (spanI (tzI left) (tzI (ari BinOp.xor IntKind.u64 (18446744073709551615 : Int) (ari BinOp.shr IntKind.u64 left (tzI left))))) = ari BinOp.andNot IntKind.u64 left (spanI (tzI left) (tzI (ari BinOp.xor IntKind.u64 (18446744073709551615 : Int) (ari BinOp.shr IntKind.u64 left (tzI left))))) ∧ x = x ∧ CallKind.normal = CallKind.normal ∧ TodoOk (ren 0 [(0, 0), (1, 1), (2, 2), (3, 3), (4, 4), (5, 5), (6, 6), (7, 7), (8, 8), (9, 9)]) giveH1 giveH1 ∧ x = x ∧ Fn.func (40 : Nat) = Fn.func (40 : Nat) ∧ Fn.func (42 : Nat) = Fn.func (42 : Nat) ∧ x = x ∧ CallKind.normal = CallKind.normal ∧ TodoOk (ren 0 [(0, 0), (1, 1), (2, 2), (3, 3), (4, 4), (5, 5), (6, 6), (7, 7), (8, 8), (9, 9)]) giveH2 giveH2 ∧ x = x ∧ p = p ∧ Fn.func (40 : Nat) = Fn.func (40 : Nat) ∧ mayB p n = mayB p n ∧ p = p ∧ n = n ∧ n = n ∧ x = x ∧ (45 : Nat) = (45 : Nat) ∧ x = x ∧ (3 : Nat) = (3 : Nat) ∧ p = p ∧ (45 : Nat) = (45 : Nat) ∧ (45 : Nat) = (45 : Nat) ∧ x = x ∧ (67 : Nat) = (67 : Nat) ∧ Fn.func (40 : Nat) = Fn.func (40 : Nat) ∧ (3 : Nat) = (3 : Nat) ∧ n = n ∧ (45 : Nat) = (45 : Nat) ∧ x = x ∧ (65 : Nat) = (65 : Nat) ∧ EqL giveLp giveLp ∧ x = x ∧ Fn.func (40 : Nat) = Fn.func (40 : Nat) ∧ Fn.func (42 : Nat) = Fn.func (42 : Nat) ∧ x = x ∧ True)) ∧ ((left != (0 : Int)) = false → ((0 : Int) ≤ IntKind.wrap IntKind.i64 ((64 : Int) - n) ∧ (0 : Int) ≤ p ∧ True) ∧ y = ari BinOp.or IntKind.u64 x (spanI p n) ∧ b = true ∧ True)) := by kernel_rfl
theorem take_start (x p n y : Int) (b : Bool) (Q : Int → Prop) : (opR (takeC x p n)).vc (opA (setB y b)) (opN0 (takeC x p n) Q) =
    (((!mayB p n) = true → y = x ∧ b = false ∧ True) ∧ ((!mayB p n) = false → Q x ∧ CallKind.normal = CallKind.normal ∧ TodoOk (ren 0 [(0, 0), (1, 1), (2, 2), (3, 3), (4, 4), (5, 5), (6, 6), (7, 7), (8, 8), (9, 9)]) takeT0 takeT0 ∧ x = x ∧ x = x ∧ CallKind.normal = CallKind.normal ∧ TodoOk (ren 0 [(0, 0), (1, 1), (2, 2), (3, 3), (4, 4), (5, 5), (6, 6), (7, 7), (8, 8), (9, 9)]) takeT1 takeT1 ∧ x = x ∧ Fn.func (36 : Nat) = Fn.func (36 : Nat) ∧ Fn.func (42 : Nat) = Fn.func (42 : Nat) ∧ x = x ∧ CallKind.normal = CallKind.normal ∧ TodoOk (ren 0 [(0, 0), (1, 1), (2, 2), (3, 3), (4, 4), (5, 5), (6, 6), (7, 7), (8, 8), (9, 9)]) takeT2 takeT2 ∧ x = x ∧ p = p ∧ Fn.func (36 : Nat) = Fn.func (36 : Nat) ∧ mayB p n = mayB p n ∧ p = p ∧ n = n ∧ n = n ∧ x = x ∧ (45 : Nat) = (45 : Nat) ∧ x = x ∧ (3 : Nat) = (3 : Nat) ∧ p = p ∧ (45 : Nat) = (45 : Nat) ∧ (45 : Nat) = (45 : Nat) ∧ x = x ∧ (67 : Nat) = (67 : Nat) ∧ Fn.func (36 : Nat) = Fn.func (36 : Nat) ∧ (3 : Nat) = (3 : Nat) ∧ n = n ∧ (45 : Nat) = (45 : Nat) ∧ x = x ∧ (65 : Nat) = (65 : Nat) ∧ EqL takeLp takeLp ∧ x = x ∧ Fn.func (36 : Nat) = Fn.func (36 : Nat) ∧ Fn.func (42 : Nat) = Fn.func (42 : Nat) ∧ x = x ∧ True)) := by kernel_rfl
theorem take_step (x p n left y : Int) (b : Bool) (Q : Int → Prop) : (opS (takeC x p n) left).vc (opA (setB y b)) (opN (takeC x p n) Q) =
    (((left != (0 : Int)) = true → (uw (BitVec.ofInt (64 : Nat) left) = left ∧ True) ∧ ((0 : Int) ≤ tzI left ∧ True) ∧ (uw (BitVec.ofInt (64 : Nat) (ari BinOp.xor IntKind.u64 (18446744073709551615 : Int) (ari BinOp.shr IntKind.u64 left (tzI left)))) = ari BinOp.xor IntKind.u64 (18446744073709551615 : Int) (ari BinOp.shr IntKind.u64 left (tzI left)) ∧ True) ∧ ((decide (tzI left ≤ p) == true) = true → (decide (ari BinOp.add IntKind.i64 p n ≤ ari BinOp.add IntKind.i64 (tzI left) (tzI (ari BinOp.xor IntKind.u64 (18446744073709551615 : Int) (ari BinOp.shr IntKind.u64 left (tzI left))))) = true → ((tzI left == (0 : Int) && tzI (ari BinOp.xor IntKind.u64 (18446744073709551615 : Int) (ari BinOp.shr IntKind.u64 left (tzI left))) == (0 : Int)) = true → y = x ∧ b = false ∧ True) ∧ ((tzI left == (0 : Int) && tzI (ari BinOp.xor IntKind.u64 (18446744073709551615 : Int) (ari BinOp.shr IntKind.u64 left (tzI left))) == (0 : Int)) = false → ((0 : Int) ≤ IntKind.wrap IntKind.i64 ((64 : Int) - n) ∧ (0 : Int) ≤ p ∧ True) ∧ y = ari BinOp.andNot IntKind.u64 x (spanI p n) ∧ b = true ∧ True)) ∧ (decide (ari BinOp.add IntKind.i64 p n ≤ ari BinOp.add IntKind.i64 (tzI left) (tzI (ari BinOp.xor IntKind.u64 (18446744073709551615 : Int) (ari BinOp.shr IntKind.u64 left (tzI left))))) = false → ((0 : Int) ≤ IntKind.wrap IntKind.i64 ((64 : Int) - tzI (ari BinOp.xor IntKind.u64 (18446744073709551615 : Int) (ari BinOp.shr IntKind.u64 left (tzI left)))) ∧ (0 : Int) ≤ tzI left ∧ True) ∧ Q (ari BinOp.andNot IntKind.u64 left (spanI (tzI left) (tzI (ari BinOp.xor IntKind.u64 (18446744073709551615 : Int) (ari BinOp.shr IntKind.u64 left (tzI left)))))) ∧ CallKind.normal = CallKind.normal ∧ TodoOk (ren 0 [(0, 0), (1, 1), (2, 2), (3, 3), (4, 4), (5, 5), (6, 6), (7, 7), (8, 8), (9, 9)]) takeH0 takeH0 ∧ ari BinOp.andNot IntKind.u64 left (spanI (tzI left) (tzI (ari BinOp.xor IntKind.u64 (18446744073709551615 : Int) (ari BinOp.shr IntKind.u64 left (tzI left))))) = ari BinOp.andNot IntKind.u64 left (spanI (tzI left) (tzI (ari BinOp.xor IntKind.u64 (18446744073709551615 : Int) (ari BinOp.shr IntKind.u64 left (tzI left))))) ∧ x = x ∧ CallKind.normal = CallKind.normal ∧ TodoOk (ren 0 [(0, 0), (1, 1), (2, 2), (3, 3), (4, 4), (5, 5), (6, 6), (7, 7), (8, 8), (9, 9)]) takeH1 takeH1 ∧ x = x ∧ Fn.func (36 : Nat) = Fn.func (36 : Nat) ∧ Fn.func (42 : Nat) = Fn.func (42 : Nat) ∧ x = x ∧ CallKind.normal = CallKind.normal ∧ TodoOk (ren 0 [(0, 0), (1, 1), (2, 2), (3, 3), (4, 4), (5, 5), (6, 6), (7, 7), (8, 8), (9, 9)]) takeH2 takeH2 ∧ x = x ∧ p = p ∧ Fn.func (36 : Nat) = Fn.func (36 : Nat) ∧ mayB p n = mayB p n ∧ p = p ∧ n = n ∧ n = n ∧ x = x ∧ (45 : Nat) = (45 : Nat) ∧ x = x ∧ (3 : Nat) = (3 : Nat) ∧ p = p ∧ (45 : Nat) = (45 : Nat) ∧ (45 : Nat) = (45 : Nat) ∧ x = x ∧ (67 : Nat) = (67 : Nat) ∧ Fn.func (36 : Nat) = Fn.func (36 : Nat) ∧ (3 : Nat) = (3 : Nat) ∧ n = n ∧ (45 : Nat) = (45 : Nat) ∧ x = x ∧ (65 : Nat) = (65 : Nat) ∧ EqL takeLp takeLp ∧ x = x ∧ Fn.func (36 : Nat) = Fn.func (36 : Nat) ∧ Fn.func (42 : Nat) = Fn.func (42 : Nat) ∧ x = x ∧ True)) ∧ ((decide (tzI left ≤ p) == true) = false → ((0 : Int) ≤ IntKind.wrap IntKind.i64 ((64 : Int) - tzI (ari BinOp.xor IntKind.u64 (18446744073709551615 : Int) (ari BinOp.shr IntKind.u64 left (tzI left)))) ∧ (0 : Int) ≤ tzI left ∧ True) ∧ Q (ari BinOp.andNot IntKind.u64 left (spanI (tzI left) (tzI (ari BinOp.xor IntKind.u64 (18446744073709551615 : Int) (ari BinOp.shr IntKind.u64 left (tzI left)))))) ∧ CallKind.normal = CallKind.normal ∧ TodoOk (ren 0 [(0, 0), (1, 1), (2, 2), (3, 3), (4, 4), (5, 5), (6, 6), (7, 7), (8, 8), (9, 9)]) takeH0 takeH0 ∧ ari BinOp.andNot IntKind.u64 left (spanI (tzI left) (tzI (ari BinOp.xor IntKind.u64 (18446744073709551615 : Int) (ari BinOp.shr IntKind.u64 left (tzI left))))) = ari BinOp.andNot IntKind.u64 left (spanI (tzI left) (tzI (ari BinOp.xor IntKind.u64 (18446744073709551615 : Int) (ari BinOp.shr IntKind.u64 left (tzI left))))) ∧ x = x ∧ CallKind.normal = CallKind.normal ∧ TodoOk (ren 0 [(0, 0), (1, 1), (2, 2), (3, 3), (4, 4), (5, 5), (6, 6), (7, 7), (8, 8), (9, 9)]) takeH1 takeH1 ∧ x = x ∧ Fn.func (36 : Nat) = Fn.func (36 : Nat) ∧ Fn.func (42 : Nat) = Fn.func (42 : Nat) ∧ x = x ∧ CallKind.normal = CallKind.normal ∧ TodoOk (ren 0 [(0, 0), (1, 1), (2, 2), (3, 3), (4, 4), (5, 5), (6, 6), (7, 7), (8, 8), (9, 9)]) takeH2 takeH2 ∧ x = x ∧ p = p ∧ Fn.func (36 : Nat) = Fn.func (36 : Nat) ∧ mayB p n = mayB p n ∧ p = p ∧ n = n ∧ n = n ∧ x = x ∧ (45 : Nat) = (45 : Nat) ∧ x = x ∧ (3 : Nat) = (3 : Nat) ∧ p = p ∧ (45 : Nat) = (45 : Nat) ∧ (45 : Nat) = (45 : Nat) ∧ x = x ∧ (67 : Nat) = (67 : Nat) ∧ Fn.func (36 : Nat) = Fn.func (36 : Nat) ∧ (3 : Nat) = (3 : Nat) ∧ n = n ∧ (45 : Nat) = (45 : Nat) ∧ x = x ∧ (65 : Nat) = (65 : Nat) ∧ EqL takeLp takeLp ∧ x = x ∧ Fn.func (36 : Nat) = Fn.func (36 : Nat) ∧ Fn.func (42 : Nat) = Fn.func (42 : Nat) ∧ x = x ∧ True)) ∧ ((left != (0 : Int)) = false → y = x ∧ b = false ∧ True)) := by kernel_rfl
theorem find_start (x n y : Int) (b : Bool) (Q : Int → Prop) : (opR (findC x n)).vc (opA (intB y b)) (opN0 (findC x n) Q) =
    ((decide (n < (1 : Int)) = true → y = (0 : Int) ∧ b = false ∧ True) ∧ (decide (n < (1 : Int)) = false → Q x ∧ CallKind.normal = CallKind.normal ∧ TodoOk (ren 0 [(0, 0), (1, 1), (2, 2), (3, 3), (4, 4), (5, 5), (6, 6), (7, 7)]) findT0 findT0 ∧ x = x ∧ x = x ∧ CallKind.normal = CallKind.normal ∧ TodoOk (ren 0 [(0, 0), (1, 1), (2, 2), (3, 3), (4, 4), (5, 5), (6, 6), (7, 7)]) findT1 findT1 ∧ x = x ∧ Fn.func (34 : Nat) = Fn.func (34 : Nat) ∧ Fn.func (42 : Nat) = Fn.func (42 : Nat) ∧ x = x ∧ CallKind.normal = CallKind.normal ∧ TodoOk (ren 0 [(0, 0), (1, 1), (2, 2), (3, 3), (4, 4), (5, 5), (6, 6), (7, 7)]) findT2 findT2 ∧ x = x ∧ n = n ∧ n = n ∧ x = x ∧ Fn.func (34 : Nat) = Fn.func (34 : Nat) ∧ (45 : Nat) = (45 : Nat) ∧ x = x ∧ (3 : Nat) = (3 : Nat) ∧ n = n ∧ (67 : Nat) = (67 : Nat) ∧ Fn.func (34 : Nat) = Fn.func (34 : Nat) ∧ (45 : Nat) = (45 : Nat) ∧ x = x ∧ (45 : Nat) = (45 : Nat) ∧ x = x ∧ (65 : Nat) = (65 : Nat) ∧ EqL findLp findLp ∧ x = x ∧ Fn.func (34 : Nat) = Fn.func (34 : Nat) ∧ Fn.func (42 : Nat) = Fn.func (42 : Nat) ∧ x = x ∧ True)) := by kernel_rfl
theorem find_step (x n left y : Int) (b : Bool) (Q : Int → Prop) : (opS (findC x n) left).vc (opA (intB y b)) (opN (findC x n) Q) =
    (((left != (0 : Int)) = true → (uw (BitVec.ofInt (64 : Nat) left) = left ∧ True) ∧ ((0 : Int) ≤ tzI left ∧ True) ∧ (uw (BitVec.ofInt (64 : Nat) (ari BinOp.xor IntKind.u64 (18446744073709551615 : Int) (ari BinOp.shr IntKind.u64 left (tzI left)))) = ari BinOp.xor IntKind.u64 (18446744073709551615 : Int) (ari BinOp.shr IntKind.u64 left (tzI left)) ∧ True) ∧ (decide (tzI (ari BinOp.xor IntKind.u64 (18446744073709551615 : Int) (ari BinOp.shr IntKind.u64 left (tzI left))) ≥ n) = true → y = tzI left ∧ b = !(tzI left == (0 : Int) && tzI (ari BinOp.xor IntKind.u64 (18446744073709551615 : Int) (ari BinOp.shr IntKind.u64 left (tzI left))) == (0 : Int)) ∧ True) ∧ (decide (tzI (ari BinOp.xor IntKind.u64 (18446744073709551615 : Int) (ari BinOp.shr IntKind.u64 left (tzI left))) ≥ n) = false → ((0 : Int) ≤ IntKind.wrap IntKind.i64 ((64 : Int) - tzI (ari BinOp.xor IntKind.u64 (18446744073709551615 : Int) (ari BinOp.shr IntKind.u64 left (tzI left)))) ∧ (0 : Int) ≤ tzI left ∧ True) ∧ Q (ari BinOp.andNot IntKind.u64 left (spanI (tzI left) (tzI (ari BinOp.xor IntKind.u64 (18446744073709551615 : Int) (ari BinOp.shr IntKind.u64 left (tzI left)))))) ∧ CallKind.normal = CallKind.normal ∧ TodoOk (ren 0 [(0, 0), (1, 1), (2, 2), (3, 3), (4, 4), (5, 5), (6, 6), (7, 7)]) findH0 findH0 ∧ ari BinOp.andNot IntKind.u64 left (spanI (tzI left) (tzI (ari BinOp.xor IntKind.u64 (18446744073709551615 : Int) (ari BinOp.shr IntKind.u64 left (tzI left))))) = ari BinOp.andNot IntKind.u64 left (spanI (tzI left) (tzI (ari BinOp.xor IntKind.u64 (18446744073709551615 : Int) (ari BinOp.shr IntKind.u64 left (tzI left))))) ∧ x = x ∧ CallKind.normal = CallKind.normal ∧ TodoOk (ren 0 [(0, 0), (1, 1), (2, 2), (3, 3), (4, 4), (5, 5), (6, 6), (7, 7)]) findH1 findH1 ∧ x = x ∧ Fn.func (34 : Nat) = Fn.func (34 : Nat) ∧ Fn.func (42 : Nat) = Fn.func (42 : Nat) ∧ x = x ∧ CallKind.normal = CallKind.normal ∧ TodoOk (ren 0 [(0, 0), (1, 1), (2, 2), (3, 3), (4, 4), (5, 5), (6, 6), (7, 7)]) findH2 findH2 ∧ x = x ∧ n = n ∧ n = n ∧ x = x ∧ Fn.func (34 : Nat) = Fn.func (34 : Nat) ∧ (45 : Nat) = (45 : Nat) ∧ x = x ∧ (3 : Nat) = (3 : Nat) ∧ n = n ∧ (67 : Nat) = (67 : Nat) ∧ Fn.func (34 : Nat) = Fn.func (34 : Nat) ∧ (45 : Nat) = (45 : Nat) ∧ x = x ∧ (45 : Nat) = (45 : Nat) ∧ x = x ∧ (65 : Nat) = (65 : Nat) ∧ EqL findLp findLp ∧ x = x ∧ Fn.func (34 : Nat) = Fn.func (34 : Nat) ∧ Fn.func (42 : Nat) = Fn.func (42 : Nat) ∧ x = x ∧ True)) ∧ ((left != (0 : Int)) = false → y = (0 : Int) ∧ b = false ∧ True)) := by kernel_rfl
end Go.Proofs.YtiblicobfmihdaaDoor
/- Runs of a word's bits, one behind the other. No condition. -/
namespace Go.Proofs.YtiblicobfmihdaaDoor
/-- The bits of so many places from a place on. -/
def spanW (a n : Nat) : BitVec 64 := (BitVec.allOnes 64 >>> (64 - n)) <<< a
theorem spanW_bit (a n i : Nat) (h : a + n ≤ 64) : (spanW a n).getLsbD i = decide (a ≤ i ∧ i < a + n) := by
  unfold spanW
  rw [BitVec.getLsbD_shiftLeft, BitVec.getLsbD_ushiftRight, BitVec.getLsbD_allOnes]
  by_cases h1 : a ≤ i <;> by_cases h2 : i < a + n
  · rw [decide_eq_true (show a ≤ i ∧ i < a + n from ⟨h1, h2⟩), decide_eq_true (show i < 64 by omega), decide_eq_false (show ¬ i < a by omega), decide_eq_true (show 64 - n + (i - a) < 64 by omega)]
    rfl
  · rw [decide_eq_false (show ¬ (a ≤ i ∧ i < a + n) from fun x => h2 x.2), decide_eq_false (show ¬ 64 - n + (i - a) < 64 by omega)]
    simp
  · rw [decide_eq_false (show ¬ (a ≤ i ∧ i < a + n) from fun x => h1 x.1), decide_eq_true (show i < a by omega)]
    simp
  · rw [decide_eq_false (show ¬ (a ≤ i ∧ i < a + n) from fun x => h1 x.1), decide_eq_true (show i < a by omega)]
    simp
theorem spanI_uw (p n : Int) (hp : 0 ≤ p) (hn : 0 ≤ n) (h : p + n ≤ 64) : spanI p n = uw (spanW p.toNat n.toNat) := by
  have h1 : IntKind.i64.wrap (64 - n) = 64 - n := Go.IntWalk.i64_in _ (by omega)
  have eA : (18446744073709551615 : Int) = uw (BitVec.allOnes 64) := rfl
  unfold spanI
  rw [h1, eA, uw_shr, uw_shl]
  unfold spanW
  congr 3
  omega
/-- How long the lowest run is. -/
def tzn (L : BitVec 64) : Nat := tz (~~~ (L >>> tz L))
/-- What is left behind the lowest run. -/
def nextW (L : BitVec 64) : BitVec 64 := L &&& ~~~ spanW (tz L) (tzn L)
theorem nbit (L : BitVec 64) (i : Nat) : (~~~ (L >>> tz L)).getLsbD i = (decide (i < 64) && !L.getLsbD (tz L + i)) := by
  rw [BitVec.getLsbD_not, BitVec.getLsbD_ushiftRight]
theorem nne {L : BitVec 64} (h : L ≠ 0#64) (h1 : tzn L = 64) : tz L = 0 ∧ ∀ i, i < 64 → L.getLsbD i = true := by
  have hz := tz_lt h
  have hb : ∀ i, i < 64 → L.getLsbD (tz L + i) = true := by
    intro i hi
    have := tz_below (X := ~~~ (L >>> tz L)) (i := i) (by show i < tzn L; omega)
    rw [nbit, decide_eq_true hi] at this
    simpa using this
  have h0 : tz L = 0 := by
    rcases Nat.eq_zero_or_pos (tz L) with h | h
    · exact h
    · have := hb (64 - tz L) (by omega)
      rw [BitVec.getLsbD_of_ge _ _ (by omega)] at this
      cases this
  refine ⟨h0, fun i hi => ?_⟩
  have := hb i hi
  rwa [h0, Nat.zero_add] at this
/-- The lowest run. -/
theorem low_run {L : BitVec 64} (h : L ≠ 0#64) : 1 ≤ tzn L ∧ tz L + tzn L ≤ 64 ∧ (∀ i, i < tz L → L.getLsbD i = false) ∧ (∀ i, tz L ≤ i → i < tz L + tzn L → L.getLsbD i = true) ∧ L.getLsbD (tz L + tzn L) = false := by
  have hz := tz_lt h
  have hk : tzn L ≤ 64 := tz_le _
  have hone : ∀ i, i < tzn L → L.getLsbD (tz L + i) = true := by
    intro i hi
    have := tz_below (X := ~~~ (L >>> tz L)) (i := i) hi
    rw [nbit, decide_eq_true (show i < 64 by omega)] at this
    simpa using this
  refine ⟨?_, ?_, fun i hi => tz_below hi, fun i h1 h2 => ?_, ?_⟩
  · rcases Nat.eq_zero_or_pos (tzn L) with h0 | h0
    · have hne : ~~~ (L >>> tz L) ≠ 0#64 := by
        intro e
        have : tzn L = 64 := by unfold tzn; rw [e, tz_zero]
        omega
      have := tz_bit hne
      rw [show tz (~~~ (L >>> tz L)) = 0 from h0, nbit] at this
      rw [Nat.add_zero, tz_bit h] at this
      simp at this
    · exact h0
  · rcases Nat.lt_or_ge 64 (tz L + tzn L) with h1 | h1
    · have := hone (64 - tz L) (by omega)
      rw [BitVec.getLsbD_of_ge _ _ (by omega)] at this
      cases this
    · exact h1
  · have := hone (i - tz L) (by omega)
    rwa [show tz L + (i - tz L) = i by omega] at this
  · by_cases hne : ~~~ (L >>> tz L) = 0#64
    · have : tzn L = 64 := by unfold tzn; rw [hne, tz_zero]
      exact BitVec.getLsbD_of_ge _ _ (by omega)
    · have := tz_bit hne
      rw [nbit] at this
      simp at this
      exact this.2
theorem nextW_bit {L : BitVec 64} (h : L ≠ 0#64) (i : Nat) : (nextW L).getLsbD i = (decide (tz L + tzn L ≤ i) && L.getLsbD i) := by
  obtain ⟨h1, h2, h3, h4, h5⟩ := low_run h
  unfold nextW
  rw [BitVec.getLsbD_and, BitVec.getLsbD_not, spanW_bit _ _ _ h2]
  by_cases k1 : i < tz L
  · rw [h3 i k1]; simp
  · by_cases k2 : i < tz L + tzn L
    · rw [decide_eq_true (show tz L ≤ i ∧ i < tz L + tzn L by omega), decide_eq_false (show ¬ tz L + tzn L ≤ i by omega)]
      simp
    · rw [decide_eq_false (show ¬ (tz L ≤ i ∧ i < tz L + tzn L) by omega), decide_eq_true (show tz L + tzn L ≤ i by omega)]
      by_cases k3 : i < 64
      · rw [decide_eq_true k3]; simp
      · rw [BitVec.getLsbD_of_ge _ _ (by omega)]; simp
/-- What is left of X from the place p on; there is no page at p, unless it is the first one. -/
structure Part (X L : BitVec 64) (p : Nat) : Prop where
  le : p ≤ 64
  bits : ∀ i, L.getLsbD i = (decide (p ≤ i) && X.getLsbD i)
  at0 : p = 0 ∨ X.getLsbD p = false
theorem Part.start (X : BitVec 64) : Part X X 0 := ⟨Nat.zero_le _, fun i => by simp, .inl rfl⟩
/-- The next run of X. -/
structure NextRun (X : BitVec 64) (p a n : Nat) : Prop where
  pa : p ≤ a
  n1 : 1 ≤ n
  le : a + n ≤ 64
  gap : ∀ i, p ≤ i → i < a → X.getLsbD i = false
  all : ∀ i, a ≤ i → i < a + n → X.getLsbD i = true
  hi : X.getLsbD (a + n) = false
  lo : a = 0 ∨ X.getLsbD (a - 1) = false
theorem Part.next {X L : BitVec 64} {p : Nat} (hp : Part X L p) (h : L ≠ 0#64) : NextRun X p (tz L) (tzn L) ∧ Part X (nextW L) (tz L + tzn L) := by
  obtain ⟨h1, h2, h3, h4, h5⟩ := low_run h
  have hpa : p ≤ tz L := by
    have := hp.bits (tz L)
    rw [tz_bit h] at this
    simp at this
    exact this.1
  have hx : ∀ i, p ≤ i → X.getLsbD i = L.getLsbD i := fun i hi => by rw [hp.bits i, decide_eq_true hi, Bool.true_and]
  have hX5 : X.getLsbD (tz L + tzn L) = false := by rw [hx _ (by omega)]; exact h5
  refine ⟨⟨hpa, h1, h2, fun i k1 k2 => ?_, fun i k1 k2 => ?_, hX5, ?_⟩, ⟨h2, fun i => ?_, .inr hX5⟩⟩
  · rw [hx i k1]; exact h3 i k2
  · rw [hx i (by omega)]; exact h4 i k1 k2
  · rcases Nat.eq_zero_or_pos (tz L) with k | k
    · exact .inl k
    · refine .inr ?_
      by_cases k2 : p ≤ tz L - 1
      · rw [hx _ k2]; exact h3 _ (by omega)
      · have e : p = tz L := by omega
        rcases hp.at0 with k3 | k3
        · omega
        · have := hx p (Nat.le_refl _)
          rw [k3, e, tz_bit h] at this
          cases this
  · rw [nextW_bit h]
    by_cases k : tz L + tzn L ≤ i
    · rw [decide_eq_true k, hx i (by omega)]
    · rw [decide_eq_false k]; simp
theorem Part.done {X : BitVec 64} {p : Nat} (hp : Part X 0#64 p) (i : Nat) (h : p ≤ i) : X.getLsbD i = false := by
  have := hp.bits i
  rw [decide_eq_true h] at this
  simpa using this.symm
/-! As the program's operations make them. -/
theorem ari_n (L : BitVec 64) : ari .xor .u64 18446744073709551615 (ari .shr .u64 (uw L) (tz L : Nat)) = uw (~~~ (L >>> tz L)) := by
  rw [ari_uw_shr, ari_uw_not, Int.toNat_natCast]
theorem tzI_n (L : BitVec 64) : tzI (ari .xor .u64 18446744073709551615 (ari .shr .u64 (uw L) (tz L : Nat))) = (tzn L : Nat) := by
  rw [ari_n, tzI_uw]; rfl
theorem ari_next {L : BitVec 64} (h : L ≠ 0#64) : ari .andNot .u64 (uw L) (spanI (tz L : Nat) (tzn L : Nat)) = uw (nextW L) := by
  obtain ⟨h1, h2, _⟩ := low_run h
  rw [spanI_uw _ _ (by omega) (by omega) (by omega), ari_uw_andNot, Int.toNat_natCast, Int.toNat_natCast]
  rfl
end Go.Proofs.YtiblicobfmihdaaDoor
/- Of runs: Give, Take and Find: what they answer. No condition. -/
namespace Go.Proofs.YtiblicobfmihdaaDoor
set_option maxRecDepth 100000
theorem tzn_def (L : BitVec 64) : tz (~~~ (L >>> tz L)) = tzn L := rfl
theorem uw_ne_false (L : BitVec 64) (h : L = 0#64) : (uw L != 0) = false := by subst h; rfl
theorem uw_ne_true (L : BitVec 64) (h : L ≠ 0#64) : (uw L != 0) = true := by
  have := uw_zero_iff L
  rw [decide_eq_false h] at this
  unfold bne
  rw [this]; rfl
theorem opN_good {c : List SFr} {A : SV → SMem → Prop} {Q : Int → Prop} (hg : ∀ left, Q left → Good EC.P A 0 (opH c left) (opM c)) {fs : List SFr} {m : SMem} (h : opN c Q fs m) : Good EC.P A 0 fs m := by
  unfold opN at h
  split at h
  · exact Good.of_sub h.2 (hg _ h.1)
  · exact h.elim
theorem opN0_good {c : List SFr} {A : SV → SMem → Prop} {Q : Int → Prop} (hg : ∀ left, Q left → Good EC.P A 0 (opH c left) (opM c)) {fs : List SFr} {m : SMem} (h : opN0 c Q fs m) : Good EC.P A 0 fs m := by
  unfold opN0 at h
  split at h
  · exact Good.of_sub h.2 (Good.head (hg _ h.1))
  · exact h.elim
theorem mayB_iff {p n : Int} : mayB p n = true ↔ 1 ≤ n ∧ 0 ≤ p ∧ p < 64 ∧ n ≤ 64 - p := by unfold mayB; rw [decide_eq_true_eq]
/-- Are the pages of a run so? -/
def allIn (X : BitVec 64) (a n : Nat) (b : Bool) : Bool := decide (∀ i : Fin 64, a ≤ i.val → i.val < a + n → X.getLsbD i.val = b)
theorem allIn_iff {X : BitVec 64} {a n : Nat} {b : Bool} (h : a + n ≤ 64) : allIn X a n b = true ↔ ∀ i, a ≤ i → i < a + n → X.getLsbD i = b := by
  unfold allIn
  rw [decide_eq_true_eq]
  exact ⟨fun k i h1 h2 => k ⟨i, by omega⟩ h1 h2, fun k i h1 h2 => k i.val h1 h2⟩
def giveOk (X : BitVec 64) (p n : Int) : Bool := mayB p n && allIn X p.toNat n.toNat false
def giveW (X : BitVec 64) (p n : Int) : BitVec 64 := if giveOk X p n = true then X ||| spanW p.toNat n.toNat else X
def takeOk (X : BitVec 64) (p n : Int) : Bool := mayB p n && allIn X p.toNat n.toNat true
def takeW (X : BitVec 64) (p n : Int) : BitVec 64 := if takeOk X p n = true then X &&& ~~~ spanW p.toNat n.toNat else X
section
variable (X : BitVec 64) (p n : Int)
theorem give_no (h : giveOk X p n = false) : giveW X p n = X := by unfold giveW; rw [h]; rfl
theorem give_yes (h : giveOk X p n = true) : uw (giveW X p n) = ari .or .u64 (uw X) (spanI p n) := by
  have hm := mayB_iff.1 (show mayB p n = true by unfold giveOk at h; simp at h; exact h.1)
  unfold giveW
  rw [if_pos h, spanI_uw p n (by omega) (by omega) (by omega), ari_uw_or]
theorem take_no (h : takeOk X p n = false) : takeW X p n = X := by unfold takeW; rw [h]; rfl
theorem take_yes (h : takeOk X p n = true) : uw (takeW X p n) = ari .andNot .u64 (uw X) (spanI p n) := by
  have hm := mayB_iff.1 (show mayB p n = true by unfold takeOk at h; simp at h; exact h.1)
  unfold takeW
  rw [if_pos h, spanI_uw p n (by omega) (by omega) (by omega), ari_uw_andNot]
theorem nz_run {L : BitVec 64} (h : L ≠ 0#64) : ((tz L : Nat) == (0 : Int) && (tzn L : Nat) == (0 : Int)) = false := by
  have := (low_run h).1
  have : ((tzn L : Nat) == (0 : Int)) = false := by
    rw [beq_eq_false_iff_ne]; omega
  rw [this, Bool.and_false]
theorem give_good (hm : mayB p n = true) : ∀ (k : Nat) (L : BitVec 64) (q : Nat), 64 - q < k → Part X L q → (∀ i, p.toNat ≤ i → i < p.toNat + n.toNat → i < q → X.getLsbD i = false) →
    Good EC.P (opA (setB (uw (giveW X p n)) (giveOk X p n))) 0 (opH (giveC (uw X) p n) (uw L)) (opM (giveC (uw X) p n)) := by
  have hm' := mayB_iff.1 hm
  have hi64 : ∀ t : Int, 0 ≤ t → t ≤ 128 → IntKind.i64.wrap t = t := fun t h1 h2 => Go.IntWalk.i64_in _ (by omega)
  intro k
  induction k with
  | zero => intro L q h; omega
  | succ k ih =>
    intro L q hk hP hI
    refine past_vc EC_ok 1000 (give_step (uw X) p n (uw L) (uw (giveW X p n)) (giveOk X p n) (fun left => ∃ L' q', left = uw L' ∧ 64 - q' < k ∧ Part X L' q' ∧ (∀ i, p.toNat ≤ i → i < p.toNat + n.toNat → i < q' → X.getLsbD i = false))) ?_ (fun _ _ h => h)
      (fun fs m hb => opN_good (fun left ⟨L', q', e, k1, k2, k3⟩ => by rw [e]; exact ih L' q' k1 k2 k3) hb)
    by_cases hL : L = 0#64
    · subst hL
      have hok : giveOk X p n = true := by
        unfold giveOk
        rw [hm, Bool.true_and, allIn_iff (by omega)]
        intro i h1 h2
        by_cases h3 : i < q
        · exact hI i h1 h2 h3
        · exact hP.done i (by omega)
      refine ⟨fun h => ?_, fun _ => ?_⟩
      · cases h
      · exact ⟨⟨by rw [hi64 _ (by omega) (by omega)]; omega, by omega, trivial⟩, give_yes X p n hok, hok, trivial⟩
    · obtain ⟨hr, hP'⟩ := hP.next hL
      have ha := tz_lt hL
      rw [uw_ne_true L hL]
      simp only [tzI_uw, ari_n, tzn_def, ofInt_uw, ari_next hL, nz_run hL, Bool.not_false, ari_add]
      have e1 : IntKind.i64.wrap (p + n) = p + n := hi64 _ (by omega) (by omega)
      have e2 : IntKind.i64.wrap ((tz L : Nat) + (tzn L : Nat)) = ((tz L : Nat) + (tzn L : Nat) : Int) := hi64 _ (by omega) (by have := hr.le; omega)
      have e3 : IntKind.i64.wrap (64 - n) = 64 - n := hi64 _ (by omega) (by omega)
      have e4 : IntKind.i64.wrap (64 - (tzn L : Nat)) = 64 - (tzn L : Nat) := hi64 _ (by have := hr.le; omega) (by omega)
      rw [e1, e2, e3, e4]
      have hgo : (¬ ((tz L : Nat) < p + n) ∨ ¬ (p < (tz L : Nat) + (tzn L : Nat))) → ∃ L' q', uw (nextW L) = uw L' ∧ 64 - q' < k ∧ Part X L' q' ∧ (∀ i, p.toNat ≤ i → i < p.toNat + n.toNat → i < q' → X.getLsbD i = false) := by
        intro hc
        refine ⟨nextW L, tz L + tzn L, rfl, by have := hr.n1; have := hr.le; have := hr.pa; omega, hP', fun i h1 h2 h3 => ?_⟩
        by_cases h4 : i < q
        · exact hI i h1 h2 h4
        · by_cases h5 : i < tz L
          · exact hr.gap i (by omega) h5
          · omega
      have hno : ((tz L : Nat) < p + n) → (p < (tz L : Nat) + (tzn L : Nat)) → giveOk X p n = false := by
        intro c1 c2
        cases h : giveOk X p n with
        | false => rfl
        | true =>
          unfold giveOk at h
          rw [hm, Bool.true_and, allIn_iff (by omega)] at h
          have h1 := h (max p.toNat (tz L)) (by omega) (by omega)
          have h2 := hr.all (max p.toNat (tz L)) (by omega) (by have := hr.n1; omega)
          rw [h1] at h2
          cases h2
      have hle := hr.le
      refine ⟨fun _ => ⟨⟨trivial, trivial⟩, ⟨by omega, trivial⟩, ⟨trivial, trivial⟩, fun c1 => ⟨fun c2 => ⟨fun _ => ?_, fun h => ?_⟩, fun c2 => ⟨⟨by omega, by omega, trivial⟩, hgo (by simp at c2; omega), ?_⟩⟩, fun c1 => ⟨⟨by omega, by omega, trivial⟩, hgo (by simp at c1; omega), ?_⟩⟩, fun h => ?_⟩
      all_goals first | (cases h; done) | skip
      · have h0 := hno (by simpa using c1) (by simpa using c2)
        exact ⟨by rw [give_no X p n h0], h0, trivial⟩
      all_goals repeat' first | exact trivial | apply And.intro | exact rfl
theorem take_good (hm : mayB p n = true) : ∀ (k : Nat) (L : BitVec 64) (q : Nat), 64 - q < k → Part X L q → (q ≤ p.toNat ∨ ∃ i, p.toNat ≤ i ∧ i < p.toNat + n.toNat ∧ X.getLsbD i = false) →
    Good EC.P (opA (setB (uw (takeW X p n)) (takeOk X p n))) 0 (opH (takeC (uw X) p n) (uw L)) (opM (takeC (uw X) p n)) := by
  have hm' := mayB_iff.1 hm
  have hi64 : ∀ t : Int, 0 ≤ t → t ≤ 128 → IntKind.i64.wrap t = t := fun t h1 h2 => Go.IntWalk.i64_in _ (by omega)
  have hnot : (∃ i, p.toNat ≤ i ∧ i < p.toNat + n.toNat ∧ X.getLsbD i = false) → takeOk X p n = false := by
    rintro ⟨i, h1, h2, h3⟩
    cases h : takeOk X p n with
    | false => rfl
    | true =>
      unfold takeOk at h
      rw [hm, Bool.true_and, allIn_iff (by omega)] at h
      rw [h i h1 h2] at h3
      cases h3
  intro k
  induction k with
  | zero => intro L q h; omega
  | succ k ih =>
    intro L q hk hP hI
    refine past_vc EC_ok 1000 (take_step (uw X) p n (uw L) (uw (takeW X p n)) (takeOk X p n) (fun left => ∃ L' q', left = uw L' ∧ 64 - q' < k ∧ Part X L' q' ∧ (q' ≤ p.toNat ∨ ∃ i, p.toNat ≤ i ∧ i < p.toNat + n.toNat ∧ X.getLsbD i = false))) ?_ (fun _ _ h => h)
      (fun fs m hb => opN_good (fun left ⟨L', q', e, k1, k2, k3⟩ => by rw [e]; exact ih L' q' k1 k2 k3) hb)
    by_cases hL : L = 0#64
    · subst hL
      have hok : takeOk X p n = false := by
        rcases hI with h | h
        · exact hnot ⟨p.toNat, Nat.le_refl _, by omega, hP.done _ h⟩
        · exact hnot h
      refine ⟨fun h => ?_, fun _ => ?_⟩
      · cases h
      · exact ⟨by rw [take_no X p n hok], hok, trivial⟩
    · obtain ⟨hr, hP'⟩ := hP.next hL
      have ha := tz_lt hL
      rw [uw_ne_true L hL]
      simp only [tzI_uw, ari_n, tzn_def, ofInt_uw, ari_next hL, nz_run hL, ari_add]
      have hle := hr.le
      have hpa := hr.pa
      have hn1 := hr.n1
      have e1 : IntKind.i64.wrap (p + n) = p + n := hi64 _ (by omega) (by omega)
      have e2 : IntKind.i64.wrap ((tz L : Nat) + (tzn L : Nat)) = ((tz L : Nat) + (tzn L : Nat) : Int) := hi64 _ (by omega) (by omega)
      have e3 : IntKind.i64.wrap (64 - n) = 64 - n := hi64 _ (by omega) (by omega)
      have e4 : IntKind.i64.wrap (64 - (tzn L : Nat)) = 64 - (tzn L : Nat) := hi64 _ (by omega) (by omega)
      rw [e1, e2, e3, e4]
      have hlt : 64 - (tz L + tzn L) < k := by clear hI hnot; omega
      have hgo : (¬ ((tz L : Nat) ≤ p) ∨ ¬ (p + n ≤ (tz L : Nat) + (tzn L : Nat))) → ∃ L' q', uw (nextW L) = uw L' ∧ 64 - q' < k ∧ Part X L' q' ∧ (q' ≤ p.toNat ∨ ∃ i, p.toNat ≤ i ∧ i < p.toNat + n.toNat ∧ X.getLsbD i = false) := by
        intro hc
        refine ⟨nextW L, tz L + tzn L, rfl, hlt, hP', ?_⟩
        rcases hI with h | h
        · by_cases h1 : tz L + tzn L ≤ p.toNat
          · exact .inl h1
          · by_cases h2 : p.toNat < tz L
            · exact .inr ⟨p.toNat, Nat.le_refl _, by omega, hr.gap _ h h2⟩
            · exact .inr ⟨tz L + tzn L, by omega, by omega, hr.hi⟩
        · exact .inr h
      have hyes : ((tz L : Nat) ≤ p) → (p + n ≤ (tz L : Nat) + (tzn L : Nat)) → takeOk X p n = true := by
        intro c1 c2
        unfold takeOk
        rw [hm, Bool.true_and, allIn_iff (by omega)]
        exact fun i h1 h2 => hr.all i (by omega) (by omega)
      refine ⟨fun _ => ⟨⟨trivial, trivial⟩, ⟨by omega, trivial⟩, ⟨trivial, trivial⟩, fun c1 => ⟨fun c2 => ⟨fun h => ?_, fun _ => ?_⟩, fun c2 => ⟨⟨by omega, by omega, trivial⟩, hgo (by simp at c2; omega), ?_⟩⟩, fun c1 => ⟨⟨by omega, by omega, trivial⟩, hgo (by simp at c1; omega), ?_⟩⟩, fun h => ?_⟩
      all_goals first | (cases h; done) | skip
      · have h0 := hyes (by simpa using c1) (by simpa using c2)
        exact ⟨⟨by omega, by omega, trivial⟩, take_yes X p n h0, h0, trivial⟩
      all_goals repeat' first | exact trivial | apply And.intro | exact rfl
end
/-- The least place from one on that is so. -/
def seek (P : Nat → Bool) : Nat → Nat → Option Nat
  | 0, _ => none
  | k + 1, a => match P a with
    | true => some a
    | false => seek P k (a + 1)
theorem seek_some {P : Nat → Bool} : ∀ {k a b : Nat}, seek P k a = some b → a ≤ b ∧ b < a + k ∧ P b = true ∧ ∀ i, a ≤ i → i < b → P i = false
  | 0, _, _, h => by cases h
  | k + 1, a, b, h => by
    unfold seek at h
    split at h
    · rename_i e; cases h; exact ⟨Nat.le_refl _, by omega, e, fun i h1 h2 => by omega⟩
    · rename_i e
      obtain ⟨h1, h2, h3, h4⟩ := seek_some h
      refine ⟨by omega, by omega, h3, fun i k1 k2 => ?_⟩
      rcases Nat.lt_or_ge a i with k3 | k3
      · exact h4 i k3 k2
      · have : i = a := by omega
        subst this; exact e
theorem seek_none {P : Nat → Bool} : ∀ {k a : Nat}, (∀ i, a ≤ i → i < a + k → P i = false) → seek P k a = none
  | 0, _, _ => rfl
  | k + 1, a, h => by
    unfold seek
    rw [h a (Nat.le_refl _) (by omega)]
    exact seek_none fun i h1 h2 => h i (by omega) (by omega)
theorem seek_of {P : Nat → Bool} : ∀ {k a b : Nat}, a ≤ b → b < a + k → P b = true → (∀ i, a ≤ i → i < b → P i = false) → seek P k a = some b
  | 0, _, _, _, _, _, _ => by omega
  | k + 1, a, b, h1, h2, h3, h4 => by
    unfold seek
    rcases Nat.lt_or_ge a b with h | h
    · rw [h4 a (Nat.le_refl _) h]
      exact seek_of (by omega) (by omega) h3 fun i k1 k2 => h4 i (by omega) k2
    · have : a = b := by omega
      subst this
      rw [h3]
theorem seek_noneD {P : Nat → Bool} : ∀ {k a : Nat}, seek P k a = none → ∀ i, a ≤ i → i < a + k → P i = false
  | 0, _, _, _, _, _ => by omega
  | k + 1, a, h, i, h1, h2 => by
    unfold seek at h
    split at h
    · cases h
    · rename_i e
      rcases Nat.lt_or_ge a i with k3 | k3
      · exact seek_noneD h i k3 (by omega)
      · have : i = a := by omega
        subst this; exact e
/-- Does a run lie there? -/
def fitsAt (X : BitVec 64) (n : Int) (a : Nat) : Bool := decide (1 ≤ n ∧ n + (a : Int) ≤ 64) && allIn X a n.toNat true
theorem fitsAt_iff {X : BitVec 64} {n : Int} {a : Nat} : fitsAt X n a = true ↔ 1 ≤ n ∧ n + (a : Int) ≤ 64 ∧ ∀ i, a ≤ i → i < a + n.toNat → X.getLsbD i = true := by
  unfold fitsAt
  rw [Bool.and_eq_true, decide_eq_true_eq]
  constructor
  · rintro ⟨⟨h1, h2⟩, h3⟩
    exact ⟨h1, h2, (allIn_iff (by omega)).1 h3⟩
  · rintro ⟨h1, h2, h3⟩
    exact ⟨⟨h1, h2⟩, (allIn_iff (by omega)).2 h3⟩
def findN (X : BitVec 64) (n : Int) : Option Nat := seek (fitsAt X n) 64 0
def findI (X : BitVec 64) (n : Int) : Int := match findN X n with | some a => (a : Nat) | none => 0
def findOk (X : BitVec 64) (n : Int) : Bool := (findN X n).isSome
theorem find_none {X : BitVec 64} {n : Int} (h : findN X n = none) : findI X n = 0 ∧ findOk X n = false := by
  unfold findI findOk; rw [h]; exact ⟨rfl, rfl⟩
theorem find_some {X : BitVec 64} {n : Int} {a : Nat} (h : findN X n = some a) : findI X n = (a : Nat) ∧ findOk X n = true := by
  unfold findI findOk; rw [h]; exact ⟨rfl, rfl⟩
section
variable (X : BitVec 64) (n : Int)
theorem find_good (hn : 1 ≤ n) : ∀ (k : Nat) (L : BitVec 64) (q : Nat), 64 - q < k → Part X L q → (∀ i, i < q → fitsAt X n i = false) →
    Good EC.P (opA (intB (findI X n) (findOk X n))) 0 (opH (findC (uw X) n) (uw L)) (opM (findC (uw X) n)) := by
  have hi64 : ∀ t : Int, 0 ≤ t → t ≤ 128 → IntKind.i64.wrap t = t := fun t h1 h2 => Go.IntWalk.i64_in _ (by omega)
  intro k
  induction k with
  | zero => intro L q h; omega
  | succ k ih =>
    intro L q hk hP hI
    refine past_vc EC_ok 1000 (find_step (uw X) n (uw L) (findI X n) (findOk X n) (fun left => ∃ L' q', left = uw L' ∧ 64 - q' < k ∧ Part X L' q' ∧ (∀ i, i < q' → fitsAt X n i = false))) ?_ (fun _ _ h => h)
      (fun fs m hb => opN_good (fun left ⟨L', q', e, k1, k2, k3⟩ => by rw [e]; exact ih L' q' k1 k2 k3) hb)
    by_cases hL : L = 0#64
    · subst hL
      have h0 : findN X n = none := by
        refine seek_none fun i _ _ => ?_
        by_cases h : i < q
        · exact hI i h
        · cases h1 : fitsAt X n i with
          | false => rfl
          | true =>
            obtain ⟨_, _, h3⟩ := fitsAt_iff.1 h1
            have := h3 i (Nat.le_refl _) (by omega)
            rw [hP.done i (by omega)] at this
            cases this
      obtain ⟨e1, e2⟩ := find_none h0
      refine ⟨fun h => ?_, fun _ => ⟨e1, e2, trivial⟩⟩
      cases h
    · obtain ⟨hr, hP'⟩ := hP.next hL
      have ha := tz_lt hL
      rw [uw_ne_true L hL]
      simp only [tzI_uw, ari_n, tzn_def, ofInt_uw, ari_next hL, nz_run hL, Bool.not_false]
      have hle := hr.le
      have hpa := hr.pa
      have hn1 := hr.n1
      have e4 : IntKind.i64.wrap (64 - (tzn L : Nat)) = 64 - (tzn L : Nat) := hi64 _ (by omega) (by omega)
      rw [e4]
      have hgap : ∀ i, i < tz L → fitsAt X n i = false := by
        intro i h
        by_cases h1 : i < q
        · exact hI i h1
        · cases h2 : fitsAt X n i with
          | false => rfl
          | true =>
            obtain ⟨_, _, h3⟩ := fitsAt_iff.1 h2
            have := h3 i (Nat.le_refl _) (by omega)
            rw [hr.gap i (by omega) h] at this
            cases this
      refine ⟨fun _ => ⟨⟨trivial, trivial⟩, ⟨by omega, trivial⟩, ⟨trivial, trivial⟩, fun c => ?_, fun c => ⟨⟨by omega, by omega, trivial⟩, ⟨nextW L, tz L + tzn L, rfl, by omega, hP', fun i h => ?_⟩, ?_⟩⟩, fun h => ?_⟩
      · have c : n ≤ (tzn L : Nat) := by simpa using c
        obtain ⟨e1, e2⟩ := find_some (seek_of (Nat.zero_le _) (by omega) (fitsAt_iff.2 ⟨hn, by omega, fun i h1 h2 => hr.all i h1 (by omega)⟩) fun i _ h => hgap i h)
        exact ⟨e1, e2, trivial⟩
      · have c : (tzn L : Nat) < n := by simpa using c
        by_cases h1 : i < tz L
        · exact hgap i h1
        · cases h2 : fitsAt X n i with
          | false => rfl
          | true =>
            obtain ⟨_, h4, h3⟩ := fitsAt_iff.1 h2
            have := h3 (tz L + tzn L) (by omega) (by omega)
            rw [hr.hi] at this
            cases this
      · repeat' first | exact trivial | apply And.intro | exact rfl
      · cases h
end
end Go.Proofs.YtiblicobfmihdaaDoor
/- Of runs: the contracts of Give, Take, Find. No condition. -/
namespace Go.Proofs.YtiblicobfmihdaaDoor
set_option maxRecDepth 100000
section
variable (X : BitVec 64) (p n : Int) (m : SMem)
theorem give_con : Con E0 29 [setIs (uw X), i64 (.o p), i64 (.o n)] m (needs [] (.ret (setB (uw (giveW X p n)) (giveOk X p n)) m)) := by
  refine Con.pure E0_ok (by kernel_rfl : E0.fn 29 = some Tryd.f29) (by kernel_rfl : Tryd.f29.body = some (Tryd.f29.body.getD .skip)) (by kernel_rfl) (by kernel_rfl) fun _ => ?_
  refine (Good.ret (m := ⟨0, .nil, []⟩) (s0m := ⟨0, .nil, []⟩) (s0 := setB (uw (giveW X p n)) (giveOk X p n)) [] ?_).mono fun _ _ h => h.1
  show Good EC.P _ 0 (giveC (uw X) p n) _
  by_cases hm : mayB p n = true
  · have hq : ∀ left, left = uw X → Good EC.P (opA (setB (uw (giveW X p n)) (giveOk X p n))) 0 (opH (giveC (uw X) p n) left) (opM (giveC (uw X) p n)) := by
      rintro _ rfl
      exact give_good X p n hm 65 X 0 (by omega) (Part.start X) fun i _ _ h => by omega
    refine run_vc EC_ok 1000 (give_start (uw X) p n (uw (giveW X p n)) (giveOk X p n) (fun left => left = uw X)) ?_ (fun _ _ h => h) (fun fs m hb => opN0_good hq hb)
    rw [hm]
    refine ⟨fun h => (by cases h), fun _ => ⟨rfl, ?_⟩⟩
    repeat' first | exact trivial | apply And.intro | exact rfl
  · have hm : mayB p n = false := by simpa using hm
    have h0 : giveOk X p n = false := by unfold giveOk; rw [hm]; rfl
    refine run_vc EC_ok 1000 (give_start (uw X) p n (uw (giveW X p n)) (giveOk X p n) (fun _ => False)) ?_ (fun _ _ h => h) (fun fs m hb => opN0_good (fun _ h => h.elim) hb)
    rw [hm]
    exact ⟨fun _ => ⟨by rw [give_no X p n h0], h0, trivial⟩, fun h => by cases h⟩
theorem take_con : Con E0 22 [setIs (uw X), i64 (.o p), i64 (.o n)] m (needs [] (.ret (setB (uw (takeW X p n)) (takeOk X p n)) m)) := by
  refine Con.pure E0_ok (by kernel_rfl : E0.fn 22 = some Tryd.f22) (by kernel_rfl : Tryd.f22.body = some (Tryd.f22.body.getD .skip)) (by kernel_rfl) (by kernel_rfl) fun _ => ?_
  refine (Good.ret (m := ⟨0, .nil, []⟩) (s0m := ⟨0, .nil, []⟩) (s0 := setB (uw (takeW X p n)) (takeOk X p n)) [] ?_).mono fun _ _ h => h.1
  show Good EC.P _ 0 (takeC (uw X) p n) _
  by_cases hm : mayB p n = true
  · have hq : ∀ left, left = uw X → Good EC.P (opA (setB (uw (takeW X p n)) (takeOk X p n))) 0 (opH (takeC (uw X) p n) left) (opM (takeC (uw X) p n)) := by
      rintro _ rfl
      exact take_good X p n hm 65 X 0 (by omega) (Part.start X) (.inl (Nat.zero_le _))
    refine run_vc EC_ok 1000 (take_start (uw X) p n (uw (takeW X p n)) (takeOk X p n) (fun left => left = uw X)) ?_ (fun _ _ h => h) (fun fs m hb => opN0_good hq hb)
    rw [hm]
    refine ⟨fun h => (by cases h), fun _ => ⟨rfl, ?_⟩⟩
    repeat' first | exact trivial | apply And.intro | exact rfl
  · have hm : mayB p n = false := by simpa using hm
    have h0 : takeOk X p n = false := by unfold takeOk; rw [hm]; rfl
    refine run_vc EC_ok 1000 (take_start (uw X) p n (uw (takeW X p n)) (takeOk X p n) (fun _ => False)) ?_ (fun _ _ h => h) (fun fs m hb => opN0_good (fun _ h => h.elim) hb)
    rw [hm]
    exact ⟨fun _ => ⟨by rw [take_no X p n h0], h0, trivial⟩, fun h => by cases h⟩
theorem find_con : Con E0 21 [setIs (uw X), i64 (.o n)] m (needs [] (.ret (intB (findI X n) (findOk X n)) m)) := by
  refine Con.pure E0_ok (by kernel_rfl : E0.fn 21 = some Tryd.f21) (by kernel_rfl : Tryd.f21.body = some (Tryd.f21.body.getD .skip)) (by kernel_rfl) (by kernel_rfl) fun _ => ?_
  refine (Good.ret (m := ⟨0, .nil, []⟩) (s0m := ⟨0, .nil, []⟩) (s0 := intB (findI X n) (findOk X n)) [] ?_).mono fun _ _ h => h.1
  show Good EC.P _ 0 (findC (uw X) n) _
  by_cases hn : n < 1
  · have h0 : findN X n = none := seek_none fun i _ _ => by
      cases h : fitsAt X n i with
      | false => rfl
      | true => have := (fitsAt_iff.1 h).1; omega
    obtain ⟨e1, e2⟩ := find_none h0
    refine run_vc EC_ok 1000 (find_start (uw X) n (findI X n) (findOk X n) (fun _ => False)) ?_ (fun _ _ h => h) (fun fs m hb => opN0_good (fun _ h => h.elim) hb)
    rw [decide_eq_true hn]
    exact ⟨fun _ => ⟨e1, e2, trivial⟩, fun h => by cases h⟩
  · have hq : ∀ left, left = uw X → Good EC.P (opA (intB (findI X n) (findOk X n))) 0 (opH (findC (uw X) n) left) (opM (findC (uw X) n)) := by
      rintro _ rfl
      exact find_good X n (by omega) 65 X 0 (by omega) (Part.start X) fun i h => by omega
    refine run_vc EC_ok 1000 (find_start (uw X) n (findI X n) (findOk X n) (fun left => left = uw X)) ?_ (fun _ _ h => h) (fun fs m hb => opN0_good hq hb)
    rw [decide_eq_false hn]
    refine ⟨fun h => (by cases h), fun _ => ⟨rfl, ?_⟩⟩
    repeat' first | exact trivial | apply And.intro | exact rfl
end
end Go.Proofs.YtiblicobfmihdaaDoor
/- Of runs: the environment of its laws. No condition. -/
namespace Go.Proofs.YtiblicobfmihdaaDoor
noncomputable section
def wd (x : Int) : BitVec 64 := BitVec.ofInt 64 x
/-- The word behind a number is that number. -/
def isWd (x : Int) : Prop := uw (wd x) = x
theorem isWd_uw (X : BitVec 64) : isWd (uw X) := by unfold isWd wd; rw [ofInt_uw]
theorem wd_uw (X : BitVec 64) : wd (uw X) = X := by unfold wd; rw [ofInt_uw]
theorem Con.asked {E : Env} {g : FuncId} {l : List SV} {m : SMem} {q : List Prop} {t : Tree} (h : (∀ p ∈ q, p) → Con E g l m t) : Con E g l m (.need q t) := by
  intro A hs
  exact h hs.1 A hs.2
theorem Con.two {E : Env} {g : FuncId} {l : List SV} {m : SMem} {b : Bool} {t e : Tree} (ht : b = true → Con E g l m t) (he : b = false → Con E g l m e) : Con E g l m (.br b t e) := by
  intro A hs
  cases hb : b with
  | true => exact ht hb A (hs.1 hb)
  | false => exact he hb A (hs.2 hb)
theorem Con.plain {E : Env} {g : FuncId} {l : List SV} {m : SMem} {t : Tree} (h : Con E g l m (needs [] t)) : Con E g l m t := h
theorem Con.args {E : Env} {g : FuncId} {l l' : List SV} {m : SMem} {t : Tree} (h : ∀ R vs, All2 (SV.ok R) l vs → All2 (SV.ok R) l' vs) (hc : Con E g l' m t) : Con E g l m t := by
  intro A hs
  obtain ⟨fn, h1, h2, h3⟩ := hc A hs
  exact ⟨fn, h1, h2, fun n0 F w0 w R args hl hR => h3 n0 F w0 w R args (h R _ hl) hR⟩
theorem den_i {k : IntKind} {x : SI} {R : Ren} {v : Value} (h : (SV.s (.c (.f (.int k x)))).ok R v) : (SV.s (.c (.f (.int k (.o x.den))))).ok R v := h
theorem den_a {k : IntKind} {x : SI} {R : Ren} {v : Value} (h : (SV.s (.agg (.ls [.f (.int k x)]))).ok R v) : (SV.s (.agg (.ls [.f (.int k (.o x.den))]))).ok R v := by
  obtain ⟨cs, e, h⟩ := h
  refine ⟨cs, e, ?_⟩
  have h : All2 (SC.ok R) [.f (.int k x)] cs.toList := h
  show All2 (SC.ok R) [.f (.int k (.o x.den))] cs.toList
  revert h
  generalize cs.toList = l
  intro h
  match l, h with
  | [v], h => exact ⟨h.1, trivial⟩
theorem den1 {a a' : SV} (h : ∀ R v, a.ok R v → a'.ok R v) (R : Ren) (vs : List Value) (hv : All2 (SV.ok R) [a] vs) : All2 (SV.ok R) [a'] vs := by
  match vs, hv with
  | [v], hv => exact ⟨h R v hv.1, trivial⟩
theorem den2 {a a' b b' : SV} (h : ∀ R v, a.ok R v → a'.ok R v) (k : ∀ R v, b.ok R v → b'.ok R v) (R : Ren) (vs : List Value) (hv : All2 (SV.ok R) [a, b] vs) : All2 (SV.ok R) [a', b'] vs := by
  match vs, hv with
  | [v, w], hv => exact ⟨h R v hv.1, k R w hv.2.1, trivial⟩
theorem den3 {a a' b b' c c' : SV} (h : ∀ R v, a.ok R v → a'.ok R v) (k : ∀ R v, b.ok R v → b'.ok R v) (j : ∀ R v, c.ok R v → c'.ok R v) (R : Ren) (vs : List Value) (hv : All2 (SV.ok R) [a, b, c] vs) : All2 (SV.ok R) [a', b', c'] vs := by
  match vs, hv with
  | [v, w, u], hv => exact ⟨h R v hv.1, k R w hv.2.1, j R u hv.2.2.1, trivial⟩
end
end Go.Proofs.YtiblicobfmihdaaDoor
/- Of runs: the document's functions: their loops' states. No condition. -/
namespace Go.Proofs.YtiblicobfmihdaaDoor
noncomputable section
def ER1 : Env := ⟨Tryd.prog, fnOf, fun _ _ _ => none, fun d f x => Nat.beq d 0 && (Nat.beq f 20 || Nat.beq f 38 || Nat.beq f 24) && isLoop x⟩
theorem ER1_ok : EnvOk ER1 := EnvOk.with E0_ok _ _ fun _ _ _ _ h => by cases h
section
variable (E : Env) (c : List SFr)
def stR : Tree := run E 1000 0 c ⟨0, .nil, []⟩
def stF (sl : List (Nat × SV)) : List SFr := setSl sl ((stR E c).fsE.map SFr.bare)
def stH (sl : List (Nat × SV)) : List SFr := headF (stF E c sl)
def stM (bl : List (Nat × SA)) : SMem := putAll bl (stR E c).memE.bare
def stS (sl : List (Nat × SV)) (bl : List (Nat × SA)) : Tree := stepT E.go (run E 1000) 0 (stH E c sl) (stM E c bl)
def nxF (sl : List (Nat × SV)) (bl : List (Nat × SA)) (fs : List SFr) (m : SMem) : Prop := subOk 0 (idπ (stM E c bl).next) (stF E c sl) (stM E c bl) fs m
def nxH (sl : List (Nat × SV)) (bl : List (Nat × SA)) (fs : List SFr) (m : SMem) : Prop := subOk 0 (idπ (stM E c bl).next) (stH E c sl) (stM E c bl) fs m
end
def boolV (b : Bool) : SV := .s (.c (.f (.bool (.o b))))
def ofC (p : Int) : List SFr := [callFr 20 Tryd.f20.ntmps [i64 (.o p)] (Tryd.f20.body.getD .skip)]
def isC (cs : Array Value) (a n : Int) (b : Bool) : List SFr := [callFr 38 Tryd.f38.ntmps [agg cs, i64 (.o a), i64 (.o n), boolV b] (Tryd.f38.body.getD .skip)]
def withC (cs : Array Value) (a n : Int) (b : Bool) : List SFr := [callFr 24 Tryd.f24.ntmps [agg cs, i64 (.o a), i64 (.o n), boolV b] (Tryd.f24.body.getD .skip)]
def n7 (h : Bool) (p : Int) (Q : Int → Array Value → Prop) (fs : List SFr) (m : SMem) : Prop := match fs with
  | [f] => match rdI f 4, rdA m 1 with
    | some i, some cs => Q i cs ∧ (cond h nxH nxF) ER1 (ofC p) [(4, i64 (.o i))] [(1, .op cs)] fs m
    | _, _ => False
  | _ => False
def n8 (h : Bool) (cs : Array Value) (a n : Int) (b : Bool) (Q : Int → Prop) (fs : List SFr) (m : SMem) : Prop := match fs with
  | [f] => match rdI f 9 with
    | some i => Q i ∧ (cond h nxH nxF) ER1 (isC cs a n b) [(9, i64 (.o i))] [] fs m
    | _ => False
  | _ => False
def n11 (h : Bool) (c0 : Array Value) (a n : Int) (b : Bool) (Q : Int → Array Value → Prop) (fs : List SFr) (m : SMem) : Prop := match fs with
  | [f] => match rdI f 9, rdA m 0 with
    | some i, some cs => Q i cs ∧ (cond h nxH nxF) ER1 (withC c0 a n b) [(9, i64 (.o i))] [(0, .op cs)] fs m
    | _, _ => False
  | _ => False
def aggA (cs : Array Value) : SV → SMem → Prop := retOk 0 [] (agg cs) ⟨0, .nil, []⟩
def boolA (b : Bool) : SV → SMem → Prop := retOk 0 [] (sB (.o b)) ⟨0, .nil, []⟩
def T7 : List SIt := headTd (stF ER1 (ofC 0) [])
def H7 : List SIt := headTd (stH ER1 (ofC 0) [])
def T8 : List SIt := headTd (stF ER1 (isC #[] 0 0 true) [])
def H8 : List SIt := headTd (stH ER1 (isC #[] 0 0 true) [])
def T11 : List SIt := headTd (stF ER1 (withC #[] 0 0 true) [])
def H11 : List SIt := headTd (stH ER1 (withC #[] 0 0 true) [])
end
end Go.Proofs.YtiblicobfmihdaaDoor
/- Of runs: the document's functions' rounds, as propositions. No condition. -/
namespace Go.Proofs.YtiblicobfmihdaaDoor
set_option maxRecDepth 100000
theorem of7_start (p : Int) (Q : Int → Array Value → Prop) : (stR ER1 (ofC p)).vc (fun _ _ => False) (n7 false p Q) =
    (Q (0 : Int) #[Value.bool false, Value.bool false, Value.bool false, Value.bool false, Value.bool false, Value.bool false, Value.bool false, Value.bool false, Value.bool false, Value.bool false, Value.bool false, Value.bool false, Value.bool false, Value.bool false, Value.bool false, Value.bool false, Value.bool false, Value.bool false, Value.bool false, Value.bool false, Value.bool false, Value.bool false, Value.bool false, Value.bool false, Value.bool false, Value.bool false, Value.bool false, Value.bool false, Value.bool false, Value.bool false, Value.bool false, Value.bool false, Value.bool false, Value.bool false, Value.bool false, Value.bool false, Value.bool false, Value.bool false, Value.bool false, Value.bool false, Value.bool false, Value.bool false, Value.bool false, Value.bool false, Value.bool false, Value.bool false, Value.bool false, Value.bool false, Value.bool false, Value.bool false, Value.bool false, Value.bool false, Value.bool false, Value.bool false, Value.bool false, Value.bool false, Value.bool false, Value.bool false, Value.bool false, Value.bool false, Value.bool false, Value.bool false, Value.bool false, Value.bool false] ∧ CallKind.normal = CallKind.normal ∧ TodoOk (ren 0 [(0, 0), (1, 1)]) T7 T7 ∧ p = p ∧ (0 : Int) = (0 : Int) ∧ (38 : Nat) = (38 : Nat) ∧ (38 : Nat) = (38 : Nat) ∧ #[Value.bool false, Value.bool false, Value.bool false, Value.bool false, Value.bool false, Value.bool false, Value.bool false, Value.bool false, Value.bool false, Value.bool false, Value.bool false, Value.bool false, Value.bool false, Value.bool false, Value.bool false, Value.bool false, Value.bool false, Value.bool false, Value.bool false, Value.bool false, Value.bool false, Value.bool false, Value.bool false, Value.bool false, Value.bool false, Value.bool false, Value.bool false, Value.bool false, Value.bool false, Value.bool false, Value.bool false, Value.bool false, Value.bool false, Value.bool false, Value.bool false, Value.bool false, Value.bool false, Value.bool false, Value.bool false, Value.bool false, Value.bool false, Value.bool false, Value.bool false, Value.bool false, Value.bool false, Value.bool false, Value.bool false, Value.bool false, Value.bool false, Value.bool false, Value.bool false, Value.bool false, Value.bool false, Value.bool false, Value.bool false, Value.bool false, Value.bool false, Value.bool false, Value.bool false, Value.bool false, Value.bool false, Value.bool false, Value.bool false, Value.bool false] = #[Value.bool false, Value.bool false, Value.bool false, Value.bool false, Value.bool false, Value.bool false, Value.bool false, Value.bool false, Value.bool false, Value.bool false, Value.bool false, Value.bool false, Value.bool false, Value.bool false, Value.bool false, Value.bool false, Value.bool false, Value.bool false, Value.bool false, Value.bool false, Value.bool false, Value.bool false, Value.bool false, Value.bool false, Value.bool false, Value.bool false, Value.bool false, Value.bool false, Value.bool false, Value.bool false, Value.bool false, Value.bool false, Value.bool false, Value.bool false, Value.bool false, Value.bool false, Value.bool false, Value.bool false, Value.bool false, Value.bool false, Value.bool false, Value.bool false, Value.bool false, Value.bool false, Value.bool false, Value.bool false, Value.bool false, Value.bool false, Value.bool false, Value.bool false, Value.bool false, Value.bool false, Value.bool false, Value.bool false, Value.bool false, Value.bool false, Value.bool false, Value.bool false, Value.bool false, Value.bool false, Value.bool false, Value.bool false, Value.bool false, Value.bool false] ∧ True) := by kernel_rfl
theorem of7_step (p i : Int) (cs cf : Array Value) (Q : Int → Array Value → Prop) : (stS ER1 (ofC p) [(4, i64 (.o i))] [(1, .op cs)]).vc (aggA cf) (n7 true p Q) =
    ((decide (i < (64 : Int)) = true → (((0 : Int) ≤ i ∧ i < (64 : Int)) ∧ True) ∧ ((0 : Nat) + Int.toNat i * 1 < Array.size cs ∧ True) ∧ Q (ari BinOp.add IntKind.i64 i (1 : Int)) (Array.setIfInBounds cs ((0 : Nat) + Int.toNat i * 1) (Value.bool (decide (i < p)))) ∧ CallKind.normal = CallKind.normal ∧ TodoOk (ren 0 [(0, 0), (1, 1)]) H7 H7 ∧ p = p ∧ ari BinOp.add IntKind.i64 i (1 : Int) = ari BinOp.add IntKind.i64 i (1 : Int) ∧ (38 : Nat) = (38 : Nat) ∧ (38 : Nat) = (38 : Nat) ∧ Array.setIfInBounds cs ((0 : Nat) + Int.toNat i * 1) (Value.bool (decide (i < p))) = Array.setIfInBounds cs ((0 : Nat) + Int.toNat i * 1) (Value.bool (decide (i < p))) ∧ True) ∧ (decide (i < (64 : Int)) = false → (Array.size cs = (64 : Nat) ∧ True) ∧ (Array.size cs = (64 : Nat) ∧ Array.size cs = (64 : Nat) ∧ True) ∧ (Array.size cs = (64 : Nat) ∧ True) ∧ cf = cs ∧ True)) := by kernel_rfl
theorem is_start (cs : Array Value) (a n : Int) (b r : Bool) (Q : Int → Prop) : (stR ER1 (isC cs a n b)).vc (boolA r) (n8 false cs a n b Q) =
    (((decide (n < (1 : Int)) == false) = true → ((decide (n > (64 : Int)) == false) = true → ((decide (a < (0 : Int)) == false) = true → ((decide (a > (63 : Int)) == false) = true → (decide (ari BinOp.add IntKind.i64 a n > (64 : Int)) = true → r = false ∧ True) ∧ (decide (ari BinOp.add IntKind.i64 a n > (64 : Int)) = false → Q (0 : Int) ∧ CallKind.normal = CallKind.normal ∧ TodoOk (ren 0 [(0, 0)]) T8 T8 ∧ cs = cs ∧ a = a ∧ b = b ∧ decide (n > (64 : Int)) = decide (n > (64 : Int)) ∧ decide (a > (63 : Int)) = decide (a > (63 : Int)) ∧ decide (n < (1 : Int)) = decide (n < (1 : Int)) ∧ decide (a < (0 : Int)) = decide (a < (0 : Int)) ∧ ari BinOp.add IntKind.i64 a n = ari BinOp.add IntKind.i64 a n ∧ (0 : Int) = (0 : Int) ∧ a = a ∧ a = a ∧ n = n ∧ a = a ∧ n = n ∧ decide (ari BinOp.add IntKind.i64 a n > (64 : Int)) = decide (ari BinOp.add IntKind.i64 a n > (64 : Int)) ∧ n = n ∧ decide (a < (0 : Int)) = decide (a < (0 : Int)) ∧ n = n ∧ decide (n > (64 : Int)) = decide (n > (64 : Int)) ∧ decide (a > (63 : Int)) = decide (a > (63 : Int)) ∧ (38 : Nat) = (38 : Nat) ∧ cs = cs ∧ True)) ∧ ((decide (a > (63 : Int)) == false) = false → r = false ∧ True)) ∧ ((decide (a < (0 : Int)) == false) = false → r = false ∧ True)) ∧ ((decide (n > (64 : Int)) == false) = false → r = false ∧ True)) ∧ ((decide (n < (1 : Int)) == false) = false → r = false ∧ True)) := by kernel_rfl
theorem is_step (cs : Array Value) (a n i : Int) (b r : Bool) (Q : Int → Prop) : (stS ER1 (isC cs a n b) [(9, i64 (.o i))] []).vc (boolA r) (n8 true cs a n b Q) =
    ((decide (i < n) = true → (((0 : Int) ≤ ari BinOp.add IntKind.i64 a i ∧ ari BinOp.add IntKind.i64 a i < (64 : Int)) ∧ True) ∧ (IsBool cs ((0 : Nat) + Int.toNat (ari BinOp.add IntKind.i64 a i) * 1) ∧ True) ∧ ((!boolAt cs ((0 : Nat) + Int.toNat (ari BinOp.add IntKind.i64 a i) * 1) == b) = true → r = false ∧ True) ∧ ((!boolAt cs ((0 : Nat) + Int.toNat (ari BinOp.add IntKind.i64 a i) * 1) == b) = false → Q (ari BinOp.add IntKind.i64 i (1 : Int)) ∧ CallKind.normal = CallKind.normal ∧ TodoOk (ren 0 [(0, 0)]) H8 H8 ∧ cs = cs ∧ a = a ∧ b = b ∧ decide (n > (64 : Int)) = decide (n > (64 : Int)) ∧ decide (a > (63 : Int)) = decide (a > (63 : Int)) ∧ decide (n < (1 : Int)) = decide (n < (1 : Int)) ∧ decide (a < (0 : Int)) = decide (a < (0 : Int)) ∧ ari BinOp.add IntKind.i64 a n = ari BinOp.add IntKind.i64 a n ∧ ari BinOp.add IntKind.i64 i (1 : Int) = ari BinOp.add IntKind.i64 i (1 : Int) ∧ a = a ∧ a = a ∧ n = n ∧ a = a ∧ n = n ∧ decide (ari BinOp.add IntKind.i64 a n > (64 : Int)) = decide (ari BinOp.add IntKind.i64 a n > (64 : Int)) ∧ n = n ∧ decide (a < (0 : Int)) = decide (a < (0 : Int)) ∧ n = n ∧ decide (n > (64 : Int)) = decide (n > (64 : Int)) ∧ decide (a > (63 : Int)) = decide (a > (63 : Int)) ∧ (38 : Nat) = (38 : Nat) ∧ cs = cs ∧ True)) ∧ (decide (i < n) = false → r = true ∧ True)) := by kernel_rfl
theorem with_start (cs : Array Value) (a n : Int) (b : Bool) (Q : Int → Array Value → Prop) : (stR ER1 (withC cs a n b)).vc (fun _ _ => False) (n11 false cs a n b Q) =
    (Q (0 : Int) cs ∧ CallKind.normal = CallKind.normal ∧ TodoOk (ren 0 [(0, 0), (1, 1)]) T11 T11 ∧ cs = cs ∧ a = a ∧ b = b ∧ (0 : Int) = (0 : Int) ∧ n = n ∧ (38 : Nat) = (38 : Nat) ∧ cs = cs ∧ (38 : Nat) = (38 : Nat) ∧ True) := by kernel_rfl
theorem with_step (c0 cs cf : Array Value) (a n i : Int) (b : Bool) (Q : Int → Array Value → Prop) : (stS ER1 (withC c0 a n b) [(9, i64 (.o i))] [(0, .op cs)]).vc (aggA cf) (n11 true c0 a n b Q) =
    ((decide (i < n) = true → (((0 : Int) ≤ ari BinOp.add IntKind.i64 a i ∧ ari BinOp.add IntKind.i64 a i < (64 : Int)) ∧ True) ∧ ((0 : Nat) + Int.toNat (ari BinOp.add IntKind.i64 a i) * 1 < Array.size cs ∧ True) ∧ Q (ari BinOp.add IntKind.i64 i (1 : Int)) (Array.setIfInBounds cs ((0 : Nat) + Int.toNat (ari BinOp.add IntKind.i64 a i) * 1) (Value.bool b)) ∧ CallKind.normal = CallKind.normal ∧ TodoOk (ren 0 [(0, 0), (1, 1)]) H11 H11 ∧ c0 = c0 ∧ a = a ∧ b = b ∧ ari BinOp.add IntKind.i64 i (1 : Int) = ari BinOp.add IntKind.i64 i (1 : Int) ∧ n = n ∧ (38 : Nat) = (38 : Nat) ∧ Array.setIfInBounds cs ((0 : Nat) + Int.toNat (ari BinOp.add IntKind.i64 a i) * 1) (Value.bool b) = Array.setIfInBounds cs ((0 : Nat) + Int.toNat (ari BinOp.add IntKind.i64 a i) * 1) (Value.bool b) ∧ (38 : Nat) = (38 : Nat) ∧ True) ∧ (decide (i < n) = false → (Array.size cs = (64 : Nat) ∧ True) ∧ (Array.size cs = (64 : Nat) ∧ Array.size cs = (64 : Nat) ∧ True) ∧ (Array.size cs = (64 : Nat) ∧ True) ∧ cf = cs ∧ True)) := by kernel_rfl
end Go.Proofs.YtiblicobfmihdaaDoor
/- Of runs: the document's functions: what they answer. No condition. -/
namespace Go.Proofs.YtiblicobfmihdaaDoor
set_option maxRecDepth 100000
theorem take_bit {X : BitVec 64} {a n : Nat} (h : a + n ≤ 64) (i : Nat) (hi : i < 64) : (X &&& ~~~ spanW a n).getLsbD i = (X.getLsbD i && !decide (a ≤ i ∧ i < a + n)) := by
  rw [BitVec.getLsbD_and, BitVec.getLsbD_not, spanW_bit _ _ _ h, decide_eq_true hi, Bool.true_and]
theorem give_bit {X : BitVec 64} {a n : Nat} (h : a + n ≤ 64) (i : Nat) : (X ||| spanW a n).getLsbD i = (X.getLsbD i || decide (a ≤ i ∧ i < a + n)) := by
  rw [BitVec.getLsbD_or, spanW_bit _ _ _ h]
theorem wrap_in {t : Int} (h1 : 0 ≤ t) (h2 : t ≤ 1000000) : IntKind.i64.wrap t = t := Go.IntWalk.i64_in _ (by omega)
/-- A row of truths. -/
def arrF (f : Nat → Bool) : Array Value := ((List.range 64).map fun i => Value.bool (f i)).toArray
theorem arrF_size (f : Nat → Bool) : (arrF f).size = 64 := by
  unfold arrF
  rw [List.size_toArray, List.length_map, List.length_range]
theorem arrF_get (f : Nat → Bool) {i : Nat} (h : i < 64) : (arrF f)[i]? = some (.bool (f i)) := by
  unfold arrF
  rw [List.getElem?_toArray, List.getElem?_map, List.getElem?_range h]
  rfl
theorem arrF_ext {cs : Array Value} {f : Nat → Bool} (h1 : cs.size = 64) (h2 : ∀ i, i < 64 → cs[i]? = some (.bool (f i))) : cs = arrF f := by
  apply Array.ext_getElem?
  intro i
  by_cases h : i < 64
  · rw [h2 i h, arrF_get f h]
  · rw [Array.getElem?_eq_none (by omega), Array.getElem?_eq_none (by rw [arrF_size]; omega)]
theorem arrF_congr {f g : Nat → Bool} (h : ∀ i, i < 64 → f i = g i) : arrF f = arrF g :=
  arrF_ext (arrF_size f) fun i hi => by rw [arrF_get f hi, h i hi]
theorem arrF_bool (f : Nat → Bool) {i : Nat} (h : i < 64) : IsBool (arrF f) i ∧ boolAt (arrF f) i = f i := by
  have := arrF_get f h
  unfold IsBool boolAt
  rw [this]
  exact ⟨rfl, rfl⟩
theorem arrF_set (f : Nat → Bool) {k : Nat} (hk : k < 64) (v : Bool) : (arrF f).setIfInBounds k (.bool v) = arrF fun i => if i = k then v else f i := by
  refine arrF_ext (by rw [Array.size_setIfInBounds, arrF_size]) fun i hi => ?_
  rw [Array.getElem?_setIfInBounds]
  by_cases e : i = k
  · subst e
    rw [if_pos rfl, if_pos (by rw [arrF_size]; exact hi), if_pos rfl]
  · rw [if_neg (fun h => e h.symm), if_neg e, arrF_get f hi]
/-- A set's row. -/
def arrW (X : BitVec 64) : Array Value := arrF fun i => X.getLsbD i
theorem zero_row : #[Value.bool false, Value.bool false, Value.bool false, Value.bool false, Value.bool false, Value.bool false, Value.bool false, Value.bool false, Value.bool false, Value.bool false, Value.bool false, Value.bool false, Value.bool false, Value.bool false, Value.bool false, Value.bool false, Value.bool false, Value.bool false, Value.bool false, Value.bool false, Value.bool false, Value.bool false, Value.bool false, Value.bool false, Value.bool false, Value.bool false, Value.bool false, Value.bool false, Value.bool false, Value.bool false, Value.bool false, Value.bool false, Value.bool false, Value.bool false, Value.bool false, Value.bool false, Value.bool false, Value.bool false, Value.bool false, Value.bool false, Value.bool false, Value.bool false, Value.bool false, Value.bool false, Value.bool false, Value.bool false, Value.bool false, Value.bool false, Value.bool false, Value.bool false, Value.bool false, Value.bool false, Value.bool false, Value.bool false, Value.bool false, Value.bool false, Value.bool false, Value.bool false, Value.bool false, Value.bool false, Value.bool false, Value.bool false, Value.bool false, Value.bool false] = arrF fun _ => false := rfl
section
variable {A : SV → SMem → Prop}
theorem nxc_good {h : Bool} {E : Env} {c : List SFr} {sl : List (Nat × SV)} {bl : List (Nat × SA)} {fs : List SFr} {m : SMem} (hb : (cond h nxH nxF) E c sl bl fs m) (hg : Good E.P A 0 (stH E c sl) (stM E c bl)) : Good E.P A 0 fs m := by
  cases h with
  | true => exact Good.of_sub hb hg
  | false => exact Good.of_sub hb (Good.head hg)
theorem n7_good {h : Bool} {p : Int} {Q : Int → Array Value → Prop} {fs : List SFr} {m : SMem} (hb : n7 h p Q fs m) (hg : ∀ i cs, Q i cs → Good ER1.P A 0 (stH ER1 (ofC p) [(4, i64 (.o i))]) (stM ER1 (ofC p) [(1, .op cs)])) : Good ER1.P A 0 fs m := by
  unfold n7 at hb
  split at hb
  case h_2 => exact hb.elim
  split at hb
  case h_2 => exact hb.elim
  exact nxc_good hb.2 (hg _ _ hb.1)
theorem n8_good {h : Bool} {cs : Array Value} {a n : Int} {b : Bool} {Q : Int → Prop} {fs : List SFr} {m : SMem} (hb : n8 h cs a n b Q fs m) (hg : ∀ i, Q i → Good ER1.P A 0 (stH ER1 (isC cs a n b) [(9, i64 (.o i))]) (stM ER1 (isC cs a n b) [])) : Good ER1.P A 0 fs m := by
  unfold n8 at hb
  split at hb
  case h_2 => exact hb.elim
  split at hb
  case h_2 => exact hb.elim
  exact nxc_good hb.2 (hg _ hb.1)
theorem n11_good {h : Bool} {c0 : Array Value} {a n : Int} {b : Bool} {Q : Int → Array Value → Prop} {fs : List SFr} {m : SMem} (hb : n11 h c0 a n b Q fs m) (hg : ∀ i cs, Q i cs → Good ER1.P A 0 (stH ER1 (withC c0 a n b) [(9, i64 (.o i))]) (stM ER1 (withC c0 a n b) [(0, .op cs)])) : Good ER1.P A 0 fs m := by
  unfold n11 at hb
  split at hb
  case h_2 => exact hb.elim
  split at hb
  case h_2 => exact hb.elim
  exact nxc_good hb.2 (hg _ _ hb.1)
theorem nx2_good {h : Bool} {E : Env} {c : List SFr} {sl : List (Nat × SV)} {π : List (Nat × Nat)} {m0 : SMem} {fs : List SFr} {m : SMem} (hb : subOk 0 π ((cond h stH stF) E c sl) m0 fs m) (hg : Good E.P A 0 (stH E c sl) m0) : Good E.P A 0 fs m := by
  cases h with
  | true => exact Good.of_sub hb hg
  | false => exact Good.of_sub hb (Good.head hg)
end
/-! The first pages. -/
def ofF (p : Int) (k : Nat) : Array Value := arrF fun j => decide (j < k ∧ (j : Int) < p)
theorem of7_good (p : Int) : ∀ (j k : Nat), 64 - k < j → k ≤ 64 → Good ER1.P (aggA (ofF p 64)) 0 (stH ER1 (ofC p) [(4, i64 (.o (k : Int)))]) (stM ER1 (ofC p) [(1, .op (ofF p k))]) := by
  intro j
  induction j with
  | zero => intro k h; omega
  | succ j ih =>
    intro k hj hk
    refine past_vc ER1_ok 1000 (of7_step p k (ofF p k) (ofF p 64) (fun i cs => i = ((k + 1 : Nat) : Int) ∧ cs = ofF p (k + 1) ∧ k < 64)) ?_ (fun _ _ h => h) (fun fs m hb => n7_good hb fun i cs ⟨e1, e2, e3⟩ => by
      rw [e1, e2]; exact ih (k + 1) (by omega) (by omega))
    have hs : (ofF p k).size = 64 := arrF_size _
    refine ⟨fun h => ?_, fun h => ?_⟩
    · have hlt : k < 64 := by
        have : ((k : Nat) : Int) < 64 := by simpa using h
        omega
      have e1 : IntKind.i64.wrap ((k : Int) + 1) = ((k + 1 : Nat) : Int) := wrap_in (by omega) (by omega)
      have e2 : 0 + Int.toNat (k : Int) * 1 = k := by simp
      rw [ari_add, e1, e2]
      refine ⟨⟨⟨by omega, by omega⟩, trivial⟩, ⟨by rw [hs]; exact hlt, trivial⟩, ⟨rfl, ?_, hlt⟩, ?_⟩
      · unfold ofF
        rw [arrF_set _ hlt]
        refine arrF_congr fun i _ => ?_
        by_cases e : i = k
        · subst e
          rw [if_pos rfl]
          simp
        · rw [if_neg e]
          have : (i < k + 1 ∧ (i : Int) < p) ↔ (i < k ∧ (i : Int) < p) := by omega
          rw [decide_eq_decide.2 this]
      · repeat' first | exact trivial | apply And.intro | exact rfl
    · have : ¬ ((k : Nat) : Int) < 64 := by simpa using h
      have : k = 64 := by omega
      subst this
      simp only [hs]
      repeat' first | exact trivial | apply And.intro | exact rfl
theorem ofF_row (p : Int) : ofF p 64 = arrW (lowW (clampN p)) := by
  unfold ofF arrW
  have hc : clampN p ≤ 64 := by unfold clampN; split <;> first | omega | (split <;> omega)
  refine arrF_congr fun i hi => ?_
  rw [lowW_bit _ _ hc, decide_eq_decide]
  unfold clampN
  split <;> first | omega | (split <;> omega)
theorem of7_con (p : Int) (m : SMem) : Con E0 20 [i64 (.o p)] m (needs [] (.ret (agg (arrW (lowW (clampN p)))) m)) := by
  refine Con.pure E0_ok (by kernel_rfl : E0.fn 20 = some Tryd.f20) (by kernel_rfl : Tryd.f20.body = some (Tryd.f20.body.getD .skip)) (by kernel_rfl) (by kernel_rfl) fun _ => ?_
  rw [← ofF_row]
  refine (Good.ret (m := ⟨0, .nil, []⟩) (s0m := ⟨0, .nil, []⟩) (s0 := agg (ofF p 64)) [] ?_).mono fun _ _ h => h.1
  show Good ER1.P _ 0 (ofC p) _
  refine run_vc ER1_ok 1000 (of7_start p (fun i cs => i = ((0 : Nat) : Int) ∧ cs = ofF p 0)) ?_ (fun _ _ h => h.elim) (fun fs m hb => n7_good hb fun i cs ⟨e1, e2⟩ => by rw [e1, e2]; exact of7_good p 65 0 (by omega) (by omega))
  refine ⟨⟨rfl, ?_⟩, ?_⟩
  · rw [zero_row]
    exact arrF_congr fun i _ => by simp
  · repeat' first | exact trivial | apply And.intro | exact rfl
/-! Is a run so? -/
section
variable (X : BitVec 64) (a n : Int) (b : Bool)
def isR : Bool := mayB a n && allIn X a.toNat n.toNat b
theorem is_good (hm : mayB a n = true) : ∀ (j k : Nat), n.toNat - k < j → k ≤ n.toNat → (∀ i, a.toNat ≤ i → i < a.toNat + k → X.getLsbD i = b) → Good ER1.P (boolA (isR X a n b)) 0 (stH ER1 (isC (arrW X) a n b) [(9, i64 (.o (k : Int)))]) (stM ER1 (isC (arrW X) a n b) []) := by
  have hm' := mayB_iff.1 hm
  intro j
  induction j with
  | zero => intro k h; omega
  | succ j ih =>
    intro k hj hk hI
    refine past_vc ER1_ok 1000 (is_step (arrW X) a n k b (isR X a n b) (fun i => i = ((k + 1 : Nat) : Int) ∧ k < n.toNat ∧ X.getLsbD (a.toNat + k) = b)) ?_ (fun _ _ h => h) (fun fs m hb => n8_good hb fun i ⟨e1, e2, e3⟩ => by
      rw [e1]; exact ih (k + 1) (by omega) (by omega) fun i h1 h2 => by
        by_cases e : i = a.toNat + k
        · rw [e]; exact e3
        · exact hI i h1 (by omega))
    have e1 : IntKind.i64.wrap ((k : Int) + 1) = ((k + 1 : Nat) : Int) := wrap_in (by omega) (by omega)
    refine ⟨fun h => ?_, fun h => ?_⟩
    · have hlt : (k : Int) < n := by simpa using h
      have e2 : IntKind.i64.wrap (a + (k : Int)) = ((a.toNat + k : Nat) : Int) := by rw [wrap_in (by omega) (by omega)]; omega
      have e3 : 0 + Int.toNat ((a.toNat + k : Nat) : Int) * 1 = a.toNat + k := by rw [Int.toNat_natCast]; omega
      have hlt2 : a.toNat + k < 64 := by omega
      obtain ⟨b1, b2⟩ := arrF_bool (fun i => X.getLsbD i) hlt2
      simp only [ari_add, e1, e2, e3]
      refine ⟨⟨⟨by omega, by omega⟩, trivial⟩, ⟨b1, trivial⟩, fun h => ?_, fun h => ⟨⟨by trivial, by omega, ?_⟩, ?_⟩⟩
      · have hne : X.getLsbD (a.toNat + k) ≠ b := by
          intro e
          rw [show boolAt (arrW X) (a.toNat + k) = X.getLsbD (a.toNat + k) from b2, e] at h
          simp at h
        refine ⟨?_, trivial⟩
        unfold isR
        rw [hm, Bool.true_and]
        cases hc : allIn X a.toNat n.toNat b with
        | false => rfl
        | true =>
          rw [allIn_iff (by omega)] at hc
          exact (hne (hc _ (by omega) (by omega))).elim
      · rw [show boolAt (arrW X) (a.toNat + k) = X.getLsbD (a.toNat + k) from b2] at h
        simpa using h
      · repeat' first | exact trivial | apply And.intro | exact rfl
    · have hge : ¬ (k : Int) < n := by simpa using h
      refine ⟨?_, trivial⟩
      unfold isR
      rw [hm, Bool.true_and, allIn_iff (by omega)]
      exact fun i h1 h2 => hI i h1 (by omega)
theorem is_con (m : SMem) : Con E0 38 [agg (arrW X), i64 (.o a), i64 (.o n), boolV b] m (needs [] (.ret (sB (.o (isR X a n b))) m)) := by
  refine Con.pure E0_ok (by kernel_rfl : E0.fn 38 = some Tryd.f38) (by kernel_rfl : Tryd.f38.body = some (Tryd.f38.body.getD .skip)) (by kernel_rfl) (by kernel_rfl) fun _ => ?_
  refine (Good.ret (m := ⟨0, .nil, []⟩) (s0m := ⟨0, .nil, []⟩) (s0 := sB (.o (isR X a n b))) [] ?_).mono fun _ _ h => h.1
  show Good ER1.P _ 0 (isC (arrW X) a n b) _
  refine run_vc ER1_ok 1000 (is_start (arrW X) a n b (isR X a n b) (fun i => i = ((0 : Nat) : Int) ∧ mayB a n = true)) ?_ (fun _ _ h => h) (fun fs m hb => n8_good hb fun i ⟨e1, e2⟩ => by rw [e1]; exact is_good X a n b e2 (n.toNat + 1) 0 (by omega) (by omega) fun i h1 h2 => by omega)
  have hno : ¬ (1 ≤ n ∧ 0 ≤ a ∧ a < 64 ∧ n ≤ 64 - a) → isR X a n b = false := by
    intro h
    unfold isR
    have : mayB a n = false := by
      cases hc : mayB a n with
      | false => rfl
      | true => exact (h (mayB_iff.1 hc)).elim
    rw [this]; rfl
  refine ⟨fun h1 => ⟨fun h2 => ⟨fun h3 => ⟨fun h4 => ?_, fun h4 => ?_⟩, fun h3 => ?_⟩, fun h2 => ?_⟩, fun h1 => ?_⟩
  · have h1 : ¬ n < 1 := by simpa using h1
    have h2 : ¬ n > 64 := by simpa using h2
    have h3 : ¬ a < 0 := by simpa using h3
    have h4 : ¬ a > 63 := by simpa using h4
    have e : IntKind.i64.wrap (a + n) = a + n := wrap_in (by omega) (by omega)
    rw [ari_add, e]
    refine ⟨fun h => ⟨hno ?_, trivial⟩, fun h => ⟨⟨rfl, mayB_iff.2 ?_⟩, ?_⟩⟩
    · have : a + n > 64 := by simpa using h
      omega
    · have : ¬ a + n > 64 := by simpa using h
      omega
    · repeat' first | exact trivial | apply And.intro | exact rfl
  · exact ⟨hno fun h => (by have hx : a > 63 := (by simpa using h4); omega), trivial⟩
  · exact ⟨hno fun h => (by have hx : a < 0 := (by simpa using h3); omega), trivial⟩
  · exact ⟨hno fun h => (by have hx : n > 64 := (by simpa using h2); omega), trivial⟩
  · exact ⟨hno fun h => (by have hx : n < 1 := (by simpa using h1); omega), trivial⟩
/-! A set with a run, or without it. -/
def withF (k : Nat) : Array Value := arrF fun j => if a.toNat ≤ j ∧ j < a.toNat + k then b else X.getLsbD j
def withW : BitVec 64 := if b = true then X ||| spanW a.toNat n.toNat else X &&& ~~~ spanW a.toNat n.toNat
theorem with_good (hm : mayB a n = true) : ∀ (j k : Nat), n.toNat - k < j → k ≤ n.toNat → Good ER1.P (aggA (withF X a b n.toNat)) 0 (stH ER1 (withC (arrW X) a n b) [(9, i64 (.o (k : Int)))]) (stM ER1 (withC (arrW X) a n b) [(0, .op (withF X a b k))]) := by
  have hm' := mayB_iff.1 hm
  intro j
  induction j with
  | zero => intro k h; omega
  | succ j ih =>
    intro k hj hk
    refine past_vc ER1_ok 1000 (with_step (arrW X) (withF X a b k) (withF X a b n.toNat) a n k b (fun i cs => i = ((k + 1 : Nat) : Int) ∧ cs = withF X a b (k + 1) ∧ k < n.toNat)) ?_ (fun _ _ h => h) (fun fs m hb => n11_good hb fun i cs ⟨e1, e2, e3⟩ => by
      rw [e1, e2]; exact ih (k + 1) (by omega) (by omega))
    have hs : (withF X a b k).size = 64 := arrF_size _
    have e1 : IntKind.i64.wrap ((k : Int) + 1) = ((k + 1 : Nat) : Int) := wrap_in (by omega) (by omega)
    refine ⟨fun h => ?_, fun h => ?_⟩
    · have hlt : (k : Int) < n := by simpa using h
      have e2 : IntKind.i64.wrap (a + (k : Int)) = ((a.toNat + k : Nat) : Int) := by rw [wrap_in (by omega) (by omega)]; omega
      have e3 : 0 + Int.toNat ((a.toNat + k : Nat) : Int) * 1 = a.toNat + k := by rw [Int.toNat_natCast]; omega
      have hlt2 : a.toNat + k < 64 := by omega
      simp only [ari_add, e1, e2, e3]
      refine ⟨⟨⟨by omega, by omega⟩, trivial⟩, ⟨by rw [hs]; exact hlt2, trivial⟩, ⟨by trivial, ?_, by omega⟩, ?_⟩
      · unfold withF
        rw [arrF_set _ hlt2]
        refine arrF_congr fun i _ => ?_
        by_cases e : i = a.toNat + k
        · rw [if_pos e, if_pos (by omega)]
        · rw [if_neg e]
          by_cases e' : a.toNat ≤ i ∧ i < a.toNat + k
          · rw [if_pos e', if_pos (by omega)]
          · rw [if_neg e', if_neg (by omega)]
      · repeat' first | exact trivial | apply And.intro | exact rfl
    · have hge : ¬ (k : Int) < n := by simpa using h
      have : k = n.toNat := by omega
      subst this
      simp only [hs]
      repeat' first | exact trivial | apply And.intro | exact rfl
theorem withF_row (hm : mayB a n = true) : withF X a b n.toNat = arrW (withW X a n b) := by
  have hm' := mayB_iff.1 hm
  unfold withF arrW withW
  refine arrF_congr fun i hi => ?_
  have hb : a.toNat + n.toNat ≤ 64 := by omega
  cases b with
  | true =>
    rw [if_pos rfl, give_bit hb]
    by_cases e : a.toNat ≤ i ∧ i < a.toNat + n.toNat
    · rw [if_pos e, decide_eq_true e]; simp
    · rw [if_neg e, decide_eq_false e]; simp
  | false =>
    rw [if_neg (show ¬ (false = true) by decide), take_bit hb i hi]
    by_cases e : a.toNat ≤ i ∧ i < a.toNat + n.toNat
    · rw [if_pos e, decide_eq_true e]; simp
    · rw [if_neg e, decide_eq_false e]; simp
theorem with_con (m : SMem) : Con E0 24 [agg (arrW X), i64 (.o a), i64 (.o n), boolV b] m (needs [mayB a n = true] (.ret (agg (arrW (withW X a n b))) m)) := by
  refine Con.pure E0_ok (by kernel_rfl : E0.fn 24 = some Tryd.f24) (by kernel_rfl : Tryd.f24.body = some (Tryd.f24.body.getD .skip)) (by kernel_rfl) (by kernel_rfl) fun hq => ?_
  have hm : mayB a n = true := hq _ (List.mem_cons_self ..)
  rw [← withF_row X a n b hm]
  refine (Good.ret (m := ⟨0, .nil, []⟩) (s0m := ⟨0, .nil, []⟩) (s0 := agg (withF X a b n.toNat)) [] ?_).mono fun _ _ h => h.1
  show Good ER1.P _ 0 (withC (arrW X) a n b) _
  refine run_vc ER1_ok 1000 (with_start (arrW X) a n b (fun i cs => i = ((0 : Nat) : Int) ∧ cs = withF X a b 0)) ?_ (fun _ _ h => h.elim) (fun fs m hb => n11_good hb fun i cs ⟨e1, e2⟩ => by rw [e1, e2]; exact with_good X a n b hm (n.toNat + 1) 0 (by omega) (by omega))
  refine ⟨⟨rfl, ?_⟩, ?_⟩
  · unfold arrW withF
    exact arrF_congr fun i _ => by rw [if_neg (by omega)]
  · repeat' first | exact trivial | apply And.intro | exact rfl
end
end Go.Proofs.YtiblicobfmihdaaDoor
/- Of runs: what the laws ask of the document's functions: the environment; Find: its loop's states. No condition. -/
namespace Go.Proofs.YtiblicobfmihdaaDoor
noncomputable section
theorem arrW_inj {X Y : BitVec 64} (h : arrW X = arrW Y) : X = Y := by
  apply BitVec.eq_of_getLsbD_eq
  intro i hi
  have h1 := (arrF_bool (fun i => X.getLsbD i) hi).2
  have h2 := (arrF_bool (fun i => Y.getLsbD i) hi).2
  exact h1.symm.trans ((congrArg (fun c => boolAt c i) h).trans h2)
open Classical in
/-- A row of truths, as a word. -/
def wordOf (cs : Array Value) : BitVec 64 := if h : ∃ X, arrW X = cs then Classical.choose h else 0#64
def isRow (cs : Array Value) : Prop := arrW (wordOf cs) = cs
theorem wordOf_arr (X : BitVec 64) : wordOf (arrW X) = X := by
  have h : ∃ Y, arrW Y = arrW X := ⟨X, rfl⟩
  unfold wordOf
  rw [dif_pos h]
  exact arrW_inj (Classical.choose_spec h)
theorem isRow_arr (X : BitVec 64) : isRow (arrW X) := by unfold isRow; rw [wordOf_arr]
def conL2 (g : FuncId) (l : List SV) (m : SMem) : Option Tree :=
  match g, l with
  | 20, [.s (.c (.f (.int .i64 p)))] => some (.ret (agg (arrW (lowW (clampN p.den)))) m)
  | 38, [.s (.agg (.op cs)), .s (.c (.f (.int .i64 a))), .s (.c (.f (.int .i64 n))), .s (.c (.f (.bool b)))] => some (.need [isRow cs] (.ret (sB (.o (isR (wordOf cs) a.den n.den b.den))) m))
  | 24, [.s (.agg (.op cs)), .s (.c (.f (.int .i64 a))), .s (.c (.f (.int .i64 n))), .s (.c (.f (.bool b)))] => some (.need [isRow cs, mayB a.den n.den = true] (.ret (agg (arrW (withW (wordOf cs) a.den n.den b.den))) m))
  | _, _ => none
theorem den_b {x : SB} {R : Ren} {v : Value} (h : (SV.s (.c (.f (.bool x)))).ok R v) : (SV.s (.c (.f (.bool (.o x.den))))).ok R v := h
theorem den4 {a b b' c c' d d' : SV} (k : ∀ R v, b.ok R v → b'.ok R v) (j : ∀ R v, c.ok R v → c'.ok R v) (i : ∀ R v, d.ok R v → d'.ok R v) (R : Ren) (vs : List Value) (hv : All2 (SV.ok R) [a, b, c, d] vs) : All2 (SV.ok R) [a, b', c', d'] vs := by
  match vs, hv with
  | [x, v, w, u], hv => exact ⟨hv.1, k R v hv.2.1, j R w hv.2.2.1, i R u hv.2.2.2.1, trivial⟩
theorem conL2_ok : ∀ g l m t, conL2 g l m = some t → Con E0 g l m t := by
  intro g l m t h
  unfold conL2 at h
  split at h
  · rename_i p
    cases h
    exact Con.args (den1 fun _ _ => den_i) (of7_con p.den m)
  · rename_i cs a n b
    cases h
    refine Con.asked fun hq => Con.args (den4 (fun _ _ => den_i) (fun _ _ => den_i) fun _ _ => den_b) ?_
    have hc : isRow cs := hq _ (List.mem_cons_self ..)
    have := is_con (wordOf cs) a.den n.den b.den m
    rw [show arrW (wordOf cs) = cs from hc] at this
    exact this
  · rename_i cs a n b
    cases h
    refine Con.asked fun hq => Con.args (den4 (fun _ _ => den_i) (fun _ _ => den_i) fun _ _ => den_b) ?_
    have hc : isRow cs := hq _ (List.mem_cons_self ..)
    have hm : mayB a.den n.den = true := hq _ (List.mem_cons_of_mem _ (List.mem_cons_self ..))
    intro A hs
    have := with_con (wordOf cs) a.den n.den b.den m
    rw [show arrW (wordOf cs) = cs from hc] at this
    exact this A ⟨fun p hp => by
      rw [List.mem_singleton] at hp
      rw [hp]; exact hm, hs⟩
  · cases h
def ER2 : Env := ⟨Tryd.prog, fnOf, conL2, fun d f x => Nat.beq d 0 && Nat.beq f 23 && isLoop x⟩
theorem ER2_ok : EnvOk ER2 := EnvOk.with E0_ok _ _ conL2_ok
def fiC (cs : Array Value) (n : Int) : List SFr := [callFr 23 Tryd.f23.ntmps [agg cs, i64 (.o n)] (Tryd.f23.body.getD .skip)]
def n13 (h : Bool) (cs : Array Value) (n : Int) (Q : Int → Prop) (fs : List SFr) (m : SMem) : Prop := match fs with
  | [f] => match rdI f 5 with
    | some i => Q i ∧ (cond h nxH nxF) ER2 (fiC cs n) [(5, i64 (.o i))] [] fs m
    | _ => False
  | _ => False
def intA (x : Int) : SV → SMem → Prop := retOk 0 [] (i64 (.o x)) ⟨0, .nil, []⟩
def T13 : List SIt := headTd (stF ER2 (fiC #[] 0) [])
def H13 : List SIt := headTd (stH ER2 (fiC #[] 0) [])
end
end Go.Proofs.YtiblicobfmihdaaDoor
/- Of runs: the rounds of Find, as propositions. No condition. -/
namespace Go.Proofs.YtiblicobfmihdaaDoor
set_option maxRecDepth 100000
theorem fi_start (cs : Array Value) (n r : Int) (Q : Int → Prop) : (stR ER2 (fiC cs n)).vc (intA r) (n13 false cs n Q) =
    (Q (0 : Int) ∧ CallKind.normal = CallKind.normal ∧ TodoOk (ren 0 [(0, 0)]) T13 T13 ∧ cs = cs ∧ n = n ∧ (0 : Int) = (0 : Int) ∧ (38 : Nat) = (38 : Nat) ∧ cs = cs ∧ True) := by kernel_rfl
theorem fi_step (cs : Array Value) (n r i : Int) (Q : Int → Prop) : (stS ER2 (fiC cs n) [(5, i64 (.o i))] []).vc (intA r) (n13 true cs n Q) =
    ((decide (i < (64 : Int)) = true → (Array.size cs = (64 : Nat) ∧ True) ∧ (arrW (wordOf cs) = cs ∧ True) ∧ (isR (wordOf cs) i n true = true → r = i ∧ True) ∧ (isR (wordOf cs) i n true = false → Q (ari BinOp.add IntKind.i64 i (1 : Int)) ∧ CallKind.normal = CallKind.normal ∧ TodoOk (ren 0 [(0, 0)]) H13 H13 ∧ cs = cs ∧ n = n ∧ ari BinOp.add IntKind.i64 i (1 : Int) = ari BinOp.add IntKind.i64 i (1 : Int) ∧ (38 : Nat) = (38 : Nat) ∧ cs = cs ∧ True)) ∧ (decide (i < (64 : Int)) = false → r = (-1 : Int) ∧ True)) := by kernel_rfl
end Go.Proofs.YtiblicobfmihdaaDoor
/- Of runs: the document's Find, and the comparison of a set with the document's: what they answer. No condition. -/
namespace Go.Proofs.YtiblicobfmihdaaDoor
set_option maxRecDepth 100000
section
variable {A : SV → SMem → Prop}
theorem n13_good {h : Bool} {cs : Array Value} {n : Int} {Q : Int → Prop} {fs : List SFr} {m : SMem} (hb : n13 h cs n Q fs m) (hg : ∀ i, Q i → Good ER2.P A 0 (stH ER2 (fiC cs n) [(5, i64 (.o i))]) (stM ER2 (fiC cs n) [])) : Good ER2.P A 0 fs m := by
  unfold n13 at hb
  split at hb
  case h_2 => exact hb.elim
  split at hb
  case h_2 => exact hb.elim
  exact nxc_good hb.2 (hg _ hb.1)
end
section
variable (X : BitVec 64)
theorem isR_fits (n : Int) (k : Nat) : isR X (k : Int) n true = fitsAt X n k := by
  unfold isR fitsAt mayB
  rw [Int.toNat_natCast]
  congr 1
  rw [decide_eq_decide]
  omega
def findR (n : Int) : Int := match findN X n with | some a => (a : Nat) | none => -1
theorem fi_good (n : Int) : ∀ (j k : Nat), 64 - k < j → k ≤ 64 → (∀ i, i < k → fitsAt X n i = false) → Good ER2.P (intA (findR X n)) 0 (stH ER2 (fiC (arrW X) n) [(5, i64 (.o (k : Int)))]) (stM ER2 (fiC (arrW X) n) []) := by
  intro j
  induction j with
  | zero => intro k h; omega
  | succ j ih =>
    intro k hj hk hI
    refine past_vc ER2_ok 1000 (fi_step (arrW X) n (findR X n) k (fun i => i = ((k + 1 : Nat) : Int) ∧ k < 64 ∧ fitsAt X n k = false)) ?_ (fun _ _ h => h) (fun fs m hb => n13_good hb fun i ⟨e1, e2, e3⟩ => by
      rw [e1]; exact ih (k + 1) (by omega) (by omega) fun i h => by
        by_cases e : i = k
        · rw [e]; exact e3
        · exact hI i (by omega))
    refine ⟨fun h => ?_, fun h => ?_⟩
    · have hlt : k < 64 := by
        have : (k : Int) < 64 := by simpa using h
        omega
      have e1 : IntKind.i64.wrap ((k : Int) + 1) = ((k + 1 : Nat) : Int) := wrap_in (by omega) (by omega)
      have hs : (arrW X).size = 64 := arrF_size _
      rw [wordOf_arr, isR_fits, ari_add, e1]
      refine ⟨⟨hs, trivial⟩, ⟨rfl, trivial⟩, fun h => ?_, fun h => ⟨⟨rfl, hlt, h⟩, ?_⟩⟩
      · have : findN X n = some k := seek_of (Nat.zero_le _) (by omega) h fun i _ hi => hI i hi
        exact ⟨by unfold findR; rw [this], trivial⟩
      · repeat' first | exact trivial | apply And.intro | exact rfl
    · have hge : ¬ (k : Int) < 64 := by simpa using h
      have : findN X n = none := seek_none fun i _ hi => hI i (by omega)
      exact ⟨by unfold findR; rw [this], trivial⟩
theorem fi_con (n : Int) (m : SMem) : Con E0 23 [agg (arrW X), i64 (.o n)] m (needs [] (.ret (i64 (.o (findR X n))) m)) := by
  refine Con.pure E0_ok (by kernel_rfl : E0.fn 23 = some Tryd.f23) (by kernel_rfl : Tryd.f23.body = some (Tryd.f23.body.getD .skip)) (by kernel_rfl) (by kernel_rfl) fun _ => ?_
  refine (Good.ret (m := ⟨0, .nil, []⟩) (s0m := ⟨0, .nil, []⟩) (s0 := i64 (.o (findR X n))) [] ?_).mono fun _ _ h => h.1
  show Good ER2.P _ 0 (fiC (arrW X) n) _
  refine run_vc ER2_ok 1000 (fi_start (arrW X) n (findR X n) (fun i => i = ((0 : Nat) : Int))) ?_ (fun _ _ h => h) (fun fs m hb => n13_good hb fun i e1 => by rw [e1]; exact fi_good X n 65 0 (by omega) (by omega) fun i h => by omega)
  refine ⟨rfl, ?_⟩
  repeat' first | exact trivial | apply And.intro | exact rfl
/-! The comparison. -/
end
end Go.Proofs.YtiblicobfmihdaaDoor
/- Of pool: the environment of its functions: sets of pages. No condition. -/
namespace Go.Proofs.YtiblicobfmihdaaDoor
set_option maxRecDepth 100000
noncomputable section
def conX (g : FuncId) (l : List SV) (m : SMem) : Option Tree :=
  match g, l with
  | 4, [] => some (.ret (sB (.l true)) m)
  | 19, [.s (.c (.f (.int .i64 x)))] => some (.ret (.s (.agg (.ls [.f (.int .u64 (.o (uw (lowW (clampN x.den)))))]))) m)
  | 20, [.s (.c (.f (.int .i64 x)))] => some (.ret (agg (arrW (lowW (clampN x.den)))) m)
  | 21, [.s (.agg (.ls [.f (.int .u64 x)])), .s (.c (.f (.int .i64 n)))] => some (.need [isWd x.den] (.ret (intB (findI (wd x.den) n.den) (findOk (wd x.den) n.den)) m))
  | 22, [.s (.agg (.ls [.f (.int .u64 x)])), .s (.c (.f (.int .i64 p))), .s (.c (.f (.int .i64 n)))] => some (.need [isWd x.den] (.ret (setB (uw (takeW (wd x.den) p.den n.den)) (takeOk (wd x.den) p.den n.den)) m))
  | 29, [.s (.agg (.ls [.f (.int .u64 x)])), .s (.c (.f (.int .i64 p))), .s (.c (.f (.int .i64 n)))] => some (.need [isWd x.den] (.ret (setB (uw (giveW (wd x.den) p.den n.den)) (giveOk (wd x.den) p.den n.den)) m))
  | 39, [.s (.agg (.ls [.f (.int .u64 x)])), .s (.c (.f (.int .i64 p)))] => some (.need [isWd x.den] (.ret (sB (.o (decide (0 ≤ p.den) && (wd x.den).getLsbD p.den.toNat))) m))
  | 23, [.s (.agg (.op cs)), .s (.c (.f (.int .i64 n)))] => some (.need [isRow cs] (.ret (i64 (.o (findR (wordOf cs) n.den))) m))
  | 24, [.s (.agg (.op cs)), .s (.c (.f (.int .i64 a))), .s (.c (.f (.int .i64 n))), .s (.c (.f (.bool b)))] => some (.need [isRow cs, mayB a.den n.den = true] (.ret (agg (arrW (withW (wordOf cs) a.den n.den b.den))) m))
  | _, _ => none
def EX : Env := ⟨Tryd.prog, fnOf, conX, fun _ _ x => isLoop x⟩
end
theorem conX_ok : ∀ g l m t, conX g l m = some t → Con E0 g l m t := by
  intro g l m t h
  unfold conX at h
  split at h
  · cases h; exact wakes_con m
  · rename_i x; cases h
    exact Con.args (den1 fun _ _ => den_i) (of_con x.den m)
  · rename_i x; cases h
    exact Con.args (den1 fun _ _ => den_i) (of7_con x.den m)
  · rename_i x n; cases h
    refine Con.asked fun hq => ?_
    have hw : uw (wd x.den) = x.den := hq _ (List.mem_cons_self ..)
    have h := find_con (wd x.den) n.den m
    rw [hw] at h
    exact Con.args (den2 (fun _ _ => den_a) fun _ _ => den_i) h
  · rename_i x p n; cases h
    refine Con.asked fun hq => ?_
    have hw : uw (wd x.den) = x.den := hq _ (List.mem_cons_self ..)
    have h := take_con (wd x.den) p.den n.den m
    rw [hw] at h
    exact Con.args (den3 (fun _ _ => den_a) (fun _ _ => den_i) fun _ _ => den_i) h
  · rename_i x p n; cases h
    refine Con.asked fun hq => ?_
    have hw : uw (wd x.den) = x.den := hq _ (List.mem_cons_self ..)
    have h := give_con (wd x.den) p.den n.den m
    rw [hw] at h
    exact Con.args (den3 (fun _ _ => den_a) (fun _ _ => den_i) fun _ _ => den_i) h
  · rename_i x p; cases h
    refine Con.asked fun hq => ?_
    have hw : uw (wd x.den) = x.den := hq _ (List.mem_cons_self ..)
    have h := has_con (wd x.den) p.den m
    rw [hw] at h
    exact Con.args (den2 (fun _ _ => den_a) fun _ _ => den_i) h
  · rename_i cs n; cases h
    refine Con.asked fun hq => ?_
    have hc : isRow cs := hq _ (List.mem_cons_self ..)
    have h := fi_con (wordOf cs) n.den m
    rw [show arrW (wordOf cs) = cs from hc] at h
    exact Con.args (den2 (fun _ _ h => h) fun _ _ => den_i) h
  · rename_i cs a n b; cases h
    refine Con.asked fun hq => Con.args (den4 (fun _ _ => den_i) (fun _ _ => den_i) fun _ _ => den_b) ?_
    have hc : isRow cs := hq _ (List.mem_cons_self ..)
    have hm : mayB a.den n.den = true := hq _ (List.mem_cons_of_mem _ (List.mem_cons_self ..))
    intro A hs
    have := with_con (wordOf cs) a.den n.den b.den m
    rw [show arrW (wordOf cs) = cs from hc] at this
    exact this A ⟨fun p hp => by
      rw [List.mem_singleton] at hp
      rw [hp]; exact hm, hs⟩
  · cases h
theorem EX_ok : EnvOk EX := EnvOk.with E0_ok _ _ conX_ok
end Go.Proofs.YtiblicobfmihdaaDoor
/- Of pool: the law's states. No condition. -/
namespace Go.Proofs.YtiblicobfmihdaaDoor
set_option linter.unusedVariables false
noncomputable def acS (off n : Nat) : SV := .s (.c (.f (.slice 0 (.o off) (.o n) .any)))
noncomputable def conP (g : FuncId) (l : List SV) (m : SMem) : Option Tree := match Nat.beq g 20 with | true => none | false => conX g l m
noncomputable def EP : Env := ⟨Tryd.prog, fnOf, conP, haltAt [3010, 3016, 3021, 3024, 3027, 3030, 3036, 3040, 3044, 10003]⟩
noncomputable def kA_d0 : List SIt := sekF Tryd.f3 10
noncomputable def kA_F (off : Nat) (n : Nat) (cs : Array Value) (ty : TypeId) (pg : Int) (i : Int) (ps : Array Value) (ws : Array Value) : List SFr := [frOf 3 Tryd.f3 [(0, i64 (.o pg)), (1, acS off n), (5, ptr 1 (.l 0)), (7, ptr 2 (.l 0)), (8, i64 (.o i))] kA_d0]
noncomputable def kA_M (off : Nat) (n : Nat) (cs : Array Value) (ty : TypeId) (pg : Int) (i : Int) (ps : Array Value) (ws : Array Value) : SMem := mkM 3 [(0, ⟨.raw cs, ty, false⟩), (1, ⟨.op ps, 54, true⟩), (2, ⟨.op ws, 41, true⟩)]
noncomputable def kA_n (off : Nat) (n : Nat) (cs : Array Value) (ty : TypeId) (pg : Int) (Q : Int → Array Value → Array Value → Prop) (fs : List SFr) (m : SMem) : Prop := (match frN fs 0 with | some f0 => (match rdI f0 8 with | some i => (match rdP f0 5 with | some p1 => (match rdP f0 7 with | some p2 => (match rdA m p1 with | some ps => (match rdA m p2 with | some ws => Q i ps ws ∧ subOk 1 [(1, p1), (2, p2)] (kA_F off n cs ty pg i ps ws) (kA_M off n cs ty pg i ps ws) fs m | none => False) | none => False) | none => False) | none => False) | none => False) | none => False)
noncomputable def k21_d0 : List SIt := sekF Tryd.f3 21
noncomputable def k21_F (off : Nat) (n : Nat) (cs : Array Value) (ty : TypeId) (pg : Int) (i : Int) (d : Int) (x : Int) (y : Int) (ps : Array Value) (ws : Array Value) : List SFr := [frOf 3 Tryd.f3 [(0, i64 (.o pg)), (1, acS off n), (5, ptr 1 (.l 0)), (7, ptr 2 (.l 0)), (8, i64 (.o i)), (9, ptr 3 (.l 0)), (10, i64 (.l 0)), (11, i64 (.l 0)), (12, i64 (.l 0)), (13, i64 (.l 0))] k21_d0]
noncomputable def k21_M (off : Nat) (n : Nat) (cs : Array Value) (ty : TypeId) (pg : Int) (i : Int) (d : Int) (x : Int) (y : Int) (ps : Array Value) (ws : Array Value) : SMem := mkM 4 [(0, ⟨.raw cs, ty, false⟩), (1, ⟨.op ps, 54, true⟩), (2, ⟨.op ws, 41, true⟩), (3, ⟨.ls [.f (.int .u8 (.o d)), .f (.int .i64 (.o x)), .f (.int .u8 (.o y))], 31, true⟩)]
noncomputable def k21_n (off : Nat) (n : Nat) (cs : Array Value) (ty : TypeId) (pg : Int) (Q : Int → Int → Int → Int → Array Value → Array Value → Prop) (fs : List SFr) (m : SMem) : Prop := (match frN fs 0 with | some f0 => (match rdI f0 8 with | some i => (match rdP f0 5 with | some p1 => (match rdP f0 7 with | some p2 => (match rdP f0 9 with | some p3 => (match rdA m p1 with | some ps => (match rdA m p2 with | some ws => (match rdCI m p3 0 with | some d => (match rdCI m p3 1 with | some x => (match rdCI m p3 2 with | some y => Q i d x y ps ws ∧ subOk 1 [(1, p1), (2, p2), (3, p3)] (k21_F off n cs ty pg i d x y ps ws) (k21_M off n cs ty pg i d x y ps ws) fs m | none => False) | none => False) | none => False) | none => False) | none => False) | none => False) | none => False) | none => False) | none => False) | none => False)
noncomputable def k24_d0 : List SIt := sekF Tryd.f3 24
noncomputable def k24_F (off : Nat) (n : Nat) (cs : Array Value) (ty : TypeId) (pg : Int) (i : Int) (d : Int) (x : Int) (y : Int) (ps : Array Value) (ws : Array Value) : List SFr := [frOf 3 Tryd.f3 [(0, i64 (.o pg)), (1, acS off n), (5, ptr 1 (.l 0)), (7, ptr 2 (.l 0)), (8, i64 (.o i)), (9, ptr 3 (.l 0)), (10, i64 (.l 0)), (11, i64 (.l 0)), (12, i64 (.l 0)), (13, i64 (.l 0))] k24_d0]
noncomputable def k24_M (off : Nat) (n : Nat) (cs : Array Value) (ty : TypeId) (pg : Int) (i : Int) (d : Int) (x : Int) (y : Int) (ps : Array Value) (ws : Array Value) : SMem := mkM 4 [(0, ⟨.raw cs, ty, false⟩), (1, ⟨.op ps, 54, true⟩), (2, ⟨.op ws, 41, true⟩), (3, ⟨.ls [.f (.int .u8 (.o d)), .f (.int .i64 (.o x)), .f (.int .u8 (.o y))], 31, true⟩)]
noncomputable def k24_n (off : Nat) (n : Nat) (cs : Array Value) (ty : TypeId) (pg : Int) (Q : Int → Int → Int → Int → Array Value → Array Value → Prop) (fs : List SFr) (m : SMem) : Prop := (match frN fs 0 with | some f0 => (match rdI f0 8 with | some i => (match rdP f0 5 with | some p1 => (match rdP f0 7 with | some p2 => (match rdP f0 9 with | some p3 => (match rdA m p1 with | some ps => (match rdA m p2 with | some ws => (match rdCI m p3 0 with | some d => (match rdCI m p3 1 with | some x => (match rdCI m p3 2 with | some y => Q i d x y ps ws ∧ subOk 1 [(1, p1), (2, p2), (3, p3)] (k24_F off n cs ty pg i d x y ps ws) (k24_M off n cs ty pg i d x y ps ws) fs m | none => False) | none => False) | none => False) | none => False) | none => False) | none => False) | none => False) | none => False) | none => False) | none => False)
noncomputable def k27_d0 : List SIt := sekF Tryd.f3 27
noncomputable def k27_F (off : Nat) (n : Nat) (cs : Array Value) (ty : TypeId) (pg : Int) (i : Int) (d : Int) (x : Int) (y : Int) (ps : Array Value) (ws : Array Value) : List SFr := [frOf 3 Tryd.f3 [(0, i64 (.o pg)), (1, acS off n), (5, ptr 1 (.l 0)), (7, ptr 2 (.l 0)), (8, i64 (.o i)), (9, ptr 3 (.l 0)), (10, i64 (.l 0)), (11, i64 (.l 0)), (12, i64 (.l 0)), (13, i64 (.l 0))] k27_d0]
noncomputable def k27_M (off : Nat) (n : Nat) (cs : Array Value) (ty : TypeId) (pg : Int) (i : Int) (d : Int) (x : Int) (y : Int) (ps : Array Value) (ws : Array Value) : SMem := mkM 4 [(0, ⟨.raw cs, ty, false⟩), (1, ⟨.op ps, 54, true⟩), (2, ⟨.op ws, 41, true⟩), (3, ⟨.ls [.f (.int .u8 (.o d)), .f (.int .i64 (.o x)), .f (.int .u8 (.o y))], 31, true⟩)]
noncomputable def k27_n (off : Nat) (n : Nat) (cs : Array Value) (ty : TypeId) (pg : Int) (Q : Int → Int → Int → Int → Array Value → Array Value → Prop) (fs : List SFr) (m : SMem) : Prop := (match frN fs 0 with | some f0 => (match rdI f0 8 with | some i => (match rdP f0 5 with | some p1 => (match rdP f0 7 with | some p2 => (match rdP f0 9 with | some p3 => (match rdA m p1 with | some ps => (match rdA m p2 with | some ws => (match rdCI m p3 0 with | some d => (match rdCI m p3 1 with | some x => (match rdCI m p3 2 with | some y => Q i d x y ps ws ∧ subOk 1 [(1, p1), (2, p2), (3, p3)] (k27_F off n cs ty pg i d x y ps ws) (k27_M off n cs ty pg i d x y ps ws) fs m | none => False) | none => False) | none => False) | none => False) | none => False) | none => False) | none => False) | none => False) | none => False) | none => False)
noncomputable def k30_d0 : List SIt := sekF Tryd.f3 30
noncomputable def k30_F (off : Nat) (n : Nat) (cs : Array Value) (ty : TypeId) (pg : Int) (i : Int) (d : Int) (x : Int) (y : Int) (ps : Array Value) (ws : Array Value) : List SFr := [frOf 3 Tryd.f3 [(0, i64 (.o pg)), (1, acS off n), (5, ptr 1 (.l 0)), (7, ptr 2 (.l 0)), (8, i64 (.o i)), (9, ptr 3 (.l 0)), (10, i64 (.l 0)), (11, i64 (.l 0)), (12, i64 (.l 0)), (13, i64 (.l 0))] k30_d0]
noncomputable def k30_M (off : Nat) (n : Nat) (cs : Array Value) (ty : TypeId) (pg : Int) (i : Int) (d : Int) (x : Int) (y : Int) (ps : Array Value) (ws : Array Value) : SMem := mkM 4 [(0, ⟨.raw cs, ty, false⟩), (1, ⟨.op ps, 54, true⟩), (2, ⟨.op ws, 41, true⟩), (3, ⟨.ls [.f (.int .u8 (.o d)), .f (.int .i64 (.o x)), .f (.int .u8 (.o y))], 31, true⟩)]
noncomputable def k30_n (off : Nat) (n : Nat) (cs : Array Value) (ty : TypeId) (pg : Int) (Q : Int → Int → Int → Int → Array Value → Array Value → Prop) (fs : List SFr) (m : SMem) : Prop := (match frN fs 0 with | some f0 => (match rdI f0 8 with | some i => (match rdP f0 5 with | some p1 => (match rdP f0 7 with | some p2 => (match rdP f0 9 with | some p3 => (match rdA m p1 with | some ps => (match rdA m p2 with | some ws => (match rdCI m p3 0 with | some d => (match rdCI m p3 1 with | some x => (match rdCI m p3 2 with | some y => Q i d x y ps ws ∧ subOk 1 [(1, p1), (2, p2), (3, p3)] (k30_F off n cs ty pg i d x y ps ws) (k30_M off n cs ty pg i d x y ps ws) fs m | none => False) | none => False) | none => False) | none => False) | none => False) | none => False) | none => False) | none => False) | none => False) | none => False)
noncomputable def k16_d0 : List SIt := sekF Tryd.f3 16
noncomputable def k16_F (off : Nat) (n : Nat) (cs : Array Value) (ty : TypeId) (pg : Int) (i : Int) (d : Int) (x : Int) (y : Int) (ps : Array Value) (ws : Array Value) : List SFr := [frOf 3 Tryd.f3 [(0, i64 (.o pg)), (1, acS off n), (5, ptr 1 (.l 0)), (7, ptr 2 (.l 0)), (8, i64 (.o i)), (9, ptr 3 (.l 0)), (10, i64 (.l 0)), (11, i64 (.l 0)), (12, i64 (.l 0)), (13, i64 (.l 0))] k16_d0]
noncomputable def k16_M (off : Nat) (n : Nat) (cs : Array Value) (ty : TypeId) (pg : Int) (i : Int) (d : Int) (x : Int) (y : Int) (ps : Array Value) (ws : Array Value) : SMem := mkM 4 [(0, ⟨.raw cs, ty, false⟩), (1, ⟨.op ps, 54, true⟩), (2, ⟨.op ws, 41, true⟩), (3, ⟨.ls [.f (.int .u8 (.o d)), .f (.int .i64 (.o x)), .f (.int .u8 (.o y))], 31, true⟩)]
noncomputable def k16_n (off : Nat) (n : Nat) (cs : Array Value) (ty : TypeId) (pg : Int) (Q : Int → Int → Int → Int → Array Value → Array Value → Prop) (fs : List SFr) (m : SMem) : Prop := (match frN fs 0 with | some f0 => (match rdI f0 8 with | some i => (match rdP f0 5 with | some p1 => (match rdP f0 7 with | some p2 => (match rdP f0 9 with | some p3 => (match rdA m p1 with | some ps => (match rdA m p2 with | some ws => (match rdCI m p3 0 with | some d => (match rdCI m p3 1 with | some x => (match rdCI m p3 2 with | some y => Q i d x y ps ws ∧ subOk 1 [(1, p1), (2, p2), (3, p3)] (k16_F off n cs ty pg i d x y ps ws) (k16_M off n cs ty pg i d x y ps ws) fs m | none => False) | none => False) | none => False) | none => False) | none => False) | none => False) | none => False) | none => False) | none => False) | none => False)
noncomputable def kD_d0 : List SIt := sekF Tryd.f10 3
noncomputable def kD_d1 : List SIt := sekI Tryd.f3 25 [3, 4]
noncomputable def kD_F (off : Nat) (n : Nat) (cs : Array Value) (ty : TypeId) (pg : Int) (i : Int) (g : Int) (q : Int) (e : Int) (j : Int) (ps : Array Value) (ws : Array Value) : List SFr := [frOf 10 Tryd.f10 [(0, ptr 2 (.l 0)), (1, i64 (.o q)), (5, i64 (.o e)), (6, i64 (.o j))] kD_d0, frOf 3 Tryd.f3 [(0, i64 (.o pg)), (1, acS off n), (5, ptr 1 (.l 0)), (7, ptr 2 (.l 0)), (8, i64 (.o i)), (10, i64 (.o g)), (12, i64 (.l 0)), (13, i64 (.l 0))] kD_d1]
noncomputable def kD_M (off : Nat) (n : Nat) (cs : Array Value) (ty : TypeId) (pg : Int) (i : Int) (g : Int) (q : Int) (e : Int) (j : Int) (ps : Array Value) (ws : Array Value) : SMem := mkM 3 [(0, ⟨.raw cs, ty, false⟩), (1, ⟨.op ps, 54, true⟩), (2, ⟨.op ws, 41, true⟩)]
noncomputable def kD_n (off : Nat) (n : Nat) (cs : Array Value) (ty : TypeId) (pg : Int) (Q : Int → Int → Int → Int → Int → Array Value → Array Value → Prop) (fs : List SFr) (m : SMem) : Prop := (match frN fs 0 with | some f0 => (match frN fs 1 with | some f1 => (match rdI f0 1 with | some q => (match rdI f0 5 with | some e => (match rdI f0 6 with | some j => (match rdI f1 8 with | some i => (match rdI f1 10 with | some g => (match rdP f1 5 with | some p1 => (match rdP f1 7 with | some p2 => (match rdA m p1 with | some ps => (match rdA m p2 with | some ws => Q i g q e j ps ws ∧ subOk 1 [(1, p1), (2, p2)] (kD_F off n cs ty pg i g q e j ps ws) (kD_M off n cs ty pg i g q e j ps ws) fs m | none => False) | none => False) | none => False) | none => False) | none => False) | none => False) | none => False) | none => False) | none => False) | none => False) | none => False)
noncomputable def kE_d0 : List SIt := sekF Tryd.f3 36
noncomputable def kE_F (off : Nat) (n : Nat) (cs : Array Value) (ty : TypeId) (pg : Int) (i : Int) (g : Int) (w : Int) (a : Int) (b : Int) (ps : Array Value) (ws : Array Value) : List SFr := [frOf 3 Tryd.f3 [(0, i64 (.o pg)), (1, acS off n), (5, ptr 1 (.l 0)), (7, ptr 2 (.l 0)), (8, i64 (.o i)), (10, i64 (.o g)), (11, i64 (.o w)), (12, i64 (.o a)), (13, i64 (.o b))] kE_d0]
noncomputable def kE_M (off : Nat) (n : Nat) (cs : Array Value) (ty : TypeId) (pg : Int) (i : Int) (g : Int) (w : Int) (a : Int) (b : Int) (ps : Array Value) (ws : Array Value) : SMem := mkM 3 [(0, ⟨.raw cs, ty, false⟩), (1, ⟨.op ps, 54, true⟩), (2, ⟨.op ws, 41, true⟩)]
noncomputable def kE_n (off : Nat) (n : Nat) (cs : Array Value) (ty : TypeId) (pg : Int) (Q : Int → Int → Int → Int → Int → Array Value → Array Value → Prop) (fs : List SFr) (m : SMem) : Prop := (match frN fs 0 with | some f0 => (match rdI f0 8 with | some i => (match rdI f0 10 with | some g => (match rdI f0 11 with | some w => (match rdI f0 12 with | some a => (match rdI f0 13 with | some b => (match rdP f0 5 with | some p1 => (match rdP f0 7 with | some p2 => (match rdA m p1 with | some ps => (match rdA m p2 with | some ws => Q i g w a b ps ws ∧ subOk 1 [(1, p1), (2, p2)] (kE_F off n cs ty pg i g w a b ps ws) (kE_M off n cs ty pg i g w a b ps ws) fs m | none => False) | none => False) | none => False) | none => False) | none => False) | none => False) | none => False) | none => False) | none => False) | none => False)
noncomputable def kC_d0 : List SIt := sekF Tryd.f3 40
noncomputable def kC_F (off : Nat) (n : Nat) (cs : Array Value) (ty : TypeId) (pg : Int) (i : Int) (x : Int) (k : Int) (ps : Array Value) (ws : Array Value) : List SFr := [frOf 3 Tryd.f3 [(0, i64 (.o pg)), (1, acS off n), (5, ptr 1 (.l 0)), (7, ptr 2 (.l 0)), (8, i64 (.o i)), (16, .s (.c (.f (.int .u64 (.o x))))), (17, i64 (.o k))] kC_d0]
noncomputable def kC_M (off : Nat) (n : Nat) (cs : Array Value) (ty : TypeId) (pg : Int) (i : Int) (x : Int) (k : Int) (ps : Array Value) (ws : Array Value) : SMem := mkM 3 [(0, ⟨.raw cs, ty, false⟩), (1, ⟨.op ps, 54, true⟩), (2, ⟨.op ws, 41, true⟩)]
noncomputable def kC_n (off : Nat) (n : Nat) (cs : Array Value) (ty : TypeId) (pg : Int) (Q : Int → Int → Int → Array Value → Array Value → Prop) (fs : List SFr) (m : SMem) : Prop := (match frN fs 0 with | some f0 => (match rdI f0 8 with | some i => (match rdI f0 16 with | some x => (match rdI f0 17 with | some k => (match rdP f0 5 with | some p1 => (match rdP f0 7 with | some p2 => (match rdA m p1 with | some ps => (match rdA m p2 with | some ws => Q i x k ps ws ∧ subOk 1 [(1, p1), (2, p2)] (kC_F off n cs ty pg i x k ps ws) (kC_M off n cs ty pg i x k ps ws) fs m | none => False) | none => False) | none => False) | none => False) | none => False) | none => False) | none => False) | none => False)
noncomputable def kG_d0 : List SIt := sekF Tryd.f3 44
noncomputable def kG_F (off : Nat) (n : Nat) (cs : Array Value) (ty : TypeId) (pg : Int) (i : Int) (x : Int) (ps : Array Value) (ws : Array Value) : List SFr := [frOf 3 Tryd.f3 [(0, i64 (.o pg)), (1, acS off n), (5, ptr 1 (.l 0)), (7, ptr 2 (.l 0)), (8, i64 (.o i)), (16, .s (.c (.f (.int .u64 (.o x)))))] kG_d0]
noncomputable def kG_M (off : Nat) (n : Nat) (cs : Array Value) (ty : TypeId) (pg : Int) (i : Int) (x : Int) (ps : Array Value) (ws : Array Value) : SMem := mkM 3 [(0, ⟨.raw cs, ty, false⟩), (1, ⟨.op ps, 54, true⟩), (2, ⟨.op ws, 41, true⟩)]
noncomputable def kG_n (off : Nat) (n : Nat) (cs : Array Value) (ty : TypeId) (pg : Int) (Q : Int → Int → Array Value → Array Value → Prop) (fs : List SFr) (m : SMem) : Prop := (match frN fs 0 with | some f0 => (match rdI f0 8 with | some i => (match rdI f0 16 with | some x => (match rdP f0 5 with | some p1 => (match rdP f0 7 with | some p2 => (match rdA m p1 with | some ps => (match rdA m p2 with | some ws => Q i x ps ws ∧ subOk 1 [(1, p1), (2, p2)] (kG_F off n cs ty pg i x ps ws) (kG_M off n cs ty pg i x ps ws) fs m | none => False) | none => False) | none => False) | none => False) | none => False) | none => False) | none => False)
noncomputable def pA_t (off : Nat) (n : Nat) (cs : Array Value) (ty : TypeId) (pg : Int) (i : Int) (ps : Array Value) (ws : Array Value) : Tree := stepT EP.go (run EP 1000) 1 (kA_F off n cs ty pg i ps ws) (kA_M off n cs ty pg i ps ws)
noncomputable def pA_x (off : Nat) (n : Nat) (cs : Array Value) (ty : TypeId) (pg : Int) (i : Int) (ps : Array Value) (ws : Array Value) (Qk21 : Int → Int → Int → Int → Array Value → Array Value → Prop) (Qk24 : Int → Int → Int → Int → Array Value → Array Value → Prop) (Qk27 : Int → Int → Int → Int → Array Value → Array Value → Prop) (Qk30 : Int → Int → Int → Int → Array Value → Array Value → Prop) (Qk16 : Int → Int → Int → Int → Array Value → Array Value → Prop) (fs : List SFr) (m : SMem) : Prop := (match Nat.beq (atR fs) 3021 with | true => k21_n off n cs ty pg Qk21 fs m | false => (match Nat.beq (atR fs) 3024 with | true => k24_n off n cs ty pg Qk24 fs m | false => (match Nat.beq (atR fs) 3027 with | true => k27_n off n cs ty pg Qk27 fs m | false => (match Nat.beq (atR fs) 3030 with | true => k30_n off n cs ty pg Qk30 fs m | false => k16_n off n cs ty pg Qk16 fs m))))
noncomputable def p21_t (off : Nat) (n : Nat) (cs : Array Value) (ty : TypeId) (pg : Int) (i : Int) (d : Int) (x : Int) (y : Int) (ps : Array Value) (ws : Array Value) : Tree := stepT EP.go (run EP 1000) 1 (k21_F off n cs ty pg i d x y ps ws) (k21_M off n cs ty pg i d x y ps ws)
noncomputable def p21_x (off : Nat) (n : Nat) (cs : Array Value) (ty : TypeId) (pg : Int) (i : Int) (d : Int) (x : Int) (y : Int) (ps : Array Value) (ws : Array Value) (QkE : Int → Int → Int → Int → Int → Array Value → Array Value → Prop) (fs : List SFr) (m : SMem) : Prop := kE_n off n cs ty pg QkE fs m
noncomputable def p24_t (off : Nat) (n : Nat) (cs : Array Value) (ty : TypeId) (pg : Int) (i : Int) (d : Int) (x : Int) (y : Int) (ps : Array Value) (ws : Array Value) : Tree := stepT EP.go (run EP 1000) 1 (k24_F off n cs ty pg i d x y ps ws) (k24_M off n cs ty pg i d x y ps ws)
noncomputable def p24_x (off : Nat) (n : Nat) (cs : Array Value) (ty : TypeId) (pg : Int) (i : Int) (d : Int) (x : Int) (y : Int) (ps : Array Value) (ws : Array Value) (QkD : Int → Int → Int → Int → Int → Array Value → Array Value → Prop) (fs : List SFr) (m : SMem) : Prop := kD_n off n cs ty pg QkD fs m
noncomputable def pD_t (off : Nat) (n : Nat) (cs : Array Value) (ty : TypeId) (pg : Int) (i : Int) (g : Int) (q : Int) (e : Int) (j : Int) (ps : Array Value) (ws : Array Value) : Tree := stepT EP.go (run EP 1000) 1 (kD_F off n cs ty pg i g q e j ps ws) (kD_M off n cs ty pg i g q e j ps ws)
noncomputable def pD_x (off : Nat) (n : Nat) (cs : Array Value) (ty : TypeId) (pg : Int) (i : Int) (g : Int) (q : Int) (e : Int) (j : Int) (ps : Array Value) (ws : Array Value) (QkD : Int → Int → Int → Int → Int → Array Value → Array Value → Prop) (QkE : Int → Int → Int → Int → Int → Array Value → Array Value → Prop) (fs : List SFr) (m : SMem) : Prop := (match Nat.beq (atR fs) 10003 with | true => kD_n off n cs ty pg QkD fs m | false => kE_n off n cs ty pg QkE fs m)
noncomputable def p27_t (off : Nat) (n : Nat) (cs : Array Value) (ty : TypeId) (pg : Int) (i : Int) (d : Int) (x : Int) (y : Int) (ps : Array Value) (ws : Array Value) : Tree := stepT EP.go (run EP 1000) 1 (k27_F off n cs ty pg i d x y ps ws) (k27_M off n cs ty pg i d x y ps ws)
noncomputable def p27_x (off : Nat) (n : Nat) (cs : Array Value) (ty : TypeId) (pg : Int) (i : Int) (d : Int) (x : Int) (y : Int) (ps : Array Value) (ws : Array Value) (QkE : Int → Int → Int → Int → Int → Array Value → Array Value → Prop) (fs : List SFr) (m : SMem) : Prop := kE_n off n cs ty pg QkE fs m
noncomputable def p30_t (off : Nat) (n : Nat) (cs : Array Value) (ty : TypeId) (pg : Int) (i : Int) (d : Int) (x : Int) (y : Int) (ps : Array Value) (ws : Array Value) : Tree := stepT EP.go (run EP 1000) 1 (k30_F off n cs ty pg i d x y ps ws) (k30_M off n cs ty pg i d x y ps ws)
noncomputable def p30_x (off : Nat) (n : Nat) (cs : Array Value) (ty : TypeId) (pg : Int) (i : Int) (d : Int) (x : Int) (y : Int) (ps : Array Value) (ws : Array Value) (QkE : Int → Int → Int → Int → Int → Array Value → Array Value → Prop) (fs : List SFr) (m : SMem) : Prop := kE_n off n cs ty pg QkE fs m
noncomputable def p16_t (off : Nat) (n : Nat) (cs : Array Value) (ty : TypeId) (pg : Int) (i : Int) (d : Int) (x : Int) (y : Int) (ps : Array Value) (ws : Array Value) : Tree := stepT EP.go (run EP 1000) 1 (k16_F off n cs ty pg i d x y ps ws) (k16_M off n cs ty pg i d x y ps ws)
noncomputable def p16_x (off : Nat) (n : Nat) (cs : Array Value) (ty : TypeId) (pg : Int) (i : Int) (d : Int) (x : Int) (y : Int) (ps : Array Value) (ws : Array Value) (QkE : Int → Int → Int → Int → Int → Array Value → Array Value → Prop) (fs : List SFr) (m : SMem) : Prop := kE_n off n cs ty pg QkE fs m
noncomputable def pE_t (off : Nat) (n : Nat) (cs : Array Value) (ty : TypeId) (pg : Int) (i : Int) (g : Int) (w : Int) (a : Int) (b : Int) (ps : Array Value) (ws : Array Value) : Tree := stepT EP.go (run EP 1000) 1 (kE_F off n cs ty pg i g w a b ps ws) (kE_M off n cs ty pg i g w a b ps ws)
noncomputable def pE_x (off : Nat) (n : Nat) (cs : Array Value) (ty : TypeId) (pg : Int) (i : Int) (g : Int) (w : Int) (a : Int) (b : Int) (ps : Array Value) (ws : Array Value) (QkC : Int → Int → Int → Array Value → Array Value → Prop) (fs : List SFr) (m : SMem) : Prop := kC_n off n cs ty pg QkC fs m
noncomputable def pC_t (off : Nat) (n : Nat) (cs : Array Value) (ty : TypeId) (pg : Int) (i : Int) (x : Int) (k : Int) (ps : Array Value) (ws : Array Value) : Tree := stepT EP.go (run EP 1000) 1 (kC_F off n cs ty pg i x k ps ws) (kC_M off n cs ty pg i x k ps ws)
noncomputable def pC_x (off : Nat) (n : Nat) (cs : Array Value) (ty : TypeId) (pg : Int) (i : Int) (x : Int) (k : Int) (ps : Array Value) (ws : Array Value) (QkC : Int → Int → Int → Array Value → Array Value → Prop) (QkG : Int → Int → Array Value → Array Value → Prop) (fs : List SFr) (m : SMem) : Prop := (match Nat.beq (atR fs) 3040 with | true => kC_n off n cs ty pg QkC fs m | false => kG_n off n cs ty pg QkG fs m)
noncomputable def pG_t (off : Nat) (n : Nat) (cs : Array Value) (ty : TypeId) (pg : Int) (i : Int) (x : Int) (ps : Array Value) (ws : Array Value) : Tree := stepT EP.go (run EP 1000) 1 (kG_F off n cs ty pg i x ps ws) (kG_M off n cs ty pg i x ps ws)
noncomputable def pG_x (off : Nat) (n : Nat) (cs : Array Value) (ty : TypeId) (pg : Int) (i : Int) (x : Int) (ps : Array Value) (ws : Array Value) (QkA : Int → Array Value → Array Value → Prop) (fs : List SFr) (m : SMem) : Prop := kA_n off n cs ty pg QkA fs m
theorem kA_d0_ok (r : Nat → Option Nat) : TodoOk r kA_d0 kA_d0 := TodoOk.it (by kernel_rfl)
theorem k21_d0_ok (r : Nat → Option Nat) : TodoOk r k21_d0 k21_d0 := TodoOk.it (by kernel_rfl)
theorem k24_d0_ok (r : Nat → Option Nat) : TodoOk r k24_d0 k24_d0 := TodoOk.it (by kernel_rfl)
theorem k27_d0_ok (r : Nat → Option Nat) : TodoOk r k27_d0 k27_d0 := TodoOk.it (by kernel_rfl)
theorem k30_d0_ok (r : Nat → Option Nat) : TodoOk r k30_d0 k30_d0 := TodoOk.it (by kernel_rfl)
theorem k16_d0_ok (r : Nat → Option Nat) : TodoOk r k16_d0 k16_d0 := TodoOk.it (by kernel_rfl)
theorem kD_d0_ok (r : Nat → Option Nat) : TodoOk r kD_d0 kD_d0 := TodoOk.it (by kernel_rfl)
theorem kD_d1_ok (r : Nat → Option Nat) : TodoOk r kD_d1 kD_d1 := TodoOk.it (by kernel_rfl)
theorem kE_d0_ok (r : Nat → Option Nat) : TodoOk r kE_d0 kE_d0 := TodoOk.it (by kernel_rfl)
theorem kC_d0_ok (r : Nat → Option Nat) : TodoOk r kC_d0 kC_d0 := TodoOk.it (by kernel_rfl)
theorem kG_d0_ok (r : Nat → Option Nat) : TodoOk r kG_d0 kG_d0 := TodoOk.it (by kernel_rfl)
theorem kA_good {A : SV → SMem → Prop} {off : Nat} {n : Nat} {cs : Array Value} {ty : TypeId} {pg : Int} {Q : Int → Array Value → Array Value → Prop} {fs : List SFr} {m : SMem} (H : ∀ i ps ws, Q i ps ws → Good Tryd.prog A 1 (kA_F off n cs ty pg i ps ws) (kA_M off n cs ty pg i ps ws)) (hb : kA_n off n cs ty pg Q fs m) : Good Tryd.prog A 1 fs m := by
  unfold kA_n at hb
  split at hb
  rotate_left
  · exact hb.elim
  split at hb
  rotate_left
  · exact hb.elim
  split at hb
  rotate_left
  · exact hb.elim
  split at hb
  rotate_left
  · exact hb.elim
  split at hb
  rotate_left
  · exact hb.elim
  split at hb
  rotate_left
  · exact hb.elim
  exact Good.of_sub hb.2 (H _ _ _ hb.1)
theorem k21_good {A : SV → SMem → Prop} {off : Nat} {n : Nat} {cs : Array Value} {ty : TypeId} {pg : Int} {Q : Int → Int → Int → Int → Array Value → Array Value → Prop} {fs : List SFr} {m : SMem} (H : ∀ i d x y ps ws, Q i d x y ps ws → Good Tryd.prog A 1 (k21_F off n cs ty pg i d x y ps ws) (k21_M off n cs ty pg i d x y ps ws)) (hb : k21_n off n cs ty pg Q fs m) : Good Tryd.prog A 1 fs m := by
  unfold k21_n at hb
  split at hb
  rotate_left
  · exact hb.elim
  split at hb
  rotate_left
  · exact hb.elim
  split at hb
  rotate_left
  · exact hb.elim
  split at hb
  rotate_left
  · exact hb.elim
  split at hb
  rotate_left
  · exact hb.elim
  split at hb
  rotate_left
  · exact hb.elim
  split at hb
  rotate_left
  · exact hb.elim
  split at hb
  rotate_left
  · exact hb.elim
  split at hb
  rotate_left
  · exact hb.elim
  split at hb
  rotate_left
  · exact hb.elim
  exact Good.of_sub hb.2 (H _ _ _ _ _ _ hb.1)
theorem k24_good {A : SV → SMem → Prop} {off : Nat} {n : Nat} {cs : Array Value} {ty : TypeId} {pg : Int} {Q : Int → Int → Int → Int → Array Value → Array Value → Prop} {fs : List SFr} {m : SMem} (H : ∀ i d x y ps ws, Q i d x y ps ws → Good Tryd.prog A 1 (k24_F off n cs ty pg i d x y ps ws) (k24_M off n cs ty pg i d x y ps ws)) (hb : k24_n off n cs ty pg Q fs m) : Good Tryd.prog A 1 fs m := by
  unfold k24_n at hb
  split at hb
  rotate_left
  · exact hb.elim
  split at hb
  rotate_left
  · exact hb.elim
  split at hb
  rotate_left
  · exact hb.elim
  split at hb
  rotate_left
  · exact hb.elim
  split at hb
  rotate_left
  · exact hb.elim
  split at hb
  rotate_left
  · exact hb.elim
  split at hb
  rotate_left
  · exact hb.elim
  split at hb
  rotate_left
  · exact hb.elim
  split at hb
  rotate_left
  · exact hb.elim
  split at hb
  rotate_left
  · exact hb.elim
  exact Good.of_sub hb.2 (H _ _ _ _ _ _ hb.1)
theorem k27_good {A : SV → SMem → Prop} {off : Nat} {n : Nat} {cs : Array Value} {ty : TypeId} {pg : Int} {Q : Int → Int → Int → Int → Array Value → Array Value → Prop} {fs : List SFr} {m : SMem} (H : ∀ i d x y ps ws, Q i d x y ps ws → Good Tryd.prog A 1 (k27_F off n cs ty pg i d x y ps ws) (k27_M off n cs ty pg i d x y ps ws)) (hb : k27_n off n cs ty pg Q fs m) : Good Tryd.prog A 1 fs m := by
  unfold k27_n at hb
  split at hb
  rotate_left
  · exact hb.elim
  split at hb
  rotate_left
  · exact hb.elim
  split at hb
  rotate_left
  · exact hb.elim
  split at hb
  rotate_left
  · exact hb.elim
  split at hb
  rotate_left
  · exact hb.elim
  split at hb
  rotate_left
  · exact hb.elim
  split at hb
  rotate_left
  · exact hb.elim
  split at hb
  rotate_left
  · exact hb.elim
  split at hb
  rotate_left
  · exact hb.elim
  split at hb
  rotate_left
  · exact hb.elim
  exact Good.of_sub hb.2 (H _ _ _ _ _ _ hb.1)
theorem k30_good {A : SV → SMem → Prop} {off : Nat} {n : Nat} {cs : Array Value} {ty : TypeId} {pg : Int} {Q : Int → Int → Int → Int → Array Value → Array Value → Prop} {fs : List SFr} {m : SMem} (H : ∀ i d x y ps ws, Q i d x y ps ws → Good Tryd.prog A 1 (k30_F off n cs ty pg i d x y ps ws) (k30_M off n cs ty pg i d x y ps ws)) (hb : k30_n off n cs ty pg Q fs m) : Good Tryd.prog A 1 fs m := by
  unfold k30_n at hb
  split at hb
  rotate_left
  · exact hb.elim
  split at hb
  rotate_left
  · exact hb.elim
  split at hb
  rotate_left
  · exact hb.elim
  split at hb
  rotate_left
  · exact hb.elim
  split at hb
  rotate_left
  · exact hb.elim
  split at hb
  rotate_left
  · exact hb.elim
  split at hb
  rotate_left
  · exact hb.elim
  split at hb
  rotate_left
  · exact hb.elim
  split at hb
  rotate_left
  · exact hb.elim
  split at hb
  rotate_left
  · exact hb.elim
  exact Good.of_sub hb.2 (H _ _ _ _ _ _ hb.1)
theorem k16_good {A : SV → SMem → Prop} {off : Nat} {n : Nat} {cs : Array Value} {ty : TypeId} {pg : Int} {Q : Int → Int → Int → Int → Array Value → Array Value → Prop} {fs : List SFr} {m : SMem} (H : ∀ i d x y ps ws, Q i d x y ps ws → Good Tryd.prog A 1 (k16_F off n cs ty pg i d x y ps ws) (k16_M off n cs ty pg i d x y ps ws)) (hb : k16_n off n cs ty pg Q fs m) : Good Tryd.prog A 1 fs m := by
  unfold k16_n at hb
  split at hb
  rotate_left
  · exact hb.elim
  split at hb
  rotate_left
  · exact hb.elim
  split at hb
  rotate_left
  · exact hb.elim
  split at hb
  rotate_left
  · exact hb.elim
  split at hb
  rotate_left
  · exact hb.elim
  split at hb
  rotate_left
  · exact hb.elim
  split at hb
  rotate_left
  · exact hb.elim
  split at hb
  rotate_left
  · exact hb.elim
  split at hb
  rotate_left
  · exact hb.elim
  split at hb
  rotate_left
  · exact hb.elim
  exact Good.of_sub hb.2 (H _ _ _ _ _ _ hb.1)
theorem kD_good {A : SV → SMem → Prop} {off : Nat} {n : Nat} {cs : Array Value} {ty : TypeId} {pg : Int} {Q : Int → Int → Int → Int → Int → Array Value → Array Value → Prop} {fs : List SFr} {m : SMem} (H : ∀ i g q e j ps ws, Q i g q e j ps ws → Good Tryd.prog A 1 (kD_F off n cs ty pg i g q e j ps ws) (kD_M off n cs ty pg i g q e j ps ws)) (hb : kD_n off n cs ty pg Q fs m) : Good Tryd.prog A 1 fs m := by
  unfold kD_n at hb
  split at hb
  rotate_left
  · exact hb.elim
  split at hb
  rotate_left
  · exact hb.elim
  split at hb
  rotate_left
  · exact hb.elim
  split at hb
  rotate_left
  · exact hb.elim
  split at hb
  rotate_left
  · exact hb.elim
  split at hb
  rotate_left
  · exact hb.elim
  split at hb
  rotate_left
  · exact hb.elim
  split at hb
  rotate_left
  · exact hb.elim
  split at hb
  rotate_left
  · exact hb.elim
  split at hb
  rotate_left
  · exact hb.elim
  split at hb
  rotate_left
  · exact hb.elim
  exact Good.of_sub hb.2 (H _ _ _ _ _ _ _ hb.1)
theorem kE_good {A : SV → SMem → Prop} {off : Nat} {n : Nat} {cs : Array Value} {ty : TypeId} {pg : Int} {Q : Int → Int → Int → Int → Int → Array Value → Array Value → Prop} {fs : List SFr} {m : SMem} (H : ∀ i g w a b ps ws, Q i g w a b ps ws → Good Tryd.prog A 1 (kE_F off n cs ty pg i g w a b ps ws) (kE_M off n cs ty pg i g w a b ps ws)) (hb : kE_n off n cs ty pg Q fs m) : Good Tryd.prog A 1 fs m := by
  unfold kE_n at hb
  split at hb
  rotate_left
  · exact hb.elim
  split at hb
  rotate_left
  · exact hb.elim
  split at hb
  rotate_left
  · exact hb.elim
  split at hb
  rotate_left
  · exact hb.elim
  split at hb
  rotate_left
  · exact hb.elim
  split at hb
  rotate_left
  · exact hb.elim
  split at hb
  rotate_left
  · exact hb.elim
  split at hb
  rotate_left
  · exact hb.elim
  split at hb
  rotate_left
  · exact hb.elim
  split at hb
  rotate_left
  · exact hb.elim
  exact Good.of_sub hb.2 (H _ _ _ _ _ _ _ hb.1)
theorem kC_good {A : SV → SMem → Prop} {off : Nat} {n : Nat} {cs : Array Value} {ty : TypeId} {pg : Int} {Q : Int → Int → Int → Array Value → Array Value → Prop} {fs : List SFr} {m : SMem} (H : ∀ i x k ps ws, Q i x k ps ws → Good Tryd.prog A 1 (kC_F off n cs ty pg i x k ps ws) (kC_M off n cs ty pg i x k ps ws)) (hb : kC_n off n cs ty pg Q fs m) : Good Tryd.prog A 1 fs m := by
  unfold kC_n at hb
  split at hb
  rotate_left
  · exact hb.elim
  split at hb
  rotate_left
  · exact hb.elim
  split at hb
  rotate_left
  · exact hb.elim
  split at hb
  rotate_left
  · exact hb.elim
  split at hb
  rotate_left
  · exact hb.elim
  split at hb
  rotate_left
  · exact hb.elim
  split at hb
  rotate_left
  · exact hb.elim
  split at hb
  rotate_left
  · exact hb.elim
  exact Good.of_sub hb.2 (H _ _ _ _ _ hb.1)
theorem kG_good {A : SV → SMem → Prop} {off : Nat} {n : Nat} {cs : Array Value} {ty : TypeId} {pg : Int} {Q : Int → Int → Array Value → Array Value → Prop} {fs : List SFr} {m : SMem} (H : ∀ i x ps ws, Q i x ps ws → Good Tryd.prog A 1 (kG_F off n cs ty pg i x ps ws) (kG_M off n cs ty pg i x ps ws)) (hb : kG_n off n cs ty pg Q fs m) : Good Tryd.prog A 1 fs m := by
  unfold kG_n at hb
  split at hb
  rotate_left
  · exact hb.elim
  split at hb
  rotate_left
  · exact hb.elim
  split at hb
  rotate_left
  · exact hb.elim
  split at hb
  rotate_left
  · exact hb.elim
  split at hb
  rotate_left
  · exact hb.elim
  split at hb
  rotate_left
  · exact hb.elim
  split at hb
  rotate_left
  · exact hb.elim
  exact Good.of_sub hb.2 (H _ _ _ _ hb.1)
theorem pA_go {A : SV → SMem → Prop} {off : Nat} {n : Nat} {cs : Array Value} {ty : TypeId} {pg : Int} {i : Int} {ps : Array Value} {ws : Array Value} {Qk21 : Int → Int → Int → Int → Array Value → Array Value → Prop} {Qk24 : Int → Int → Int → Int → Array Value → Array Value → Prop} {Qk27 : Int → Int → Int → Int → Array Value → Array Value → Prop} {Qk30 : Int → Int → Int → Int → Array Value → Array Value → Prop} {Qk16 : Int → Int → Int → Int → Array Value → Array Value → Prop} {fs : List SFr} {m : SMem} (hk21 : ∀ i' d' x' y' ps' ws', Qk21 i' d' x' y' ps' ws' → Good Tryd.prog A 1 (k21_F off n cs ty pg i' d' x' y' ps' ws') (k21_M off n cs ty pg i' d' x' y' ps' ws')) (hk24 : ∀ i' d' x' y' ps' ws', Qk24 i' d' x' y' ps' ws' → Good Tryd.prog A 1 (k24_F off n cs ty pg i' d' x' y' ps' ws') (k24_M off n cs ty pg i' d' x' y' ps' ws')) (hk27 : ∀ i' d' x' y' ps' ws', Qk27 i' d' x' y' ps' ws' → Good Tryd.prog A 1 (k27_F off n cs ty pg i' d' x' y' ps' ws') (k27_M off n cs ty pg i' d' x' y' ps' ws')) (hk30 : ∀ i' d' x' y' ps' ws', Qk30 i' d' x' y' ps' ws' → Good Tryd.prog A 1 (k30_F off n cs ty pg i' d' x' y' ps' ws') (k30_M off n cs ty pg i' d' x' y' ps' ws')) (hk16 : ∀ i' d' x' y' ps' ws', Qk16 i' d' x' y' ps' ws' → Good Tryd.prog A 1 (k16_F off n cs ty pg i' d' x' y' ps' ws') (k16_M off n cs ty pg i' d' x' y' ps' ws')) (hb : pA_x off n cs ty pg i ps ws Qk21 Qk24 Qk27 Qk30 Qk16 fs m) : Good Tryd.prog A 1 fs m := by
  unfold pA_x at hb
  split at hb
  · exact k21_good hk21 hb
  split at hb
  · exact k24_good hk24 hb
  split at hb
  · exact k27_good hk27 hb
  split at hb
  · exact k30_good hk30 hb
  exact k16_good hk16 hb
theorem p21_go {A : SV → SMem → Prop} {off : Nat} {n : Nat} {cs : Array Value} {ty : TypeId} {pg : Int} {i : Int} {d : Int} {x : Int} {y : Int} {ps : Array Value} {ws : Array Value} {QkE : Int → Int → Int → Int → Int → Array Value → Array Value → Prop} {fs : List SFr} {m : SMem} (hkE : ∀ i' g' w' a' b' ps' ws', QkE i' g' w' a' b' ps' ws' → Good Tryd.prog A 1 (kE_F off n cs ty pg i' g' w' a' b' ps' ws') (kE_M off n cs ty pg i' g' w' a' b' ps' ws')) (hb : p21_x off n cs ty pg i d x y ps ws QkE fs m) : Good Tryd.prog A 1 fs m := by
  unfold p21_x at hb
  exact kE_good hkE hb
theorem p24_go {A : SV → SMem → Prop} {off : Nat} {n : Nat} {cs : Array Value} {ty : TypeId} {pg : Int} {i : Int} {d : Int} {x : Int} {y : Int} {ps : Array Value} {ws : Array Value} {QkD : Int → Int → Int → Int → Int → Array Value → Array Value → Prop} {fs : List SFr} {m : SMem} (hkD : ∀ i' g' q' e' j' ps' ws', QkD i' g' q' e' j' ps' ws' → Good Tryd.prog A 1 (kD_F off n cs ty pg i' g' q' e' j' ps' ws') (kD_M off n cs ty pg i' g' q' e' j' ps' ws')) (hb : p24_x off n cs ty pg i d x y ps ws QkD fs m) : Good Tryd.prog A 1 fs m := by
  unfold p24_x at hb
  exact kD_good hkD hb
theorem pD_go {A : SV → SMem → Prop} {off : Nat} {n : Nat} {cs : Array Value} {ty : TypeId} {pg : Int} {i : Int} {g : Int} {q : Int} {e : Int} {j : Int} {ps : Array Value} {ws : Array Value} {QkD : Int → Int → Int → Int → Int → Array Value → Array Value → Prop} {QkE : Int → Int → Int → Int → Int → Array Value → Array Value → Prop} {fs : List SFr} {m : SMem} (hkD : ∀ i' g' q' e' j' ps' ws', QkD i' g' q' e' j' ps' ws' → Good Tryd.prog A 1 (kD_F off n cs ty pg i' g' q' e' j' ps' ws') (kD_M off n cs ty pg i' g' q' e' j' ps' ws')) (hkE : ∀ i' g' w' a' b' ps' ws', QkE i' g' w' a' b' ps' ws' → Good Tryd.prog A 1 (kE_F off n cs ty pg i' g' w' a' b' ps' ws') (kE_M off n cs ty pg i' g' w' a' b' ps' ws')) (hb : pD_x off n cs ty pg i g q e j ps ws QkD QkE fs m) : Good Tryd.prog A 1 fs m := by
  unfold pD_x at hb
  split at hb
  · exact kD_good hkD hb
  exact kE_good hkE hb
theorem p27_go {A : SV → SMem → Prop} {off : Nat} {n : Nat} {cs : Array Value} {ty : TypeId} {pg : Int} {i : Int} {d : Int} {x : Int} {y : Int} {ps : Array Value} {ws : Array Value} {QkE : Int → Int → Int → Int → Int → Array Value → Array Value → Prop} {fs : List SFr} {m : SMem} (hkE : ∀ i' g' w' a' b' ps' ws', QkE i' g' w' a' b' ps' ws' → Good Tryd.prog A 1 (kE_F off n cs ty pg i' g' w' a' b' ps' ws') (kE_M off n cs ty pg i' g' w' a' b' ps' ws')) (hb : p27_x off n cs ty pg i d x y ps ws QkE fs m) : Good Tryd.prog A 1 fs m := by
  unfold p27_x at hb
  exact kE_good hkE hb
theorem p30_go {A : SV → SMem → Prop} {off : Nat} {n : Nat} {cs : Array Value} {ty : TypeId} {pg : Int} {i : Int} {d : Int} {x : Int} {y : Int} {ps : Array Value} {ws : Array Value} {QkE : Int → Int → Int → Int → Int → Array Value → Array Value → Prop} {fs : List SFr} {m : SMem} (hkE : ∀ i' g' w' a' b' ps' ws', QkE i' g' w' a' b' ps' ws' → Good Tryd.prog A 1 (kE_F off n cs ty pg i' g' w' a' b' ps' ws') (kE_M off n cs ty pg i' g' w' a' b' ps' ws')) (hb : p30_x off n cs ty pg i d x y ps ws QkE fs m) : Good Tryd.prog A 1 fs m := by
  unfold p30_x at hb
  exact kE_good hkE hb
theorem p16_go {A : SV → SMem → Prop} {off : Nat} {n : Nat} {cs : Array Value} {ty : TypeId} {pg : Int} {i : Int} {d : Int} {x : Int} {y : Int} {ps : Array Value} {ws : Array Value} {QkE : Int → Int → Int → Int → Int → Array Value → Array Value → Prop} {fs : List SFr} {m : SMem} (hkE : ∀ i' g' w' a' b' ps' ws', QkE i' g' w' a' b' ps' ws' → Good Tryd.prog A 1 (kE_F off n cs ty pg i' g' w' a' b' ps' ws') (kE_M off n cs ty pg i' g' w' a' b' ps' ws')) (hb : p16_x off n cs ty pg i d x y ps ws QkE fs m) : Good Tryd.prog A 1 fs m := by
  unfold p16_x at hb
  exact kE_good hkE hb
theorem pE_go {A : SV → SMem → Prop} {off : Nat} {n : Nat} {cs : Array Value} {ty : TypeId} {pg : Int} {i : Int} {g : Int} {w : Int} {a : Int} {b : Int} {ps : Array Value} {ws : Array Value} {QkC : Int → Int → Int → Array Value → Array Value → Prop} {fs : List SFr} {m : SMem} (hkC : ∀ i' x' k' ps' ws', QkC i' x' k' ps' ws' → Good Tryd.prog A 1 (kC_F off n cs ty pg i' x' k' ps' ws') (kC_M off n cs ty pg i' x' k' ps' ws')) (hb : pE_x off n cs ty pg i g w a b ps ws QkC fs m) : Good Tryd.prog A 1 fs m := by
  unfold pE_x at hb
  exact kC_good hkC hb
theorem pC_go {A : SV → SMem → Prop} {off : Nat} {n : Nat} {cs : Array Value} {ty : TypeId} {pg : Int} {i : Int} {x : Int} {k : Int} {ps : Array Value} {ws : Array Value} {QkC : Int → Int → Int → Array Value → Array Value → Prop} {QkG : Int → Int → Array Value → Array Value → Prop} {fs : List SFr} {m : SMem} (hkC : ∀ i' x' k' ps' ws', QkC i' x' k' ps' ws' → Good Tryd.prog A 1 (kC_F off n cs ty pg i' x' k' ps' ws') (kC_M off n cs ty pg i' x' k' ps' ws')) (hkG : ∀ i' x' ps' ws', QkG i' x' ps' ws' → Good Tryd.prog A 1 (kG_F off n cs ty pg i' x' ps' ws') (kG_M off n cs ty pg i' x' ps' ws')) (hb : pC_x off n cs ty pg i x k ps ws QkC QkG fs m) : Good Tryd.prog A 1 fs m := by
  unfold pC_x at hb
  split at hb
  · exact kC_good hkC hb
  exact kG_good hkG hb
theorem pG_go {A : SV → SMem → Prop} {off : Nat} {n : Nat} {cs : Array Value} {ty : TypeId} {pg : Int} {i : Int} {x : Int} {ps : Array Value} {ws : Array Value} {QkA : Int → Array Value → Array Value → Prop} {fs : List SFr} {m : SMem} (hkA : ∀ i' ps' ws', QkA i' ps' ws' → Good Tryd.prog A 1 (kA_F off n cs ty pg i' ps' ws') (kA_M off n cs ty pg i' ps' ws')) (hb : pG_x off n cs ty pg i x ps ws QkA fs m) : Good Tryd.prog A 1 fs m := by
  unfold pG_x at hb
  exact kA_good hkA hb
end Go.Proofs.YtiblicobfmihdaaDoor
