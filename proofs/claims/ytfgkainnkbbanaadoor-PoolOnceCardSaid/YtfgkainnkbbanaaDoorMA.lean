/- What a table of bytes that the program lays holds, for the symbolic machine; a call that is told of no block. No condition. -/
import Derived.Test.YtfgkainnkbbanaaDoorRows
import Derived.Test.YtfgkainnkbbanaaDoorE1
import Derived.ProofKit
import Derived.LaidMore
import Derived.OpenShut
import Derived.ChangeSame
import Derived.Deep.Slices
import Derived.Deep.Fields
import Derived.Stop.Joined
import Derived.Test.YtfgkainnkbbanaaDoorK15
import Derived.Test.YtfgkainnkbbanaaDoorF1
import Derived.IntWalk
import Derived.Test.YtfgkainnkbbanaaDoorK1
import Derived.Lib.TrailingZeros
import Derived.Test.YtfgkainnkbbanaaDoorK2
import Derived.Test.YtfgkainnkbbanaaDoorK14c
import Derived.Test.YtfgkainnkbbanaaDoorK14b
import Derived.Test.YtfgkainnkbbanaaDoorK23
set_option linter.unusedVariables false
set_option linter.unusedSimpArgs false
namespace Go.Proofs.YtfgkainnkbbanaaDoor
open Go.ChangeShapes Go.WideShapes Go.ChangeAt Go.WideMaps Go.WideElems Go.RowKit

theorem own : ownKnob Tryd.prog.godebug = none := by kernel_rfl
theorem laidOut : laidOutB Tryd.prog = true := by kernel_rfl
theorem gTab : Tryd.prog.globalNamed "math/bits.deBruijn64tab" = some 0 := by kernel_rfl
theorem tTab : (Tryd.prog.globals[0]?).map (·.type) = some 83 := by kernel_rfl
def tabV : List Value := (glTab.headD (0, [])).2
def tabD {H : Type} : List (DataW H) := tabV.map fun | .int k n => .lit (.int k n) | _ => .nil
theorem tabD_eq {H : Type} : (Rows.laid_math_bits_deBruijn64tab : DataW H) = .agg tabD := rfl
theorem tab_byte : ∀ i : Nat, i < 64 → ∃ n, tabV[i]? = some (.int .u8 n) := by
  intro i hi
  have : ∀ i : Fin 64, (match tabV[i.val]? with | some (.int .u8 _) => true | _ => false) = true := by decide +kernel
  have := this ⟨i, hi⟩
  revert this
  generalize tabV[i]? = v
  intro h
  split at h
  · rename_i n; exact ⟨n, rfl⟩
  · cases h
def laidL : List (String × DataW Unit) := [("math/bits.deBruijn64tab", Rows.laid_math_bits_deBruijn64tab)]
/-- The table lies there. -/
theorem tab_lies {W : World} (h : laidMetH Tryd.prog laidL W) : ∃ cs ty fz, W.heap[0]? = some (.cells cs ty fz) ∧ ∀ i : Nat, i < tabV.length → cs[i]? = tabV[i]? := by
  rw [MakeChecks.laidMetH_plain _ _ _ (by kernel_rfl)] at h
  obtain ⟨ps, ⟨g0, t0, cs0, f0, p0, q0, hg0, ht0, hv0, hd0, _, _⟩, _, _⟩ := h
  obtain rfl := Option.some.inj (gTab.symm.trans hg0)
  obtain rfl := Option.some.inj (tTab.symm.trans ht0)
  have hv0' := hv0
  unfold World.var? at hv0
  rw [gTab] at hv0
  simp only [Option.bind_some] at hv0
  split at hv0
  · rename_i cs ty fz hb
    cases hv0
    refine ⟨cs0, ty, fz, hb, ?_⟩
    obtain ⟨xs, m1, rfl, hx1, hlen, hn3, hel⟩ := DataW.trod_array Tryd.underlying83 hd0
    have c5 : Tryd.prog.cellsOf 5 = 1 := by kernel_rfl
    have cT : Tryd.prog.cellsOf 83 = 64 := by kernel_rfl
    rw [cT] at hlen
    have hlen : cs0.size = 64 := by simpa using hlen
    simp only [Prod.mk.injEq, tabD_eq, DataW.agg.injEq] at hx1
    intro i hi
    have hi : i < 64 := hi
    obtain ⟨n, hn⟩ := tab_byte i hi
    have h0 := hel i hi
    have hxi : xs[i]? = some (xs[i]'(by omega)) := List.getElem?_eq_getElem (by omega)
    rw [c5, Nat.mul_one, hxi] at h0
    have hci : cs0.toList[i]? = some (cs0[i]'(by omega)) := by rw [Array.getElem?_toList, Array.getElem?_eq_getElem (by omega)]
    have hdrop : (cs0.toList.drop i).take 1 = [cs0[i]'(by omega)] := by
      rw [List.drop_eq_getElem_cons (by rw [Array.length_toList]; omega)]
      simp
    rw [hdrop] at h0
    obtain ⟨k, e1, e2, _⟩ := DataW.trod_int Tryd.underlying5 h0
    have e3 : (xs.map (·.1))[i]? = (tabD : List (DataW Unit))[i]? := by rw [hx1.1]
    rw [List.getElem?_map, hxi] at e3
    unfold tabD at e3
    rw [List.getElem?_map, hn] at e3
    rw [e2] at e3
    simp only [Option.map_some, Option.some.injEq, DataW.lit.injEq, Lit.int.injEq] at e3
    simp only [List.cons.injEq, and_true] at e1
    rw [← Array.getElem?_toList, hci, e1, hn, e3.2]
  · cases hv0
theorem tab_small {W : World} (h : laidMetH Tryd.prog laidL W) : 0 < W.heap.size := by
  obtain ⟨cs, ty, fz, hb, _⟩ := tab_lies h
  exact (Array.getElem?_eq_some_iff.1 hb).1
/-- The start of a call: no block is known. -/
theorem rel_start {W : World} (h : laidMetH Tryd.prog laidL W) (n : Nat) : Rel W.heap.size (fun _ => False) W (fun _ => none) ⟨n, .nil, []⟩ W :=
  ⟨fun _ _ _ _ _ _ h => by (cases h), fun _ _ h => by (cases h), fun _ _ h => by (cases h), fun i b h => by (have h : (Tr.nil : Tr SBlk).get i = some b := h; rw [Tr.get_nil] at h; cases h), Nat.le_refl _, BelowF.refl _ _ _, fun _ _ h => by (cases h), fun _ _ _ _ _ _ h => by (cases h), fun g cs hg => by
    have e : (g, cs) = (0, tabV) := by
      have : glTab = [(0, tabV)] := rfl
      rw [this] at hg
      simpa using hg
    cases e
    obtain ⟨cs', ty, fz, h1, h2⟩ := tab_lies h
    exact ⟨tab_small h, fun x => x, cs', ty, fz, h1, h2⟩⟩
theorem below_of {n0 : Nat} {w0 w : World} (h : BelowF n0 (fun _ => False) w0 w) : Below n0 w0 w := ⟨h.os, h.tape, h.output, h.size, fun k hk => h.block k hk fun x => x⟩
section
variable {H : Type} {enc : TypeId × Value → H} {P : Program}
theorem post_of_below {f : Func} {s : ChangeSpec} {apart fresh handsOn again : Bool} {W W' : World} {args : Array Value} {v : Value} {ds gs : List (DataW H)} {before pa pv : List MemPlace}
    (hW : DataW.Whole enc P f.params.toList s.vars apart W args.toList ds gs before)
    (hres : ∀ (b : Nat) (sp : Nat → Bool) (hd : Bool), DataW.TrodAll enc P W' b sp hd f.resultTypes.toList (v.resultList f.resultTypes.size) (s.fn H (ds ++ gs)).results [])
    (hargs : ∀ sp : Nat → Bool, (∀ p ∈ before, sp p.block = true) → DataW.TrodAll enc P W' 0 sp true f.params.toList args.toList (s.fn H (ds ++ gs)).args pa)
    (hvars : ∀ sp : Nat → Bool, (∀ p ∈ before, sp p.block = true) → DataW.TrodVars enc P W' sp s.vars (s.fn H (ds ++ gs)).vars pv)
    (hps : before = pa ++ pv) (hb : Below W.heap.size W W')
    (hok : ∀ (j : Nat) (t : TypeId) (r : Value), f.resultTypes[j]? = some t → (v.resultList f.resultTypes.size)[j]? = some r → Value.okWide P W' .any 0 t r) :
    s.post enc P f apart fresh handsOn again W args v W' := by
  have hlt : ∀ p ∈ before, p.block < W.heap.size := fun p hp => hW.lt p hp
  have hold : ∀ p ∈ before, (fun b => decide (b < W.heap.size)) p.block = true := fun p hp => by simpa using hlt p hp
  refine ⟨ds, gs, before, [], pa, pv, hW, hres _ _ _, hargs _ hold, hvars _ hold, World.keptBut_mono (fun p hp => ⟨hp, ?_⟩) (hb.frame (· ∈ before)), fun _ => ?_⟩
  · rw [hps, List.mem_append] at hp
    exact Or.inr hp
  · obtain ⟨_, _, _, _, _, hz, hn⟩ := hW
    refine ⟨hok, _, _, ([] ++ pa) ++ pv, ⟨[] ++ pa, pv, trodAll_append (hargs _ (fun _ _ => rfl)) (hres _ _ _), hvars _ (fun _ _ => rfl), rfl, ?_, ?_⟩, ?_⟩
    · intro b off hp
      have hin : MemPlace.cell b off ∈ before := by rw [hps]; simpa using hp
      rw [hb.frozen (hlt _ hin)]
      exact hz b off hin
    · intro ha
      have := hn ha
      rw [hps] at this
      simpa using this
    · intro p hp _
      rw [hps]
      simpa using hp
end
end Go.Proofs.YtfgkainnkbbanaaDoor
/- Blocks that came in, told to the symbolic machine one by one; slices that came in. No condition. -/
namespace Go.Proofs.YtfgkainnkbbanaaDoor
noncomputable section
open Go.ChangeShapes Go.WideShapes Go.ChangeAt Go.RowKit Go.Deep
theorem sub_get {l : List Value} {a b o : Nat} {v : Value} (h : ((l.drop a).take b)[o]? = some v) : l[a + o]? = some v := by
  rw [List.getElem?_take] at h
  split at h
  · rw [List.getElem?_drop] at h; exact h
  · cases h
theorem sub_one {l : List Value} {a b : Nat} {v : Value} (h : (l.drop a).take b = [v]) : l[a]? = some v := by
  have : ((l.drop a).take b)[0]? = some v := by rw [h]; rfl
  exact sub_get this
section
variable {H : Type} {enc : TypeId × Value → H} {P : Program} {w : World} {base : Nat} {spare : Nat → Bool} {held : Bool}
theorem field_of {t : TypeId} {fs : Array Field} {fuel : Nat} {cs : List Value} {x : DataW H × List MemPlace} (ht : P.underlying t = some (.struct fs)) (h : DataW.trod enc P w base spare held fuel t cs = some x)
    (i : Nat) {f : Field} (hf : fs[i]? = some f) : ∃ n y, DataW.trod enc P w base spare held n f.type ((cs.drop f.offset).take (P.cellsOf f.type)) = some y := by
  obtain ⟨ys, n, _, _, _, hyl, hg⟩ := DataW.trod_struct ht h
  have hlt : i < fs.size := (Array.getElem?_eq_some_iff.1 hf).1
  have hys : ys[i]? = some (ys[i]'(by omega)) := List.getElem?_eq_getElem (by omega)
  exact ⟨n, _, (hg i f hf).trans hys⟩
theorem add_none (b off n : Nat) : (⟨b, off, none⟩ : Addr).add n = ⟨b, off + n, none⟩ := by
  unfold Addr.add
  split
  · rename_i e; subst e; rfl
  · rfl
/-- A slice that came in: where it lies, and each element as it reads. -/
theorem slice_cells {t e : TypeId} {base' C : Nat} {fuel : Nat} {A : Option Addr} {len cap : Nat} {x : DataW H × List MemPlace} (ht : P.underlying t = some (.slice e)) (hC : P.cellsOf e = C)
    (hok : Value.okWide P w .any base t (.slice A len cap)) (h : DataW.trod enc P w base' (fun _ => true) held fuel t [.slice A len cap] = some x) :
    (A = none ∧ len = 0 ∧ cap = 0) ∨ ∃ b off cs ty fz, A = some ⟨b, off, none⟩ ∧ len ≤ cap ∧ cap ≤ maxLen ∧ w.heap[b]? = some (.cells cs ty fz) ∧
      ∀ j, j < len → ∃ n y, DataW.trod enc P w base' (fun _ => true) held n e ((cs.toList.drop (off + j * C)).take C) = some y := by
  rcases open_slice ht h with ⟨hcs, hx⟩ | ⟨a, len', cap', m, n, D, Pl, hcs, _, hl, hmx, hm, hx, hi⟩
  · simp at hcs
    exact .inl hcs
  · simp at hcs
    obtain ⟨rfl, rfl, rfl⟩ := hcs
    simp at hm
    subst hm
    obtain ⟨b, off, spot⟩ := a
    simp only [Value.okWide, ht, Cell.okWide, Cell.ok] at hok
    obtain ⟨_, _, _, hs, _, _, hsh, _⟩ := hok
    have hs : spot = none := hs
    subst hs
    cases ho : w.heap[b]? with
    | none => simp [World.shape?, ho] at hsh
    | some o =>
      have hcells : ∃ cs ty fz, o = .cells cs ty fz := by
        cases o <;> first | exact ⟨_, _, _, rfl⟩ | simp [World.shape?, ho] at hsh
      obtain ⟨cs, ty, fz, rfl⟩ := hcells
      refine .inr ⟨b, off, cs, ty, fz, rfl, hl, hmx, ho, fun j hj => ?_⟩
      obtain ⟨cs', hc, ht'⟩ := hi j (by omega)
      rw [hC] at hc
      obtain ⟨_, hcl, hat⟩ := World.cells?_some hc
      refine ⟨n, (D j, Pl j), ?_⟩
      rw [← ht']
      congr 1
      apply List.ext_getElem?
      intro i
      rw [List.getElem?_take]
      by_cases hi' : i < C
      · rw [if_pos hi', ← hat i hi', add_none, add_none]
        simp [World.cell?, ho, Nat.add_assoc]
      · rw [if_neg hi', List.getElem?_eq_none (by omega)]
end

/-- Nothing of what is known may be written. -/
def OnlyRead (m : SMem) : Prop := m.xs = [] ∧ ∀ i b, getB m.bl i = some b → b.wr = false
theorem rel_add {W : World} {R : Ren} {m : SMem} (hR : Rel W.heap.size (fun _ => False) W R m W) (ho : OnlyRead m) {i b : Nat} {cs : Array Value} {ty : TypeId} {fz : Nat × Nat} (hi : i < m.next) (hn : R i = none) (hb : W.heap[b]? = some (.cells cs ty fz)) :
    Rel W.heap.size (fun _ => False) W (fun j => if j = i then some ⟨b, cs.size⟩ else R j) ⟨m.next, m.bl.set i (some ⟨.raw cs, ty, false⟩), m.xs⟩ W ∧ OnlyRead ⟨m.next, m.bl.set i (some ⟨.raw cs, ty, false⟩), m.xs⟩ := by
  have ho' : OnlyRead ⟨m.next, m.bl.set i (some ⟨.raw cs, ty, false⟩), m.xs⟩ := by
    refine ⟨ho.1, fun j c hc => ?_⟩
    have hc : (m.bl.set i (some ⟨.raw cs, ty, false⟩)).get j = some c := hc
    rw [Tr.get_set] at hc
    split at hc
    · cases hc; rfl
    · exact ho.2 j c hc
  have hlt : b < W.heap.size := (Array.getElem?_eq_some_iff.1 hb).1
  refine ⟨⟨fun j k g h x y h1 h2 h3 h4 h5 h6 => ?_, fun j g h => ?_, fun j g h => ?_, fun j c hc => ?_, Nat.le_refl _, BelowF.refl _ _ _, fun j x hx => ?_, fun j k g h x y _ _ _ h4 => ?_, fun g cs hg => ?_⟩, ho'⟩
  · have e1 := ho'.2 _ _ h4
    have e2 := ho'.2 _ _ h5
    rw [e1, e2] at h6
    rcases h6 with h6 | h6 <;> cases h6
  · split at h
    · cases h; exact hlt
    · exact hR.lt j g h
  · split at h
    · rename_i e; rw [e]; exact hi
    · exact hR.nx j g h
  · have hc : (m.bl.set i (some ⟨.raw cs, ty, false⟩)).get j = some c := hc
    rw [Tr.get_set] at hc
    split at hc
    · rename_i e
      cases hc
      exact ⟨⟨b, cs.size⟩, cs, fz, by simp [e], hb, rfl, rfl, fun h => by cases h⟩
    · rename_i e
      obtain ⟨g, cs', fz', k1, k2, k3, k4, k5⟩ := hR.blk j c hc
      refine ⟨g, cs', fz', by simp [e, k1], k2, k3, SA.monoM (fun l g hl => ?_) k4, k5⟩
      by_cases el : l = i
      · rw [el, hn] at hl; cases hl
      · rw [if_neg el]; exact hl
  · have hx : getX m.xs j = some x := hx
    rw [ho.1] at hx; cases hx
  · have h4 : getX m.xs j = some x := h4
    rw [ho.1] at h4; cases h4
  · exact hR.gl g cs hg
theorem onlyRead_nil (n : Nat) : OnlyRead ⟨n, .nil, []⟩ := ⟨rfl, fun i b h => by
  have h : (Tr.nil : Tr SBlk).get i = some b := h
  rw [Tr.get_nil] at h; cases h⟩
theorem isInt_of {k : IntKind} {cs : Array Value} {i : Nat} {n : Int} (h : cs.toList[i]? = some (.int k n)) : IsInt k cs i := by
  rw [Array.getElem?_toList] at h
  unfold IsInt intAt
  rw [h]
end
end Go.Proofs.YtfgkainnkbbanaaDoor
/- Of pool: the closed test. No condition. -/
namespace Go.Proofs.YtfgkainnkbbanaaDoor
set_option maxRecDepth 1000000 in
theorem wakes_fast : (runC E0 200000 0 [callFr 6 Tryd.f6.ntmps [] (Tryd.f6.body.getD .skip)] ⟨0, .nil, []⟩).allTrue = true := by kernel_rfl
theorem wakes_true : (run E0 200000 0 [callFr 6 Tryd.f6.ntmps [] (Tryd.f6.body.getD .skip)] ⟨0, .nil, []⟩).allTrue = true := by
  rw [← runC_eq]
  exact wakes_fast
theorem wakes_fn : E0.fn 6 = some Tryd.f6 := by kernel_rfl
theorem wakes_body : Tryd.f6.body = some (Tryd.f6.body.getD .skip) := by kernel_rfl
theorem wakes_con (m : SMem) : Con E0 6 [] m (needs [] (.ret (sB (.l true)) m)) :=
  Con.pure E0_ok wakes_fn wakes_body (by kernel_rfl) (by kernel_rfl) fun _ => good_true E0_ok wakes_true
end Go.Proofs.YtfgkainnkbbanaaDoor
/- Of runs: contracts of the functions of numbers. No condition. -/
namespace Go.Proofs.YtfgkainnkbbanaaDoor
section
variable (p n : Int)
def mayB : Bool := decide (1 ≤ n ∧ 0 ≤ p ∧ p < 64 ∧ n ≤ 64 - p)
theorem may_run (b : Bool) : (run E0 1000 0 [callFr 42 Tryd.f42.ntmps [i64 (.o p), i64 (.o n)] (Tryd.f42.body.getD .skip)] ⟨0, .nil, []⟩).vc (retOk 0 [] (sB (.o b)) ⟨0, .nil, []⟩) (fun _ _ => False) =
    (((decide (n ≥ 1) == true) = true →
        ((decide (p ≥ 0) == true) = true →
            ((decide (p < 64) == true) = true → b = decide (n ≤ IntKind.i64.wrap (64 - p)) ∧ True) ∧
              ((decide (p < 64) == true) = false → b = false ∧ True)) ∧
          ((decide (p ≥ 0) == true) = false → b = false ∧ True)) ∧
      ((decide (n ≥ 1) == true) = false → b = false ∧ True)) := by kernel_rfl
theorem may_fn : E0.fn 42 = some Tryd.f42 := by kernel_rfl
theorem may_body : Tryd.f42.body = some (Tryd.f42.body.getD .skip) := by kernel_rfl
theorem may_con (m : SMem) : Con E0 42 [i64 (.o p), i64 (.o n)] m (needs [] (.ret (sB (.o (mayB p n))) m)) := by
  refine Con.pure E0_ok may_fn may_body (by kernel_rfl) (by kernel_rfl) fun _ => ?_
  have hw : 0 ≤ p → p < 64 → IntKind.i64.wrap (64 - p) = 64 - p := fun h1 h2 => by
    exact Go.IntWalk.i64_in _ (by omega)
  refine (Good.ret [] (run_vc E0_ok 1000 (may_run p n (mayB p n)) ?_ (fun s m h => h) fun _ _ h => h.elim)).mono fun _ _ h => h.1
  unfold mayB
  by_cases h1 : n ≥ 1 <;> by_cases h2 : p ≥ 0 <;> by_cases h3 : p < 64 <;> simp [h1, h2, h3] <;> first | (rw [hw h2 h3]; omega) | omega | skip
def spanI : Int := IntKind.u64.wrap (Int.fdiv 18446744073709551615 (2 ^ min (IntKind.i64.wrap (64 - n)).toNat 64) * 2 ^ min p.toNat 64)
theorem span_run (x : Int) : (run E0 1000 0 [callFr 44 Tryd.f44.ntmps [i64 (.o p), i64 (.o n)] (Tryd.f44.body.getD .skip)] ⟨0, .nil, []⟩).vc (retOk 0 [] (.s (.c (.f (.int .u64 (.o x))))) ⟨0, .nil, []⟩) (fun _ _ => False) =
    ((0 ≤ IntKind.i64.wrap (64 - n) ∧ True) ∧ (0 ≤ p ∧ True) ∧ x = spanI p n ∧ True) := by kernel_rfl
theorem span_fn : E0.fn 44 = some Tryd.f44 := by kernel_rfl
theorem span_body : Tryd.f44.body = some (Tryd.f44.body.getD .skip) := by kernel_rfl
theorem span_con (m : SMem) : Con E0 44 [i64 (.o p), i64 (.o n)] m (needs [0 ≤ IntKind.i64.wrap (64 - n), 0 ≤ p] (.ret (.s (.c (.f (.int .u64 (.o (spanI p n)))))) m)) := by
  refine Con.pure E0_ok span_fn span_body (by kernel_rfl) (by kernel_rfl) fun hq => ?_
  refine (Good.ret [] (run_vc E0_ok 1000 (span_run p n (spanI p n)) ?_ (fun s m h => h) fun _ _ h => h.elim)).mono fun _ _ h => h.1
  exact ⟨⟨hq _ (by simp), trivial⟩, ⟨hq _ (by simp), trivial⟩, rfl, trivial⟩
end
end Go.Proofs.YtfgkainnkbbanaaDoor
/- Of runs: the functions of math/bits, as propositions. No condition. -/
namespace Go.Proofs.YtfgkainnkbbanaaDoor
set_option maxRecDepth 100000
theorem tz_run (p x : Int) : (run E0 1000 0 [callFr 48 Tryd.f48.ntmps [.s (.c (.f (.int .u64 (.o p))))] (Tryd.f48.body.getD .skip)] ⟨0, .nil, []⟩).vc (retOk 0 [] (i64 (.o x)) ⟨0, .nil, []⟩) (fun _ _ => False) =
    (((p == (0 : Int)) = true → x = (64 : Int) ∧ True) ∧ ((p == (0 : Int)) = false → (((0 : Int) ≤ ari BinOp.shr IntKind.u64 (ari BinOp.mul IntKind.u64 (ari BinOp.and IntKind.u64 p (ari BinOp.sub IntKind.u64 (0 : Int) p)) (285870213051353865 : Int)) (58 : Int) ∧ ari BinOp.shr IntKind.u64 (ari BinOp.mul IntKind.u64 (ari BinOp.and IntKind.u64 p (ari BinOp.sub IntKind.u64 (0 : Int) p)) (285870213051353865 : Int)) (58 : Int) < (64 : Int)) ∧ True) ∧ (IsInt IntKind.u8 #[Value.int IntKind.u8 (0 : Int), Value.int IntKind.u8 (1 : Int), Value.int IntKind.u8 (56 : Int), Value.int IntKind.u8 (2 : Int), Value.int IntKind.u8 (57 : Int), Value.int IntKind.u8 (49 : Int), Value.int IntKind.u8 (28 : Int), Value.int IntKind.u8 (3 : Int), Value.int IntKind.u8 (61 : Int), Value.int IntKind.u8 (58 : Int), Value.int IntKind.u8 (42 : Int), Value.int IntKind.u8 (50 : Int), Value.int IntKind.u8 (38 : Int), Value.int IntKind.u8 (29 : Int), Value.int IntKind.u8 (17 : Int), Value.int IntKind.u8 (4 : Int), Value.int IntKind.u8 (62 : Int), Value.int IntKind.u8 (47 : Int), Value.int IntKind.u8 (59 : Int), Value.int IntKind.u8 (36 : Int), Value.int IntKind.u8 (45 : Int), Value.int IntKind.u8 (43 : Int), Value.int IntKind.u8 (51 : Int), Value.int IntKind.u8 (22 : Int), Value.int IntKind.u8 (53 : Int), Value.int IntKind.u8 (39 : Int), Value.int IntKind.u8 (33 : Int), Value.int IntKind.u8 (30 : Int), Value.int IntKind.u8 (24 : Int), Value.int IntKind.u8 (18 : Int), Value.int IntKind.u8 (12 : Int), Value.int IntKind.u8 (5 : Int), Value.int IntKind.u8 (63 : Int), Value.int IntKind.u8 (55 : Int), Value.int IntKind.u8 (48 : Int), Value.int IntKind.u8 (27 : Int), Value.int IntKind.u8 (60 : Int), Value.int IntKind.u8 (41 : Int), Value.int IntKind.u8 (37 : Int), Value.int IntKind.u8 (16 : Int), Value.int IntKind.u8 (46 : Int), Value.int IntKind.u8 (35 : Int), Value.int IntKind.u8 (44 : Int), Value.int IntKind.u8 (21 : Int), Value.int IntKind.u8 (52 : Int), Value.int IntKind.u8 (32 : Int), Value.int IntKind.u8 (23 : Int), Value.int IntKind.u8 (11 : Int), Value.int IntKind.u8 (54 : Int), Value.int IntKind.u8 (26 : Int), Value.int IntKind.u8 (40 : Int), Value.int IntKind.u8 (15 : Int), Value.int IntKind.u8 (34 : Int), Value.int IntKind.u8 (20 : Int), Value.int IntKind.u8 (31 : Int), Value.int IntKind.u8 (10 : Int), Value.int IntKind.u8 (25 : Int), Value.int IntKind.u8 (14 : Int), Value.int IntKind.u8 (19 : Int), Value.int IntKind.u8 (9 : Int), Value.int IntKind.u8 (13 : Int), Value.int IntKind.u8 (8 : Int), Value.int IntKind.u8 (7 : Int), Value.int IntKind.u8 (6 : Int)] ((0 : Nat) + Int.toNat (ari BinOp.shr IntKind.u64 (ari BinOp.mul IntKind.u64 (ari BinOp.and IntKind.u64 p (ari BinOp.sub IntKind.u64 (0 : Int) p)) (285870213051353865 : Int)) (58 : Int)) * 1) ∧ True) ∧ x = IntKind.wrap IntKind.i64 (intAt #[Value.int IntKind.u8 (0 : Int), Value.int IntKind.u8 (1 : Int), Value.int IntKind.u8 (56 : Int), Value.int IntKind.u8 (2 : Int), Value.int IntKind.u8 (57 : Int), Value.int IntKind.u8 (49 : Int), Value.int IntKind.u8 (28 : Int), Value.int IntKind.u8 (3 : Int), Value.int IntKind.u8 (61 : Int), Value.int IntKind.u8 (58 : Int), Value.int IntKind.u8 (42 : Int), Value.int IntKind.u8 (50 : Int), Value.int IntKind.u8 (38 : Int), Value.int IntKind.u8 (29 : Int), Value.int IntKind.u8 (17 : Int), Value.int IntKind.u8 (4 : Int), Value.int IntKind.u8 (62 : Int), Value.int IntKind.u8 (47 : Int), Value.int IntKind.u8 (59 : Int), Value.int IntKind.u8 (36 : Int), Value.int IntKind.u8 (45 : Int), Value.int IntKind.u8 (43 : Int), Value.int IntKind.u8 (51 : Int), Value.int IntKind.u8 (22 : Int), Value.int IntKind.u8 (53 : Int), Value.int IntKind.u8 (39 : Int), Value.int IntKind.u8 (33 : Int), Value.int IntKind.u8 (30 : Int), Value.int IntKind.u8 (24 : Int), Value.int IntKind.u8 (18 : Int), Value.int IntKind.u8 (12 : Int), Value.int IntKind.u8 (5 : Int), Value.int IntKind.u8 (63 : Int), Value.int IntKind.u8 (55 : Int), Value.int IntKind.u8 (48 : Int), Value.int IntKind.u8 (27 : Int), Value.int IntKind.u8 (60 : Int), Value.int IntKind.u8 (41 : Int), Value.int IntKind.u8 (37 : Int), Value.int IntKind.u8 (16 : Int), Value.int IntKind.u8 (46 : Int), Value.int IntKind.u8 (35 : Int), Value.int IntKind.u8 (44 : Int), Value.int IntKind.u8 (21 : Int), Value.int IntKind.u8 (52 : Int), Value.int IntKind.u8 (32 : Int), Value.int IntKind.u8 (23 : Int), Value.int IntKind.u8 (11 : Int), Value.int IntKind.u8 (54 : Int), Value.int IntKind.u8 (26 : Int), Value.int IntKind.u8 (40 : Int), Value.int IntKind.u8 (15 : Int), Value.int IntKind.u8 (34 : Int), Value.int IntKind.u8 (20 : Int), Value.int IntKind.u8 (31 : Int), Value.int IntKind.u8 (10 : Int), Value.int IntKind.u8 (25 : Int), Value.int IntKind.u8 (14 : Int), Value.int IntKind.u8 (19 : Int), Value.int IntKind.u8 (9 : Int), Value.int IntKind.u8 (13 : Int), Value.int IntKind.u8 (8 : Int), Value.int IntKind.u8 (7 : Int), Value.int IntKind.u8 (6 : Int)] ((0 : Nat) + Int.toNat (ari BinOp.shr IntKind.u64 (ari BinOp.mul IntKind.u64 (ari BinOp.and IntKind.u64 p (ari BinOp.sub IntKind.u64 (0 : Int) p)) (285870213051353865 : Int)) (58 : Int)) * 1)) ∧ True)) := by kernel_rfl
end Go.Proofs.YtfgkainnkbbanaaDoor
/- Numbers of 64 bits: what the operations of whole numbers make of them. No condition. -/
namespace Go.Proofs.YtfgkainnkbbanaaDoor
/-- A word, as a whole number. -/
def uw (X : BitVec 64) : Int := (X.toNat : Int)
theorem wrap_u64 (n : Int) : IntKind.u64.wrap n = n % 18446744073709551616 := rfl
theorem uw_range (X : BitVec 64) : 0 ≤ uw X ∧ uw X < 18446744073709551616 := by
  have := X.isLt
  unfold uw
  omega
theorem ofInt_uw (X : BitVec 64) : BitVec.ofInt 64 (uw X) = X := by
  unfold uw
  rw [BitVec.ofInt_natCast, BitVec.ofNat_toNat, BitVec.setWidth_eq]
theorem wrap_uw (X : BitVec 64) : IntKind.u64.wrap (uw X) = uw X := by
  rw [wrap_u64]
  have := uw_range X
  omega
theorem wrap_toNat (X : BitVec 64) : IntKind.u64.wrap (X.toNat : Int) = uw X := wrap_uw X
theorem wrap_ofInt (n : Int) : IntKind.u64.wrap n = uw (BitVec.ofInt 64 n) := by
  unfold uw
  rw [wrap_u64, BitVec.toNat_ofInt]
  have : 0 ≤ n % (2 ^ 64 : Nat) := Int.emod_nonneg _ (by decide)
  rw [Int.toNat_of_nonneg this]
  rfl
theorem uw_inj {X Y : BitVec 64} : uw X = uw Y ↔ X = Y := by
  unfold uw
  constructor
  · intro h
    exact BitVec.eq_of_toNat_eq (by omega)
  · intro h; rw [h]
theorem uw_and (X Y : BitVec 64) : IntKind.u64.wrap ((BitVec.ofInt 64 (uw X) &&& BitVec.ofInt 64 (uw Y)).toNat : Int) = uw (X &&& Y) := by rw [ofInt_uw, ofInt_uw, wrap_toNat]
theorem uw_or (X Y : BitVec 64) : IntKind.u64.wrap ((BitVec.ofInt 64 (uw X) ||| BitVec.ofInt 64 (uw Y)).toNat : Int) = uw (X ||| Y) := by rw [ofInt_uw, ofInt_uw, wrap_toNat]
theorem uw_andNot (X Y : BitVec 64) : IntKind.u64.wrap ((BitVec.ofInt 64 (uw X) &&& ~~~ BitVec.ofInt 64 (uw Y)).toNat : Int) = uw (X &&& ~~~ Y) := by rw [ofInt_uw, ofInt_uw, wrap_toNat]
theorem uw_not (X : BitVec 64) : IntKind.u64.wrap ((BitVec.ofInt 64 18446744073709551615 ^^^ BitVec.ofInt 64 (uw X)).toNat : Int) = uw (~~~ X) := by
  rw [ofInt_uw, wrap_toNat]
  have : BitVec.ofInt 64 18446744073709551615 = BitVec.allOnes 64 := by decide
  rw [this, BitVec.allOnes_xor]
theorem uw_mul (X Y : BitVec 64) : IntKind.u64.wrap (uw X * uw Y) = uw (X * Y) := by
  unfold uw
  rw [wrap_u64, BitVec.toNat_mul]
  omega
theorem uw_neg (X : BitVec 64) : IntKind.u64.wrap (0 - uw X) = uw (- X) := by
  have h := X.isLt
  unfold uw
  rw [wrap_u64, BitVec.toNat_neg]
  omega
theorem uw_shl (X : BitVec 64) (p : Nat) : IntKind.u64.wrap (uw X * 2 ^ min p 64) = uw (X <<< p) := by
  unfold uw
  rw [wrap_u64, BitVec.toNat_shiftLeft, Nat.shiftLeft_eq]
  by_cases h : p ≤ 64
  · rw [Nat.min_eq_left h]
    rw [Int.natCast_emod, Int.natCast_mul, Int.natCast_pow]
    rfl
  · rw [Nat.min_eq_right (by omega)]
    have e : 2 ^ p = 2 ^ 64 * 2 ^ (p - 64) := by rw [← Nat.pow_add]; congr 1; omega
    rw [e, ← Nat.mul_assoc, Nat.mul_comm X.toNat, Nat.mul_assoc, Nat.mul_mod_right]
    have : ((2 : Int) ^ 64) = 18446744073709551616 := by decide
    rw [this]
    simp
theorem uw_shr (X : BitVec 64) (p : Nat) : Int.fdiv (uw X) (2 ^ min p 64) = uw (X >>> p) := by
  unfold uw
  rw [BitVec.toNat_ushiftRight, Nat.shiftRight_eq_div_pow]
  have e2 : ∀ k : Nat, ((2 : Int) ^ k) = ((2 ^ k : Nat) : Int) := fun k => by rw [Int.natCast_pow]; rfl
  rw [e2, Int.fdiv_eq_ediv_of_nonneg _ (Int.natCast_nonneg _), ← Int.natCast_ediv]
  by_cases h : p ≤ 64
  · rw [Nat.min_eq_left h]
  · rw [Nat.min_eq_right (by omega)]
    have h1 : X.toNat / 2 ^ 64 = 0 := Nat.div_eq_of_lt X.isLt
    have h2 : X.toNat / 2 ^ p = 0 := Nat.div_eq_of_lt (Nat.lt_of_lt_of_le X.isLt (Nat.pow_le_pow_right (by decide) (by omega)))
    rw [h1, h2]
theorem uw_zero_iff (X : BitVec 64) : (uw X == 0) = decide (X = 0#64) := by
  have : (uw X = 0) ↔ X = 0#64 := by rw [← uw_inj]; rfl
  rw [Bool.eq_iff_iff, beq_iff_eq, decide_eq_true_eq, this]
/-- A known number. -/
theorem uw_lit (n : Nat) (h : n < 18446744073709551616) : (n : Int) = uw (BitVec.ofNat 64 n) := by
  unfold uw
  rw [BitVec.toNat_ofNat]
  omega
end Go.Proofs.YtfgkainnkbbanaaDoor
/- The lowest bit of a word, as math/bits finds it. No condition. -/
namespace Go.Proofs.YtfgkainnkbbanaaDoor
/-- The lowest bit's place; 64: there is none. -/
def tz (X : BitVec 64) : Nat := X.ctz.toNat
theorem tz_zero : tz 0#64 = 64 := by decide +kernel
theorem tz_lt {X : BitVec 64} (h : X ≠ 0#64) : tz X < 64 := by
  rcases Nat.lt_or_ge (tz X) 64 with h1 | h1
  · exact h1
  · have : X.getLsbD (tz X) = true := BitVec.getLsbD_true_ctz_of_ne_zero h
    rw [BitVec.getLsbD_of_ge _ _ h1] at this
    cases this
theorem tz_le (X : BitVec 64) : tz X ≤ 64 := by
  by_cases h : X = 0#64
  · subst h; rw [tz_zero]; exact Nat.le_refl _
  · exact Nat.le_of_lt (tz_lt h)
theorem tz_bit {X : BitVec 64} (h : X ≠ 0#64) : X.getLsbD (tz X) = true := BitVec.getLsbD_true_ctz_of_ne_zero h
theorem tz_below {X : BitVec 64} {i : Nat} (h : i < tz X) : X.getLsbD i = false := BitVec.getLsbD_false_of_lt_ctz h
theorem tz_unique {X : BitVec 64} {k : Nat} (h1 : X.getLsbD k = true) (h2 : ∀ i, i < k → X.getLsbD i = false) : tz X = k := by
  have hne : X ≠ 0#64 := by
    intro h; subst h; simp at h1
  rcases Nat.lt_trichotomy (tz X) k with h | h | h
  · have := h2 _ h
    rw [tz_bit hne] at this
    cases this
  · exact h
  · have := tz_below h
    rw [h1] at this
    cases this
theorem low_bit {X : BitVec 64} (h : X ≠ 0#64) : X &&& (-X) = BitVec.twoPow 64 (tz X) := by
  have h0 : X.toNat ≠ 0 := fun e => h (BitVec.eq_of_toNat_eq (by simpa using e))
  obtain ⟨h1, h2⟩ := Go.Lib.lowest_bit 64 X.toNat h0 X.isLt
  have e : X &&& (-X) = BitVec.twoPow 64 (Go.Lib.ctz 64 X.toNat) := by
    apply BitVec.eq_of_toNat_eq
    have e1 : (-X).toNat = 2 ^ 64 - X.toNat := by
      rw [BitVec.toNat_neg, Nat.mod_eq_of_lt]
      have := X.isLt
      omega
    rw [BitVec.toNat_and, e1, h1, BitVec.toNat_twoPow, Nat.mod_eq_of_lt]
    exact Nat.pow_lt_pow_right (by decide) h2
  have key : ∀ i, (X &&& (-X)).getLsbD i = decide (i = Go.Lib.ctz 64 X.toNat) := by
    intro i
    rw [e, BitVec.getLsbD_twoPow]
    by_cases hi : i = Go.Lib.ctz 64 X.toNat
    · subst hi; simp [h2]
    · have : ¬ Go.Lib.ctz 64 X.toNat = i := fun x => hi x.symm
      simp [hi, this]
  obtain ⟨m, hm, _⟩ := Go.Lib.ctzFrom_spec 64 X.toNat (by omega) X.isLt
  have hc : Go.Lib.ctz 64 X.toNat = Go.Lib.ctzFrom 64 X.toNat := by simp [Go.Lib.ctz, h0]
  rw [e]
  congr 1
  refine (tz_unique ?_ fun i hi => ?_).symm
  · have := key (Go.Lib.ctz 64 X.toNat)
    rw [BitVec.getLsbD_and] at this
    simp at this
    exact this.1
  · unfold BitVec.getLsbD
    rw [hc] at hi
    rw [hm, Nat.mul_comm, Nat.testBit_mul_two_pow]
    simp
    omega
/-- The table's answer. -/
def deB : List Nat := Go.Lib.deBruijn64tab
theorem deB_at (k : Nat) (h : k < 64) : ((BitVec.twoPow 64 k * 285870213051353865#64) >>> 58).toNat < 64 ∧ deB.getD ((BitVec.twoPow 64 k * 285870213051353865#64) >>> 58).toNat 0 = k := by
  have := Go.Lib.deBruijn64_at k h
  have e : ((BitVec.twoPow 64 k * 285870213051353865#64) >>> 58).toNat = 2 ^ k * 285870213051353865 % 18446744073709551616 / 288230376151711744 := by
    rw [BitVec.toNat_ushiftRight, BitVec.toNat_mul, BitVec.toNat_twoPow, Nat.shiftRight_eq_div_pow, Nat.mod_eq_of_lt (Nat.pow_lt_pow_right (by decide) h)]
    rfl
  rw [e]
  exact this
theorem tz_at {X : BitVec 64} (h : X ≠ 0#64) : (((X &&& (-X)) * 285870213051353865#64) >>> 58).toNat < 64 ∧ deB.getD (((X &&& (-X)) * 285870213051353865#64) >>> 58).toNat 0 = tz X := by
  rw [low_bit h]
  exact deB_at _ (tz_lt h)
end Go.Proofs.YtfgkainnkbbanaaDoor
/- Operations of words, as the conditions name them. No condition. -/
namespace Go.Proofs.YtfgkainnkbbanaaDoor
theorem ari_uw_and (X Y : BitVec 64) : ari .and .u64 (uw X) (uw Y) = uw (X &&& Y) := uw_and X Y
theorem ari_uw_or (X Y : BitVec 64) : ari .or .u64 (uw X) (uw Y) = uw (X ||| Y) := uw_or X Y
theorem ari_uw_andNot (X Y : BitVec 64) : ari .andNot .u64 (uw X) (uw Y) = uw (X &&& ~~~ Y) := uw_andNot X Y
theorem ari_uw_mul (X Y : BitVec 64) : ari .mul .u64 (uw X) (uw Y) = uw (X * Y) := uw_mul X Y
theorem ari_uw_neg (X : BitVec 64) : ari .sub .u64 0 (uw X) = uw (- X) := uw_neg X
theorem ari_uw_not (X : BitVec 64) : ari .xor .u64 18446744073709551615 (uw X) = uw (~~~ X) := uw_not X
theorem ari_uw_add (X Y : BitVec 64) : ari .add .u64 (uw X) (uw Y) = uw (X + Y) := by
  rw [ari_add, wrap_u64]
  unfold uw
  rw [BitVec.toNat_add]
  omega
theorem ari_uw_shl (X : BitVec 64) (p : Int) : ari .shl .u64 (uw X) p = uw (X <<< p.toNat) := uw_shl X p.toNat
theorem ari_uw_shr (X : BitVec 64) (p : Int) : ari .shr .u64 (uw X) p = uw (X >>> p.toNat) := uw_shr X p.toNat
theorem uw_toNat (X : BitVec 64) : (uw X).toNat = X.toNat := Int.toNat_natCast _
def tabL : List Value := (glTab.headD (0, [])).2
def tabOk (i : Nat) : Bool := match tabL[i]? with | some (.int .u8 n) => n == (deB.getD i 0 : Nat) | _ => false
theorem tab_all : ∀ i : Fin 64, tabOk i.val = true := by decide +kernel
theorem tab_at {i : Nat} (h : i < 64) : IsInt .u8 tabL.toArray i ∧ intAt tabL.toArray i = (deB.getD i 0 : Nat) := by
  have := tab_all ⟨i, h⟩
  unfold tabOk at this
  dsimp only at this
  split at this
  · rename_i n hn
    have e : intAt tabL.toArray i = n := by
      unfold intAt
      rw [List.getElem?_toArray, hn]
    have hn' : n = (deB.getD i 0 : Nat) := by simpa using this
    refine ⟨?_, e.trans hn'⟩
    unfold IsInt
    rw [e, List.getElem?_toArray, hn]
  · cases this
end Go.Proofs.YtfgkainnkbbanaaDoor
/- Of runs: the lowest bit: its contract. No condition. -/
namespace Go.Proofs.YtfgkainnkbbanaaDoor
def u64S (p : Int) : SV := .s (.c (.f (.int .u64 (.o p))))
theorem tz_fn : E0.fn 48 = some Tryd.f48 := by kernel_rfl
theorem tz_body : Tryd.f48.body = some (Tryd.f48.body.getD .skip) := by kernel_rfl
def tzI (p : Int) : Int := (tz (BitVec.ofInt 64 p) : Nat)
theorem tzI_uw (X : BitVec 64) : tzI (uw X) = (tz X : Nat) := by unfold tzI; rw [ofInt_uw]
theorem tz_good (X : BitVec 64) : Good Tryd.prog (retOk 0 [] (i64 (.o (tzI (uw X)))) ⟨0, .nil, []⟩) 0 [callFr 48 Tryd.f48.ntmps [u64S (uw X)] (Tryd.f48.body.getD .skip)] ⟨0, .nil, []⟩ := by
  refine run_vc E0_ok 1000 (tz_run (uw X) (tzI (uw X))) ?_ (fun s m h => h) fun _ _ h => h.elim
  rw [tzI_uw]
  refine ⟨fun h => ⟨?_, trivial⟩, fun h => ?_⟩
  · rw [uw_zero_iff, decide_eq_true_eq] at h
    rw [h, tz_zero]
    rfl
  · rw [uw_zero_iff, decide_eq_false_iff_not] at h
    obtain ⟨h1, h2⟩ := tz_at h
    have ec : (285870213051353865 : Int) = uw 285870213051353865#64 := rfl
    have e58 : (58 : Int).toNat = 58 := rfl
    rw [ari_uw_neg, ari_uw_and, ec, ari_uw_mul, ari_uw_shr, e58]
    generalize hY : (((X &&& (-X)) * 285870213051353865#64) >>> 58) = Y at h1 h2
    have hr := uw_range Y
    obtain ⟨k1, k2⟩ := tab_at h1
    have hlt : Y.toNat < 64 := h1
    have e0 : 0 + (uw Y).toNat * 1 = Y.toNat := by rw [uw_toNat]; omega
    rw [e0]
    refine ⟨⟨⟨hr.1, ?_⟩, trivial⟩, ⟨k1, trivial⟩, ?_, trivial⟩
    · unfold uw; omega
    · refine Eq.trans ?_ (congrArg (IntKind.wrap .i64) k2).symm
      rw [h2]
      have := tz_le X
      exact (Go.IntWalk.i64_in _ (by omega)).symm
theorem tz_con (p : Int) (m : SMem) : Con E0 48 [u64S p] m (needs [uw (BitVec.ofInt 64 p) = p] (.ret (i64 (.o (tzI p))) m)) := by
  refine Con.pure E0_ok tz_fn tz_body (by kernel_rfl) (by kernel_rfl) fun hq => ?_
  have hp : uw (BitVec.ofInt 64 p) = p := hq _ (by simp)
  have := tz_good (BitVec.ofInt 64 p)
  rw [hp] at this
  exact (Good.ret [] this).mono fun _ _ h => h.1
end Go.Proofs.YtfgkainnkbbanaaDoor
/- Of runs: Of, Has, as propositions. No condition. -/
namespace Go.Proofs.YtfgkainnkbbanaaDoor
set_option maxRecDepth 100000
theorem of_run (p x : Int) : (run E0 1000 0 [callFr 24 Tryd.f24.ntmps [i64 (.o p)] (Tryd.f24.body.getD .skip)] ⟨0, .nil, []⟩).vc (retOk 0 [] (.s (.agg (.ls [.f (.int .u64 (.o x))]))) ⟨0, .nil, []⟩) (fun _ _ => False) =
    ((((if (64 : Int) < if (0 : Int) > p then (0 : Int) else p then (64 : Int) else if (0 : Int) > p then (0 : Int) else p) == (0 : Int)) = true → x = (0 : Int) ∧ True) ∧ (((if (64 : Int) < if (0 : Int) > p then (0 : Int) else p then (64 : Int) else if (0 : Int) > p then (0 : Int) else p) == (0 : Int)) = false → ((0 : Int) ≤ ari BinOp.sub IntKind.i64 (64 : Int) (if (64 : Int) < if (0 : Int) > p then (0 : Int) else p then (64 : Int) else if (0 : Int) > p then (0 : Int) else p) ∧ True) ∧ x = ari BinOp.shr IntKind.u64 (18446744073709551615 : Int) (ari BinOp.sub IntKind.i64 (64 : Int) (if (64 : Int) < if (0 : Int) > p then (0 : Int) else p then (64 : Int) else if (0 : Int) > p then (0 : Int) else p)) ∧ True)) := by kernel_rfl
theorem has_run (mk p : Int) (b : Bool) : (run E0 1000 0 [callFr 22 Tryd.f22.ntmps [.s (.agg (.ls [.f (.int .u64 (.o mk))])), i64 (.o p)] (Tryd.f22.body.getD .skip)] ⟨0, .nil, []⟩).vc (retOk 0 [] (sB (.o b)) ⟨0, .nil, []⟩) (fun _ _ => False) =
    (((decide (p ≥ (0 : Int)) == true) = true → ((decide (p < (64 : Int)) == true) = true → ((0 : Int) ≤ p ∧ True) ∧ b = (ari BinOp.and IntKind.u64 (ari BinOp.shr IntKind.u64 mk p) (1 : Int) == (1 : Int)) ∧ True) ∧ ((decide (p < (64 : Int)) == true) = false → b = false ∧ True)) ∧ ((decide (p ≥ (0 : Int)) == true) = false → b = false ∧ True)) := by kernel_rfl
end Go.Proofs.YtfgkainnkbbanaaDoor
/- Of runs: contracts: Of, Has. No condition. -/
namespace Go.Proofs.YtfgkainnkbbanaaDoor
/-- So many first pages. -/
def lowW (k : Nat) : BitVec 64 := BitVec.allOnes 64 >>> (64 - k)
theorem lowW_bit (k i : Nat) (hk : k ≤ 64) : (lowW k).getLsbD i = decide (i < k) := by
  unfold lowW
  rw [BitVec.getLsbD_ushiftRight, BitVec.getLsbD_allOnes]
  by_cases h : i < k
  · rw [decide_eq_true h, decide_eq_true (by omega)]
  · rw [decide_eq_false h, decide_eq_false (by omega)]
def clampN (p : Int) : Nat := if p < 0 then 0 else if 64 < p then 64 else p.toNat
theorem of_con (p : Int) (m : SMem) : Con E0 24 [i64 (.o p)] m (needs [] (.ret (.s (.agg (.ls [.f (.int .u64 (.o (uw (lowW (clampN p)))))]))) m)) := by
  refine Con.pure E0_ok (by kernel_rfl : E0.fn 24 = some Tryd.f24) (by kernel_rfl : Tryd.f24.body = some (Tryd.f24.body.getD .skip)) (by kernel_rfl) (by kernel_rfl) fun _ => ?_
  refine (Good.ret [] (run_vc E0_ok 1000 (of_run p (uw (lowW (clampN p)))) ?_ (fun s m h => h) fun _ _ h => h.elim)).mono fun _ _ h => h.1
  have hc : (if (64 : Int) < if (0 : Int) > p then (0 : Int) else p then (64 : Int) else if (0 : Int) > p then (0 : Int) else p) = (clampN p : Nat) := by
    unfold clampN
    split <;> split <;> first | omega | (split <;> omega)
  have hk : clampN p ≤ 64 := by unfold clampN; split <;> first | omega | (split <;> omega)
  rw [hc]
  have e64 : ari .sub .i64 64 (clampN p : Nat) = (64 - clampN p : Nat) := by
    rw [ari_sub]
    have := Go.IntWalk.i64_in (64 - (clampN p : Nat) : Int) (by omega)
    rw [this]
    omega
  rw [e64]
  have eA : (18446744073709551615 : Int) = uw (BitVec.allOnes 64) := rfl
  refine ⟨fun h => ?_, fun h => ⟨⟨by omega, trivial⟩, ?_, trivial⟩⟩
  · have h0 : clampN p = 0 := by
      have := eq_of_beq h
      omega
    rw [h0]
    exact ⟨rfl, trivial⟩
  · rw [eA, ari_uw_shr, Int.toNat_natCast]
    rfl
theorem has_con (X : BitVec 64) (p : Int) (m : SMem) : Con E0 22 [.s (.agg (.ls [.f (.int .u64 (.o (uw X)))])), i64 (.o p)] m (needs [] (.ret (sB (.o (decide (0 ≤ p) && X.getLsbD p.toNat))) m)) := by
  refine Con.pure E0_ok (by kernel_rfl : E0.fn 22 = some Tryd.f22) (by kernel_rfl : Tryd.f22.body = some (Tryd.f22.body.getD .skip)) (by kernel_rfl) (by kernel_rfl) fun _ => ?_
  refine (Good.ret [] (run_vc E0_ok 1000 (has_run (uw X) p (decide (0 ≤ p) && X.getLsbD p.toNat)) ?_ (fun s m h => h) fun _ _ h => h.elim)).mono fun _ _ h => h.1
  have hb : (ari .and .u64 (ari .shr .u64 (uw X) p) 1 == (1 : Int)) = X.getLsbD p.toNat := by
    have e1 : (1 : Int) = uw 1#64 := rfl
    rw [e1, ari_uw_shr, ari_uw_and, Bool.eq_iff_iff, beq_iff_eq, uw_inj]
    constructor
    · intro h
      have := congrArg (BitVec.getLsbD · 0) h
      simpa using this
    · intro h
      apply BitVec.eq_of_getLsbD_eq
      intro i hi
      rw [BitVec.getLsbD_and, BitVec.getLsbD_ushiftRight]
      by_cases h0 : i = 0
      · subst h0; simp [h]
      · have : (1#64).getLsbD i = false := by
          rw [BitVec.getLsbD_one]; simp [h0]
        rw [this]; simp
  rw [hb]
  refine ⟨fun h1 => ⟨fun h2 => ?_, fun h2 => ?_⟩, fun h1 => ?_⟩
  · have h1 : 0 ≤ p := by simpa using h1
    refine ⟨⟨h1, trivial⟩, ?_, trivial⟩
    rw [decide_eq_true h1, Bool.true_and]
  · have h1 : 0 ≤ p := by simpa using h1
    have h2 : ¬ p < 64 := by simpa using h2
    rw [BitVec.getLsbD_of_ge _ _ (by omega)]
    simp
  · have h1 : ¬ 0 ≤ p := by simpa using h1
    rw [decide_eq_false h1]
    exact ⟨rfl, trivial⟩
end Go.Proofs.YtfgkainnkbbanaaDoor
/- Of runs: the environment of its functions. No condition. -/
namespace Go.Proofs.YtfgkainnkbbanaaDoor
theorem has_con' (mk p : Int) (m : SMem) : Con E0 22 [.s (.agg (.ls [.f (.int .u64 (.o mk))])), i64 (.o p)] m (needs [uw (BitVec.ofInt 64 mk) = mk] (.ret (sB (.o (decide (0 ≤ p) && (BitVec.ofInt 64 mk).getLsbD p.toNat))) m)) := by
  intro A hs
  obtain ⟨hq, hA⟩ := Tree.sat_needs hs
  have hp : uw (BitVec.ofInt 64 mk) = mk := hq _ (by simp)
  have h := has_con (BitVec.ofInt 64 mk) p m
  rw [hp] at h
  exact h A hA
def conC (g : FuncId) (l : List SV) (m : SMem) : Option Tree :=
  match g, l with
  | 6, [] => some (.ret (sB (.l true)) m)
  | 42, [.s (.c (.f (.int .i64 (.o p)))), .s (.c (.f (.int .i64 (.o n))))] => some (.ret (sB (.o (mayB p n))) m)
  | 44, [.s (.c (.f (.int .i64 (.o p)))), .s (.c (.f (.int .i64 (.o n))))] => some (.need [0 ≤ IntKind.i64.wrap (64 - n), 0 ≤ p] (.ret (.s (.c (.f (.int .u64 (.o (spanI p n)))))) m))
  | 48, [.s (.c (.f (.int .u64 (.o p))))] => some (.need [uw (BitVec.ofInt 64 p) = p] (.ret (i64 (.o (tzI p))) m))
  | _, _ => none
theorem conC_ok : ∀ g l m t, conC g l m = some t → Con E0 g l m t := by
  intro g l m t h
  unfold conC at h
  split at h
  · cases h; exact wakes_con m
  · cases h; exact may_con _ _ m
  · cases h; exact span_con _ _ m
  · cases h; exact tz_con _ m
  · cases h
/-- One stops at the loop of each. -/
noncomputable def EC : Env := ⟨Tryd.prog, fnOf, conC, fun _ f x => Nat.beq f 47 && isLoop x⟩
theorem EC_ok : EnvOk EC := EnvOk.with E0_ok _ _ conC_ok
end Go.Proofs.YtfgkainnkbbanaaDoor
/- Of runs: the loop of each below Give, Take, Find and All: its states. No condition. -/
namespace Go.Proofs.YtfgkainnkbbanaaDoor
noncomputable section
/-- The first frame with a slot set. -/
def setTop (d : Nat) (v : SV) : List SFr → List SFr
  | ⟨fn, tm, td, dfs, md, kind, rnd⟩ :: cs => ⟨fn, tm.set d (some v), td, dfs, md, kind, rnd⟩ :: cs
  | [] => []
/-- What is left to do in a frame. -/
def tdAt (k : Nat) (l : List SFr) : List SIt := match nth l k with
  | some f => f.todo
  | none => []
def loopAt (k : Nat) (m : SMem) : Option LoopP := match nth m.xs k with
  | some ⟨_, .loop st pe fn _ ps ag bd _⟩ => some ⟨st, pe, fn, ps, ag, bd⟩
  | _ => none
def getLp (o : Option LoopP) : LoopP := match o with
  | some l => l
  | none => ⟨.ready, none, 0, #[], .skip, .skip⟩
def setIs (x : Int) : SV := .s (.agg (.ls [.f (.int .u64 (.o x))]))
def topInt (d : Nat) : List SFr → Option Int
  | f :: _ => svInt (f.tm.get d)
  | [] => none
def opR (c : List SFr) : Tree := run EC 1000 0 c ⟨0, .nil, []⟩
def opF (c : List SFr) (left : Int) : List SFr := setTop 3 (u64S left) ((opR c).fsE.map SFr.bare)
def opM (c : List SFr) : SMem := (opR c).memE.bare
def opH (c : List SFr) (left : Int) : List SFr := headF (opF c left)
def opS (c : List SFr) (left : Int) : Tree := stepT EC.go (run EC 1000) 0 (opH c left) (opM c)
/-- The next round's state, as it is come to: what is left is so. -/
def opN0 (c : List SFr) (Q : Int → Prop) (fs : List SFr) (m : SMem) : Prop :=
  match topInt 3 fs with
  | some left => Q left ∧ subOk 0 (idπ (opM c).next) (opF c left) (opM c) fs m
  | none => False
def opN (c : List SFr) (Q : Int → Prop) (fs : List SFr) (m : SMem) : Prop :=
  match topInt 3 fs with
  | some left => Q left ∧ subOk 0 (idπ (opM c).next) (opH c left) (opM c) fs m
  | none => False
def giveC (x p n : Int) : List SFr := [callFr 34 Tryd.f34.ntmps [setIs x, i64 (.o p), i64 (.o n)] (Tryd.f34.body.getD .skip)]
def takeC (x p n : Int) : List SFr := [callFr 27 Tryd.f27.ntmps [setIs x, i64 (.o p), i64 (.o n)] (Tryd.f27.body.getD .skip)]
def findC (x n : Int) : List SFr := [callFr 26 Tryd.f26.ntmps [setIs x, i64 (.o n)] (Tryd.f26.body.getD .skip)]
def giveT0 : List SIt := tdAt 0 (opF (giveC 0 0 0) 0)
def giveH0 : List SIt := tdAt 0 (opH (giveC 0 0 0) 0)
def giveT1 : List SIt := tdAt 1 (opF (giveC 0 0 0) 0)
def giveH1 : List SIt := tdAt 1 (opH (giveC 0 0 0) 0)
def giveT2 : List SIt := tdAt 2 (opF (giveC 0 0 0) 0)
def giveH2 : List SIt := tdAt 2 (opH (giveC 0 0 0) 0)
def takeT0 : List SIt := tdAt 0 (opF (takeC 0 0 0) 0)
def takeH0 : List SIt := tdAt 0 (opH (takeC 0 0 0) 0)
def takeT1 : List SIt := tdAt 1 (opF (takeC 0 0 0) 0)
def takeH1 : List SIt := tdAt 1 (opH (takeC 0 0 0) 0)
def takeT2 : List SIt := tdAt 2 (opF (takeC 0 0 0) 0)
def takeH2 : List SIt := tdAt 2 (opH (takeC 0 0 0) 0)
def findT0 : List SIt := tdAt 0 (opF (findC 0 0) 0)
def findH0 : List SIt := tdAt 0 (opH (findC 0 0) 0)
def findT1 : List SIt := tdAt 1 (opF (findC 0 0) 0)
def findH1 : List SIt := tdAt 1 (opH (findC 0 0) 0)
def findT2 : List SIt := tdAt 2 (opF (findC 0 0) 0)
def findH2 : List SIt := tdAt 2 (opH (findC 0 0) 0)
def giveLp : LoopP := getLp (loopAt 0 (opM (giveC 0 0 0)))
def takeLp : LoopP := getLp (loopAt 0 (opM (takeC 0 0 0)))
def findLp : LoopP := getLp (loopAt 0 (opM (findC 0 0)))
def setB (x : Int) (b : Bool) : SV := .tup [.agg (.ls [.f (.int .u64 (.o x))]), .c (.f (.bool (.o b)))]
def intB (x : Int) (b : Bool) : SV := .tup [.c (.f (.int .i64 (.o x))), .c (.f (.bool (.o b)))]
def opA (v : SV) : SV → SMem → Prop := retOk 0 [] v ⟨0, .nil, []⟩
end
end Go.Proofs.YtfgkainnkbbanaaDoor
/- Of runs: the loop of each below Give, Take and Find, as propositions. No condition. -/
namespace Go.Proofs.YtfgkainnkbbanaaDoor
set_option maxRecDepth 100000
theorem give_start (x p n y : Int) (b : Bool) (Q : Int → Prop) : (opR (giveC x p n)).vc (opA (setB y b)) (opN0 (giveC x p n) Q) =
    (((!mayB p n) = true → y = x ∧ b = false ∧ True) ∧ ((!mayB p n) = false → Q x ∧ CallKind.normal = CallKind.normal ∧ TodoOk (ren 0 [(0, 0), (1, 1), (2, 2), (3, 3), (4, 4), (5, 5), (6, 6), (7, 7), (8, 8), (9, 9)]) giveT0 giveT0 ∧ x = x ∧ x = x ∧ CallKind.normal = CallKind.normal ∧ TodoOk (ren 0 [(0, 0), (1, 1), (2, 2), (3, 3), (4, 4), (5, 5), (6, 6), (7, 7), (8, 8), (9, 9)]) giveT1 giveT1 ∧ x = x ∧ Fn.func (46 : Nat) = Fn.func (46 : Nat) ∧ Fn.func (47 : Nat) = Fn.func (47 : Nat) ∧ x = x ∧ CallKind.normal = CallKind.normal ∧ TodoOk (ren 0 [(0, 0), (1, 1), (2, 2), (3, 3), (4, 4), (5, 5), (6, 6), (7, 7), (8, 8), (9, 9)]) giveT2 giveT2 ∧ x = x ∧ p = p ∧ Fn.func (46 : Nat) = Fn.func (46 : Nat) ∧ mayB p n = mayB p n ∧ p = p ∧ n = n ∧ n = n ∧ x = x ∧ (45 : Nat) = (45 : Nat) ∧ x = x ∧ (3 : Nat) = (3 : Nat) ∧ p = p ∧ (45 : Nat) = (45 : Nat) ∧ (45 : Nat) = (45 : Nat) ∧ x = x ∧ (78 : Nat) = (78 : Nat) ∧ Fn.func (46 : Nat) = Fn.func (46 : Nat) ∧ (3 : Nat) = (3 : Nat) ∧ n = n ∧ (45 : Nat) = (45 : Nat) ∧ x = x ∧ (57 : Nat) = (57 : Nat) ∧ EqL giveLp giveLp ∧ x = x ∧ Fn.func (46 : Nat) = Fn.func (46 : Nat) ∧ Fn.func (47 : Nat) = Fn.func (47 : Nat) ∧ x = x ∧ True)) := by kernel_rfl
theorem give_step (x p n left y : Int) (b : Bool) (Q : Int → Prop) : (opS (giveC x p n) left).vc (opA (setB y b)) (opN (giveC x p n) Q) =
    (((left != (0 : Int)) = true → (uw (BitVec.ofInt (64 : Nat) left) = left ∧ True) ∧ ((0 : Int) ≤ tzI left ∧ True) ∧ (uw (BitVec.ofInt (64 : Nat) (ari BinOp.xor IntKind.u64 (18446744073709551615 : Int) (ari BinOp.shr IntKind.u64 left (tzI left)))) = ari BinOp.xor IntKind.u64 (18446744073709551615 : Int) (ari BinOp.shr IntKind.u64 left (tzI left)) ∧ True) ∧ ((decide (tzI left < ari BinOp.add IntKind.i64 p n) == true) = true → (decide (p < ari BinOp.add IntKind.i64 (tzI left) (tzI (ari BinOp.xor IntKind.u64 (18446744073709551615 : Int) (ari BinOp.shr IntKind.u64 left (tzI left))))) = true → ((!(tzI left == (0 : Int) && tzI (ari BinOp.xor IntKind.u64 (18446744073709551615 : Int) (ari BinOp.shr IntKind.u64 left (tzI left))) == (0 : Int))) = true → y = x ∧ b = false ∧ True) ∧ ((!(tzI left == (0 : Int) && tzI (ari BinOp.xor IntKind.u64 (18446744073709551615 : Int) (ari BinOp.shr IntKind.u64 left (tzI left))) == (0 : Int))) = false → ((0 : Int) ≤ IntKind.wrap IntKind.i64 ((64 : Int) - n) ∧ (0 : Int) ≤ p ∧ True) ∧ y = ari BinOp.or IntKind.u64 x (spanI p n) ∧ b = true ∧ True)) ∧ (decide (p < ari BinOp.add IntKind.i64 (tzI left) (tzI (ari BinOp.xor IntKind.u64 (18446744073709551615 : Int) (ari BinOp.shr IntKind.u64 left (tzI left))))) = false → ((0 : Int) ≤ IntKind.wrap IntKind.i64 ((64 : Int) - tzI (ari BinOp.xor IntKind.u64 (18446744073709551615 : Int) (ari BinOp.shr IntKind.u64 left (tzI left)))) ∧ (0 : Int) ≤ tzI left ∧ True) ∧ Q (ari BinOp.andNot IntKind.u64 left (spanI (tzI left) (tzI (ari BinOp.xor IntKind.u64 (18446744073709551615 : Int) (ari BinOp.shr IntKind.u64 left (tzI left)))))) ∧ CallKind.normal = CallKind.normal ∧ TodoOk (ren 0 [(0, 0), (1, 1), (2, 2), (3, 3), (4, 4), (5, 5), (6, 6), (7, 7), (8, 8), (9, 9)]) giveH0 giveH0 ∧ ari BinOp.andNot IntKind.u64 left (spanI (tzI left) (tzI (ari BinOp.xor IntKind.u64 (18446744073709551615 : Int) (ari BinOp.shr IntKind.u64 left (tzI left))))) = ari BinOp.andNot IntKind.u64 left (spanI (tzI left) (tzI (ari BinOp.xor IntKind.u64 (18446744073709551615 : Int) (ari BinOp.shr IntKind.u64 left (tzI left))))) ∧ x = x ∧ CallKind.normal = CallKind.normal ∧ TodoOk (ren 0 [(0, 0), (1, 1), (2, 2), (3, 3), (4, 4), (5, 5), (6, 6), (7, 7), (8, 8), (9, 9)]) giveH1 giveH1 ∧ x = x ∧ Fn.func (46 : Nat) = Fn.func (46 : Nat) ∧ Fn.func (47 : Nat) = Fn.func (47 : Nat) ∧ x = x ∧ CallKind.normal = CallKind.normal ∧ TodoOk (ren 0 [(0, 0), (1, 1), (2, 2), (3, 3), (4, 4), (5, 5), (6, 6), (7, 7), (8, 8), (9, 9)]) giveH2 giveH2 ∧ x = x ∧ p = p ∧ Fn.func (46 : Nat) = Fn.func (46 : Nat) ∧ mayB p n = mayB p n ∧ p = p ∧ n = n ∧ n = n ∧ x = x ∧ (45 : Nat) = (45 : Nat) ∧ x = x ∧ (3 : Nat) = (3 : Nat) ∧ p = p ∧ (45 : Nat) = (45 : Nat) ∧ (45 : Nat) = (45 : Nat) ∧ x = x ∧ (78 : Nat) = (78 : Nat) ∧ Fn.func (46 : Nat) = Fn.func (46 : Nat) ∧ (3 : Nat) = (3 : Nat) ∧ n = n ∧ (45 : Nat) = (45 : Nat) ∧ x = x ∧ (57 : Nat) = (57 : Nat) ∧ EqL giveLp giveLp ∧ x = x ∧ Fn.func (46 : Nat) = Fn.func (46 : Nat) ∧ Fn.func (47 : Nat) = Fn.func (47 : Nat) ∧ x = x ∧ True)) ∧ ((decide (tzI left < ari BinOp.add IntKind.i64 p n) == true) = false → ((0 : Int) ≤ IntKind.wrap IntKind.i64 ((64 : Int) - tzI (ari BinOp.xor IntKind.u64 (18446744073709551615 : Int) (ari BinOp.shr IntKind.u64 left (tzI left)))) ∧ (0 : Int) ≤ tzI left ∧ True) ∧ Q (ari BinOp.andNot IntKind.u64 left (spanI (tzI left) (tzI (ari BinOp.xor IntKind.u64 (18446744073709551615 : Int) (ari BinOp.shr IntKind.u64 left (tzI left)))))) ∧ CallKind.normal = CallKind.normal ∧ TodoOk (ren 0 [(0, 0), (1, 1), (2, 2), (3, 3), (4, 4), (5, 5), (6, 6), (7, 7), (8, 8), (9, 9)]) giveH0 giveH0 ∧ ari BinOp.andNot IntKind.u64 left (spanI (tzI left) (tzI (ari BinOp.xor IntKind.u64 (18446744073709551615 : Int) (ari BinOp.shr IntKind.u64 left (tzI left))))) = ari BinOp.andNot IntKind.u64 left (spanI (tzI left) (tzI (ari BinOp.xor IntKind.u64 (18446744073709551615 : Int) (ari BinOp.shr IntKind.u64 left (tzI left))))) ∧ x = x ∧ CallKind.normal = CallKind.normal ∧ TodoOk (ren 0 [(0, 0), (1, 1), (2, 2), (3, 3), (4, 4), (5, 5), (6, 6), (7, 7), (8, 8), (9, 9)]) giveH1 giveH1 ∧ x = x ∧ Fn.func (46 : Nat) = Fn.func (46 : Nat) ∧ Fn.func (47 : Nat) = Fn.func (47 : Nat) ∧ x = x ∧ CallKind.normal = CallKind.normal ∧ TodoOk (ren 0 [(0, 0), (1, 1), (2, 2), (3, 3), (4, 4), (5, 5), (6, 6), (7, 7), (8, 8), (9, 9)]) giveH2 giveH2 ∧ x = x ∧ p = p ∧ Fn.func (46 : Nat) = Fn.func (46 : Nat) ∧ mayB p n = mayB p n ∧ p = p ∧ n = n ∧ n = n ∧ x = x ∧ (45 : Nat) = (45 : Nat) ∧ x = x ∧ (3 : Nat) = (3 : Nat) ∧ p = p ∧ (45 : Nat) = (45 : Nat) ∧ (45 : Nat) = (45 : Nat) ∧ x = x ∧ (78 : Nat) = (78 : Nat) ∧ Fn.func (46 : Nat) = Fn.func (46 : Nat) ∧ (3 : Nat) = (3 : Nat) ∧ n = n ∧ (45 : Nat) = (45 : Nat) ∧ x = x ∧ (57 : Nat) = (57 : Nat) ∧ EqL giveLp giveLp ∧ x = x ∧ Fn.func (46 : Nat) = Fn.func (46 : Nat) ∧ Fn.func (47 : Nat) = Fn.func (47 : Nat) ∧ x = x ∧ True)) ∧ ((left != (0 : Int)) = false → ((0 : Int) ≤ IntKind.wrap IntKind.i64 ((64 : Int) - n) ∧ (0 : Int) ≤ p ∧ True) ∧ y = ari BinOp.or IntKind.u64 x (spanI p n) ∧ b = true ∧ True)) := by kernel_rfl
theorem take_start (x p n y : Int) (b : Bool) (Q : Int → Prop) : (opR (takeC x p n)).vc (opA (setB y b)) (opN0 (takeC x p n) Q) =
    (((!mayB p n) = true → y = x ∧ b = false ∧ True) ∧ ((!mayB p n) = false → Q x ∧ CallKind.normal = CallKind.normal ∧ TodoOk (ren 0 [(0, 0), (1, 1), (2, 2), (3, 3), (4, 4), (5, 5), (6, 6), (7, 7), (8, 8), (9, 9)]) takeT0 takeT0 ∧ x = x ∧ x = x ∧ CallKind.normal = CallKind.normal ∧ TodoOk (ren 0 [(0, 0), (1, 1), (2, 2), (3, 3), (4, 4), (5, 5), (6, 6), (7, 7), (8, 8), (9, 9)]) takeT1 takeT1 ∧ x = x ∧ Fn.func (43 : Nat) = Fn.func (43 : Nat) ∧ Fn.func (47 : Nat) = Fn.func (47 : Nat) ∧ x = x ∧ CallKind.normal = CallKind.normal ∧ TodoOk (ren 0 [(0, 0), (1, 1), (2, 2), (3, 3), (4, 4), (5, 5), (6, 6), (7, 7), (8, 8), (9, 9)]) takeT2 takeT2 ∧ x = x ∧ p = p ∧ Fn.func (43 : Nat) = Fn.func (43 : Nat) ∧ mayB p n = mayB p n ∧ p = p ∧ n = n ∧ n = n ∧ x = x ∧ (45 : Nat) = (45 : Nat) ∧ x = x ∧ (3 : Nat) = (3 : Nat) ∧ p = p ∧ (45 : Nat) = (45 : Nat) ∧ (45 : Nat) = (45 : Nat) ∧ x = x ∧ (78 : Nat) = (78 : Nat) ∧ Fn.func (43 : Nat) = Fn.func (43 : Nat) ∧ (3 : Nat) = (3 : Nat) ∧ n = n ∧ (45 : Nat) = (45 : Nat) ∧ x = x ∧ (57 : Nat) = (57 : Nat) ∧ EqL takeLp takeLp ∧ x = x ∧ Fn.func (43 : Nat) = Fn.func (43 : Nat) ∧ Fn.func (47 : Nat) = Fn.func (47 : Nat) ∧ x = x ∧ True)) := by kernel_rfl
theorem take_step (x p n left y : Int) (b : Bool) (Q : Int → Prop) : (opS (takeC x p n) left).vc (opA (setB y b)) (opN (takeC x p n) Q) =
    (((left != (0 : Int)) = true → (uw (BitVec.ofInt (64 : Nat) left) = left ∧ True) ∧ ((0 : Int) ≤ tzI left ∧ True) ∧ (uw (BitVec.ofInt (64 : Nat) (ari BinOp.xor IntKind.u64 (18446744073709551615 : Int) (ari BinOp.shr IntKind.u64 left (tzI left)))) = ari BinOp.xor IntKind.u64 (18446744073709551615 : Int) (ari BinOp.shr IntKind.u64 left (tzI left)) ∧ True) ∧ ((decide (tzI left ≤ p) == true) = true → (decide (ari BinOp.add IntKind.i64 p n ≤ ari BinOp.add IntKind.i64 (tzI left) (tzI (ari BinOp.xor IntKind.u64 (18446744073709551615 : Int) (ari BinOp.shr IntKind.u64 left (tzI left))))) = true → ((tzI left == (0 : Int) && tzI (ari BinOp.xor IntKind.u64 (18446744073709551615 : Int) (ari BinOp.shr IntKind.u64 left (tzI left))) == (0 : Int)) = true → y = x ∧ b = false ∧ True) ∧ ((tzI left == (0 : Int) && tzI (ari BinOp.xor IntKind.u64 (18446744073709551615 : Int) (ari BinOp.shr IntKind.u64 left (tzI left))) == (0 : Int)) = false → ((0 : Int) ≤ IntKind.wrap IntKind.i64 ((64 : Int) - n) ∧ (0 : Int) ≤ p ∧ True) ∧ y = ari BinOp.andNot IntKind.u64 x (spanI p n) ∧ b = true ∧ True)) ∧ (decide (ari BinOp.add IntKind.i64 p n ≤ ari BinOp.add IntKind.i64 (tzI left) (tzI (ari BinOp.xor IntKind.u64 (18446744073709551615 : Int) (ari BinOp.shr IntKind.u64 left (tzI left))))) = false → ((0 : Int) ≤ IntKind.wrap IntKind.i64 ((64 : Int) - tzI (ari BinOp.xor IntKind.u64 (18446744073709551615 : Int) (ari BinOp.shr IntKind.u64 left (tzI left)))) ∧ (0 : Int) ≤ tzI left ∧ True) ∧ Q (ari BinOp.andNot IntKind.u64 left (spanI (tzI left) (tzI (ari BinOp.xor IntKind.u64 (18446744073709551615 : Int) (ari BinOp.shr IntKind.u64 left (tzI left)))))) ∧ CallKind.normal = CallKind.normal ∧ TodoOk (ren 0 [(0, 0), (1, 1), (2, 2), (3, 3), (4, 4), (5, 5), (6, 6), (7, 7), (8, 8), (9, 9)]) takeH0 takeH0 ∧ ari BinOp.andNot IntKind.u64 left (spanI (tzI left) (tzI (ari BinOp.xor IntKind.u64 (18446744073709551615 : Int) (ari BinOp.shr IntKind.u64 left (tzI left))))) = ari BinOp.andNot IntKind.u64 left (spanI (tzI left) (tzI (ari BinOp.xor IntKind.u64 (18446744073709551615 : Int) (ari BinOp.shr IntKind.u64 left (tzI left))))) ∧ x = x ∧ CallKind.normal = CallKind.normal ∧ TodoOk (ren 0 [(0, 0), (1, 1), (2, 2), (3, 3), (4, 4), (5, 5), (6, 6), (7, 7), (8, 8), (9, 9)]) takeH1 takeH1 ∧ x = x ∧ Fn.func (43 : Nat) = Fn.func (43 : Nat) ∧ Fn.func (47 : Nat) = Fn.func (47 : Nat) ∧ x = x ∧ CallKind.normal = CallKind.normal ∧ TodoOk (ren 0 [(0, 0), (1, 1), (2, 2), (3, 3), (4, 4), (5, 5), (6, 6), (7, 7), (8, 8), (9, 9)]) takeH2 takeH2 ∧ x = x ∧ p = p ∧ Fn.func (43 : Nat) = Fn.func (43 : Nat) ∧ mayB p n = mayB p n ∧ p = p ∧ n = n ∧ n = n ∧ x = x ∧ (45 : Nat) = (45 : Nat) ∧ x = x ∧ (3 : Nat) = (3 : Nat) ∧ p = p ∧ (45 : Nat) = (45 : Nat) ∧ (45 : Nat) = (45 : Nat) ∧ x = x ∧ (78 : Nat) = (78 : Nat) ∧ Fn.func (43 : Nat) = Fn.func (43 : Nat) ∧ (3 : Nat) = (3 : Nat) ∧ n = n ∧ (45 : Nat) = (45 : Nat) ∧ x = x ∧ (57 : Nat) = (57 : Nat) ∧ EqL takeLp takeLp ∧ x = x ∧ Fn.func (43 : Nat) = Fn.func (43 : Nat) ∧ Fn.func (47 : Nat) = Fn.func (47 : Nat) ∧ x = x ∧ True)) ∧ ((decide (tzI left ≤ p) == true) = false → ((0 : Int) ≤ IntKind.wrap IntKind.i64 ((64 : Int) - tzI (ari BinOp.xor IntKind.u64 (18446744073709551615 : Int) (ari BinOp.shr IntKind.u64 left (tzI left)))) ∧ (0 : Int) ≤ tzI left ∧ True) ∧ Q (ari BinOp.andNot IntKind.u64 left (spanI (tzI left) (tzI (ari BinOp.xor IntKind.u64 (18446744073709551615 : Int) (ari BinOp.shr IntKind.u64 left (tzI left)))))) ∧ CallKind.normal = CallKind.normal ∧ TodoOk (ren 0 [(0, 0), (1, 1), (2, 2), (3, 3), (4, 4), (5, 5), (6, 6), (7, 7), (8, 8), (9, 9)]) takeH0 takeH0 ∧ ari BinOp.andNot IntKind.u64 left (spanI (tzI left) (tzI (ari BinOp.xor IntKind.u64 (18446744073709551615 : Int) (ari BinOp.shr IntKind.u64 left (tzI left))))) = ari BinOp.andNot IntKind.u64 left (spanI (tzI left) (tzI (ari BinOp.xor IntKind.u64 (18446744073709551615 : Int) (ari BinOp.shr IntKind.u64 left (tzI left))))) ∧ x = x ∧ CallKind.normal = CallKind.normal ∧ TodoOk (ren 0 [(0, 0), (1, 1), (2, 2), (3, 3), (4, 4), (5, 5), (6, 6), (7, 7), (8, 8), (9, 9)]) takeH1 takeH1 ∧ x = x ∧ Fn.func (43 : Nat) = Fn.func (43 : Nat) ∧ Fn.func (47 : Nat) = Fn.func (47 : Nat) ∧ x = x ∧ CallKind.normal = CallKind.normal ∧ TodoOk (ren 0 [(0, 0), (1, 1), (2, 2), (3, 3), (4, 4), (5, 5), (6, 6), (7, 7), (8, 8), (9, 9)]) takeH2 takeH2 ∧ x = x ∧ p = p ∧ Fn.func (43 : Nat) = Fn.func (43 : Nat) ∧ mayB p n = mayB p n ∧ p = p ∧ n = n ∧ n = n ∧ x = x ∧ (45 : Nat) = (45 : Nat) ∧ x = x ∧ (3 : Nat) = (3 : Nat) ∧ p = p ∧ (45 : Nat) = (45 : Nat) ∧ (45 : Nat) = (45 : Nat) ∧ x = x ∧ (78 : Nat) = (78 : Nat) ∧ Fn.func (43 : Nat) = Fn.func (43 : Nat) ∧ (3 : Nat) = (3 : Nat) ∧ n = n ∧ (45 : Nat) = (45 : Nat) ∧ x = x ∧ (57 : Nat) = (57 : Nat) ∧ EqL takeLp takeLp ∧ x = x ∧ Fn.func (43 : Nat) = Fn.func (43 : Nat) ∧ Fn.func (47 : Nat) = Fn.func (47 : Nat) ∧ x = x ∧ True)) ∧ ((left != (0 : Int)) = false → y = x ∧ b = false ∧ True)) := by kernel_rfl
theorem find_start (x n y : Int) (b : Bool) (Q : Int → Prop) : (opR (findC x n)).vc (opA (intB y b)) (opN0 (findC x n) Q) =
    ((decide (n < (1 : Int)) = true → y = (0 : Int) ∧ b = false ∧ True) ∧ (decide (n < (1 : Int)) = false → Q x ∧ CallKind.normal = CallKind.normal ∧ TodoOk (ren 0 [(0, 0), (1, 1), (2, 2), (3, 3), (4, 4), (5, 5), (6, 6), (7, 7)]) findT0 findT0 ∧ x = x ∧ x = x ∧ CallKind.normal = CallKind.normal ∧ TodoOk (ren 0 [(0, 0), (1, 1), (2, 2), (3, 3), (4, 4), (5, 5), (6, 6), (7, 7)]) findT1 findT1 ∧ x = x ∧ Fn.func (41 : Nat) = Fn.func (41 : Nat) ∧ Fn.func (47 : Nat) = Fn.func (47 : Nat) ∧ x = x ∧ CallKind.normal = CallKind.normal ∧ TodoOk (ren 0 [(0, 0), (1, 1), (2, 2), (3, 3), (4, 4), (5, 5), (6, 6), (7, 7)]) findT2 findT2 ∧ x = x ∧ n = n ∧ n = n ∧ x = x ∧ Fn.func (41 : Nat) = Fn.func (41 : Nat) ∧ (45 : Nat) = (45 : Nat) ∧ x = x ∧ (3 : Nat) = (3 : Nat) ∧ n = n ∧ (78 : Nat) = (78 : Nat) ∧ Fn.func (41 : Nat) = Fn.func (41 : Nat) ∧ (45 : Nat) = (45 : Nat) ∧ x = x ∧ (45 : Nat) = (45 : Nat) ∧ x = x ∧ (57 : Nat) = (57 : Nat) ∧ EqL findLp findLp ∧ x = x ∧ Fn.func (41 : Nat) = Fn.func (41 : Nat) ∧ Fn.func (47 : Nat) = Fn.func (47 : Nat) ∧ x = x ∧ True)) := by kernel_rfl
theorem find_step (x n left y : Int) (b : Bool) (Q : Int → Prop) : (opS (findC x n) left).vc (opA (intB y b)) (opN (findC x n) Q) =
    (((left != (0 : Int)) = true → (uw (BitVec.ofInt (64 : Nat) left) = left ∧ True) ∧ ((0 : Int) ≤ tzI left ∧ True) ∧ (uw (BitVec.ofInt (64 : Nat) (ari BinOp.xor IntKind.u64 (18446744073709551615 : Int) (ari BinOp.shr IntKind.u64 left (tzI left)))) = ari BinOp.xor IntKind.u64 (18446744073709551615 : Int) (ari BinOp.shr IntKind.u64 left (tzI left)) ∧ True) ∧ (decide (tzI (ari BinOp.xor IntKind.u64 (18446744073709551615 : Int) (ari BinOp.shr IntKind.u64 left (tzI left))) ≥ n) = true → y = tzI left ∧ b = !(tzI left == (0 : Int) && tzI (ari BinOp.xor IntKind.u64 (18446744073709551615 : Int) (ari BinOp.shr IntKind.u64 left (tzI left))) == (0 : Int)) ∧ True) ∧ (decide (tzI (ari BinOp.xor IntKind.u64 (18446744073709551615 : Int) (ari BinOp.shr IntKind.u64 left (tzI left))) ≥ n) = false → ((0 : Int) ≤ IntKind.wrap IntKind.i64 ((64 : Int) - tzI (ari BinOp.xor IntKind.u64 (18446744073709551615 : Int) (ari BinOp.shr IntKind.u64 left (tzI left)))) ∧ (0 : Int) ≤ tzI left ∧ True) ∧ Q (ari BinOp.andNot IntKind.u64 left (spanI (tzI left) (tzI (ari BinOp.xor IntKind.u64 (18446744073709551615 : Int) (ari BinOp.shr IntKind.u64 left (tzI left)))))) ∧ CallKind.normal = CallKind.normal ∧ TodoOk (ren 0 [(0, 0), (1, 1), (2, 2), (3, 3), (4, 4), (5, 5), (6, 6), (7, 7)]) findH0 findH0 ∧ ari BinOp.andNot IntKind.u64 left (spanI (tzI left) (tzI (ari BinOp.xor IntKind.u64 (18446744073709551615 : Int) (ari BinOp.shr IntKind.u64 left (tzI left))))) = ari BinOp.andNot IntKind.u64 left (spanI (tzI left) (tzI (ari BinOp.xor IntKind.u64 (18446744073709551615 : Int) (ari BinOp.shr IntKind.u64 left (tzI left))))) ∧ x = x ∧ CallKind.normal = CallKind.normal ∧ TodoOk (ren 0 [(0, 0), (1, 1), (2, 2), (3, 3), (4, 4), (5, 5), (6, 6), (7, 7)]) findH1 findH1 ∧ x = x ∧ Fn.func (41 : Nat) = Fn.func (41 : Nat) ∧ Fn.func (47 : Nat) = Fn.func (47 : Nat) ∧ x = x ∧ CallKind.normal = CallKind.normal ∧ TodoOk (ren 0 [(0, 0), (1, 1), (2, 2), (3, 3), (4, 4), (5, 5), (6, 6), (7, 7)]) findH2 findH2 ∧ x = x ∧ n = n ∧ n = n ∧ x = x ∧ Fn.func (41 : Nat) = Fn.func (41 : Nat) ∧ (45 : Nat) = (45 : Nat) ∧ x = x ∧ (3 : Nat) = (3 : Nat) ∧ n = n ∧ (78 : Nat) = (78 : Nat) ∧ Fn.func (41 : Nat) = Fn.func (41 : Nat) ∧ (45 : Nat) = (45 : Nat) ∧ x = x ∧ (45 : Nat) = (45 : Nat) ∧ x = x ∧ (57 : Nat) = (57 : Nat) ∧ EqL findLp findLp ∧ x = x ∧ Fn.func (41 : Nat) = Fn.func (41 : Nat) ∧ Fn.func (47 : Nat) = Fn.func (47 : Nat) ∧ x = x ∧ True)) ∧ ((left != (0 : Int)) = false → y = (0 : Int) ∧ b = false ∧ True)) := by kernel_rfl
end Go.Proofs.YtfgkainnkbbanaaDoor
/- Runs of a word's bits, one behind the other. No condition. -/
namespace Go.Proofs.YtfgkainnkbbanaaDoor
/-- The bits of so many places from a place on. -/
def spanW (a n : Nat) : BitVec 64 := (BitVec.allOnes 64 >>> (64 - n)) <<< a
theorem spanW_bit (a n i : Nat) (h : a + n ≤ 64) : (spanW a n).getLsbD i = decide (a ≤ i ∧ i < a + n) := by
  unfold spanW
  rw [BitVec.getLsbD_shiftLeft, BitVec.getLsbD_ushiftRight, BitVec.getLsbD_allOnes]
  by_cases h1 : a ≤ i <;> by_cases h2 : i < a + n
  · rw [decide_eq_true (show a ≤ i ∧ i < a + n from ⟨h1, h2⟩), decide_eq_true (show i < 64 by omega), decide_eq_false (show ¬ i < a by omega), decide_eq_true (show 64 - n + (i - a) < 64 by omega)]
    rfl
  · rw [decide_eq_false (show ¬ (a ≤ i ∧ i < a + n) from fun x => h2 x.2), decide_eq_false (show ¬ 64 - n + (i - a) < 64 by omega)]
    simp
  · rw [decide_eq_false (show ¬ (a ≤ i ∧ i < a + n) from fun x => h1 x.1), decide_eq_true (show i < a by omega)]
    simp
  · rw [decide_eq_false (show ¬ (a ≤ i ∧ i < a + n) from fun x => h1 x.1), decide_eq_true (show i < a by omega)]
    simp
theorem spanI_uw (p n : Int) (hp : 0 ≤ p) (hn : 0 ≤ n) (h : p + n ≤ 64) : spanI p n = uw (spanW p.toNat n.toNat) := by
  have h1 : IntKind.i64.wrap (64 - n) = 64 - n := Go.IntWalk.i64_in _ (by omega)
  have eA : (18446744073709551615 : Int) = uw (BitVec.allOnes 64) := rfl
  unfold spanI
  rw [h1, eA, uw_shr, uw_shl]
  unfold spanW
  congr 3
  omega
/-- How long the lowest run is. -/
def tzn (L : BitVec 64) : Nat := tz (~~~ (L >>> tz L))
/-- What is left behind the lowest run. -/
def nextW (L : BitVec 64) : BitVec 64 := L &&& ~~~ spanW (tz L) (tzn L)
theorem nbit (L : BitVec 64) (i : Nat) : (~~~ (L >>> tz L)).getLsbD i = (decide (i < 64) && !L.getLsbD (tz L + i)) := by
  rw [BitVec.getLsbD_not, BitVec.getLsbD_ushiftRight]
theorem nne {L : BitVec 64} (h : L ≠ 0#64) (h1 : tzn L = 64) : tz L = 0 ∧ ∀ i, i < 64 → L.getLsbD i = true := by
  have hz := tz_lt h
  have hb : ∀ i, i < 64 → L.getLsbD (tz L + i) = true := by
    intro i hi
    have := tz_below (X := ~~~ (L >>> tz L)) (i := i) (by show i < tzn L; omega)
    rw [nbit, decide_eq_true hi] at this
    simpa using this
  have h0 : tz L = 0 := by
    rcases Nat.eq_zero_or_pos (tz L) with h | h
    · exact h
    · have := hb (64 - tz L) (by omega)
      rw [BitVec.getLsbD_of_ge _ _ (by omega)] at this
      cases this
  refine ⟨h0, fun i hi => ?_⟩
  have := hb i hi
  rwa [h0, Nat.zero_add] at this
/-- The lowest run. -/
theorem low_run {L : BitVec 64} (h : L ≠ 0#64) : 1 ≤ tzn L ∧ tz L + tzn L ≤ 64 ∧ (∀ i, i < tz L → L.getLsbD i = false) ∧ (∀ i, tz L ≤ i → i < tz L + tzn L → L.getLsbD i = true) ∧ L.getLsbD (tz L + tzn L) = false := by
  have hz := tz_lt h
  have hk : tzn L ≤ 64 := tz_le _
  have hone : ∀ i, i < tzn L → L.getLsbD (tz L + i) = true := by
    intro i hi
    have := tz_below (X := ~~~ (L >>> tz L)) (i := i) hi
    rw [nbit, decide_eq_true (show i < 64 by omega)] at this
    simpa using this
  refine ⟨?_, ?_, fun i hi => tz_below hi, fun i h1 h2 => ?_, ?_⟩
  · rcases Nat.eq_zero_or_pos (tzn L) with h0 | h0
    · have hne : ~~~ (L >>> tz L) ≠ 0#64 := by
        intro e
        have : tzn L = 64 := by unfold tzn; rw [e, tz_zero]
        omega
      have := tz_bit hne
      rw [show tz (~~~ (L >>> tz L)) = 0 from h0, nbit] at this
      rw [Nat.add_zero, tz_bit h] at this
      simp at this
    · exact h0
  · rcases Nat.lt_or_ge 64 (tz L + tzn L) with h1 | h1
    · have := hone (64 - tz L) (by omega)
      rw [BitVec.getLsbD_of_ge _ _ (by omega)] at this
      cases this
    · exact h1
  · have := hone (i - tz L) (by omega)
    rwa [show tz L + (i - tz L) = i by omega] at this
  · by_cases hne : ~~~ (L >>> tz L) = 0#64
    · have : tzn L = 64 := by unfold tzn; rw [hne, tz_zero]
      exact BitVec.getLsbD_of_ge _ _ (by omega)
    · have := tz_bit hne
      rw [nbit] at this
      simp at this
      exact this.2
theorem nextW_bit {L : BitVec 64} (h : L ≠ 0#64) (i : Nat) : (nextW L).getLsbD i = (decide (tz L + tzn L ≤ i) && L.getLsbD i) := by
  obtain ⟨h1, h2, h3, h4, h5⟩ := low_run h
  unfold nextW
  rw [BitVec.getLsbD_and, BitVec.getLsbD_not, spanW_bit _ _ _ h2]
  by_cases k1 : i < tz L
  · rw [h3 i k1]; simp
  · by_cases k2 : i < tz L + tzn L
    · rw [decide_eq_true (show tz L ≤ i ∧ i < tz L + tzn L by omega), decide_eq_false (show ¬ tz L + tzn L ≤ i by omega)]
      simp
    · rw [decide_eq_false (show ¬ (tz L ≤ i ∧ i < tz L + tzn L) by omega), decide_eq_true (show tz L + tzn L ≤ i by omega)]
      by_cases k3 : i < 64
      · rw [decide_eq_true k3]; simp
      · rw [BitVec.getLsbD_of_ge _ _ (by omega)]; simp
/-- What is left of X from the place p on; there is no page at p, unless it is the first one. -/
structure Part (X L : BitVec 64) (p : Nat) : Prop where
  le : p ≤ 64
  bits : ∀ i, L.getLsbD i = (decide (p ≤ i) && X.getLsbD i)
  at0 : p = 0 ∨ X.getLsbD p = false
theorem Part.start (X : BitVec 64) : Part X X 0 := ⟨Nat.zero_le _, fun i => by simp, .inl rfl⟩
/-- The next run of X. -/
structure NextRun (X : BitVec 64) (p a n : Nat) : Prop where
  pa : p ≤ a
  n1 : 1 ≤ n
  le : a + n ≤ 64
  gap : ∀ i, p ≤ i → i < a → X.getLsbD i = false
  all : ∀ i, a ≤ i → i < a + n → X.getLsbD i = true
  hi : X.getLsbD (a + n) = false
  lo : a = 0 ∨ X.getLsbD (a - 1) = false
theorem Part.next {X L : BitVec 64} {p : Nat} (hp : Part X L p) (h : L ≠ 0#64) : NextRun X p (tz L) (tzn L) ∧ Part X (nextW L) (tz L + tzn L) := by
  obtain ⟨h1, h2, h3, h4, h5⟩ := low_run h
  have hpa : p ≤ tz L := by
    have := hp.bits (tz L)
    rw [tz_bit h] at this
    simp at this
    exact this.1
  have hx : ∀ i, p ≤ i → X.getLsbD i = L.getLsbD i := fun i hi => by rw [hp.bits i, decide_eq_true hi, Bool.true_and]
  have hX5 : X.getLsbD (tz L + tzn L) = false := by rw [hx _ (by omega)]; exact h5
  refine ⟨⟨hpa, h1, h2, fun i k1 k2 => ?_, fun i k1 k2 => ?_, hX5, ?_⟩, ⟨h2, fun i => ?_, .inr hX5⟩⟩
  · rw [hx i k1]; exact h3 i k2
  · rw [hx i (by omega)]; exact h4 i k1 k2
  · rcases Nat.eq_zero_or_pos (tz L) with k | k
    · exact .inl k
    · refine .inr ?_
      by_cases k2 : p ≤ tz L - 1
      · rw [hx _ k2]; exact h3 _ (by omega)
      · have e : p = tz L := by omega
        rcases hp.at0 with k3 | k3
        · omega
        · have := hx p (Nat.le_refl _)
          rw [k3, e, tz_bit h] at this
          cases this
  · rw [nextW_bit h]
    by_cases k : tz L + tzn L ≤ i
    · rw [decide_eq_true k, hx i (by omega)]
    · rw [decide_eq_false k]; simp
theorem Part.done {X : BitVec 64} {p : Nat} (hp : Part X 0#64 p) (i : Nat) (h : p ≤ i) : X.getLsbD i = false := by
  have := hp.bits i
  rw [decide_eq_true h] at this
  simpa using this.symm
/-! As the program's operations make them. -/
theorem ari_n (L : BitVec 64) : ari .xor .u64 18446744073709551615 (ari .shr .u64 (uw L) (tz L : Nat)) = uw (~~~ (L >>> tz L)) := by
  rw [ari_uw_shr, ari_uw_not, Int.toNat_natCast]
theorem tzI_n (L : BitVec 64) : tzI (ari .xor .u64 18446744073709551615 (ari .shr .u64 (uw L) (tz L : Nat))) = (tzn L : Nat) := by
  rw [ari_n, tzI_uw]; rfl
theorem ari_next {L : BitVec 64} (h : L ≠ 0#64) : ari .andNot .u64 (uw L) (spanI (tz L : Nat) (tzn L : Nat)) = uw (nextW L) := by
  obtain ⟨h1, h2, _⟩ := low_run h
  rw [spanI_uw _ _ (by omega) (by omega) (by omega), ari_uw_andNot, Int.toNat_natCast, Int.toNat_natCast]
  rfl
end Go.Proofs.YtfgkainnkbbanaaDoor
/- Of runs: Give, Take and Find: what they answer. No condition. -/
namespace Go.Proofs.YtfgkainnkbbanaaDoor
set_option maxRecDepth 100000
theorem tzn_def (L : BitVec 64) : tz (~~~ (L >>> tz L)) = tzn L := rfl
theorem uw_ne_false (L : BitVec 64) (h : L = 0#64) : (uw L != 0) = false := by subst h; rfl
theorem uw_ne_true (L : BitVec 64) (h : L ≠ 0#64) : (uw L != 0) = true := by
  have := uw_zero_iff L
  rw [decide_eq_false h] at this
  unfold bne
  rw [this]; rfl
theorem opN_good {c : List SFr} {A : SV → SMem → Prop} {Q : Int → Prop} (hg : ∀ left, Q left → Good EC.P A 0 (opH c left) (opM c)) {fs : List SFr} {m : SMem} (h : opN c Q fs m) : Good EC.P A 0 fs m := by
  unfold opN at h
  split at h
  · exact Good.of_sub h.2 (hg _ h.1)
  · exact h.elim
theorem opN0_good {c : List SFr} {A : SV → SMem → Prop} {Q : Int → Prop} (hg : ∀ left, Q left → Good EC.P A 0 (opH c left) (opM c)) {fs : List SFr} {m : SMem} (h : opN0 c Q fs m) : Good EC.P A 0 fs m := by
  unfold opN0 at h
  split at h
  · exact Good.of_sub h.2 (Good.head (hg _ h.1))
  · exact h.elim
theorem mayB_iff {p n : Int} : mayB p n = true ↔ 1 ≤ n ∧ 0 ≤ p ∧ p < 64 ∧ n ≤ 64 - p := by unfold mayB; rw [decide_eq_true_eq]
/-- Are the pages of a run so? -/
def allIn (X : BitVec 64) (a n : Nat) (b : Bool) : Bool := decide (∀ i : Fin 64, a ≤ i.val → i.val < a + n → X.getLsbD i.val = b)
theorem allIn_iff {X : BitVec 64} {a n : Nat} {b : Bool} (h : a + n ≤ 64) : allIn X a n b = true ↔ ∀ i, a ≤ i → i < a + n → X.getLsbD i = b := by
  unfold allIn
  rw [decide_eq_true_eq]
  exact ⟨fun k i h1 h2 => k ⟨i, by omega⟩ h1 h2, fun k i h1 h2 => k i.val h1 h2⟩
def giveOk (X : BitVec 64) (p n : Int) : Bool := mayB p n && allIn X p.toNat n.toNat false
def giveW (X : BitVec 64) (p n : Int) : BitVec 64 := if giveOk X p n = true then X ||| spanW p.toNat n.toNat else X
def takeOk (X : BitVec 64) (p n : Int) : Bool := mayB p n && allIn X p.toNat n.toNat true
def takeW (X : BitVec 64) (p n : Int) : BitVec 64 := if takeOk X p n = true then X &&& ~~~ spanW p.toNat n.toNat else X
section
variable (X : BitVec 64) (p n : Int)
theorem give_no (h : giveOk X p n = false) : giveW X p n = X := by unfold giveW; rw [h]; rfl
theorem give_yes (h : giveOk X p n = true) : uw (giveW X p n) = ari .or .u64 (uw X) (spanI p n) := by
  have hm := mayB_iff.1 (show mayB p n = true by unfold giveOk at h; simp at h; exact h.1)
  unfold giveW
  rw [if_pos h, spanI_uw p n (by omega) (by omega) (by omega), ari_uw_or]
theorem take_no (h : takeOk X p n = false) : takeW X p n = X := by unfold takeW; rw [h]; rfl
theorem take_yes (h : takeOk X p n = true) : uw (takeW X p n) = ari .andNot .u64 (uw X) (spanI p n) := by
  have hm := mayB_iff.1 (show mayB p n = true by unfold takeOk at h; simp at h; exact h.1)
  unfold takeW
  rw [if_pos h, spanI_uw p n (by omega) (by omega) (by omega), ari_uw_andNot]
theorem nz_run {L : BitVec 64} (h : L ≠ 0#64) : ((tz L : Nat) == (0 : Int) && (tzn L : Nat) == (0 : Int)) = false := by
  have := (low_run h).1
  have : ((tzn L : Nat) == (0 : Int)) = false := by
    rw [beq_eq_false_iff_ne]; omega
  rw [this, Bool.and_false]
theorem give_good (hm : mayB p n = true) : ∀ (k : Nat) (L : BitVec 64) (q : Nat), 64 - q < k → Part X L q → (∀ i, p.toNat ≤ i → i < p.toNat + n.toNat → i < q → X.getLsbD i = false) →
    Good EC.P (opA (setB (uw (giveW X p n)) (giveOk X p n))) 0 (opH (giveC (uw X) p n) (uw L)) (opM (giveC (uw X) p n)) := by
  have hm' := mayB_iff.1 hm
  have hi64 : ∀ t : Int, 0 ≤ t → t ≤ 128 → IntKind.i64.wrap t = t := fun t h1 h2 => Go.IntWalk.i64_in _ (by omega)
  intro k
  induction k with
  | zero => intro L q h; omega
  | succ k ih =>
    intro L q hk hP hI
    refine past_vc EC_ok 1000 (give_step (uw X) p n (uw L) (uw (giveW X p n)) (giveOk X p n) (fun left => ∃ L' q', left = uw L' ∧ 64 - q' < k ∧ Part X L' q' ∧ (∀ i, p.toNat ≤ i → i < p.toNat + n.toNat → i < q' → X.getLsbD i = false))) ?_ (fun _ _ h => h)
      (fun fs m hb => opN_good (fun left ⟨L', q', e, k1, k2, k3⟩ => by rw [e]; exact ih L' q' k1 k2 k3) hb)
    by_cases hL : L = 0#64
    · subst hL
      have hok : giveOk X p n = true := by
        unfold giveOk
        rw [hm, Bool.true_and, allIn_iff (by omega)]
        intro i h1 h2
        by_cases h3 : i < q
        · exact hI i h1 h2 h3
        · exact hP.done i (by omega)
      refine ⟨fun h => ?_, fun _ => ?_⟩
      · cases h
      · exact ⟨⟨by rw [hi64 _ (by omega) (by omega)]; omega, by omega, trivial⟩, give_yes X p n hok, hok, trivial⟩
    · obtain ⟨hr, hP'⟩ := hP.next hL
      have ha := tz_lt hL
      rw [uw_ne_true L hL]
      simp only [tzI_uw, ari_n, tzn_def, ofInt_uw, ari_next hL, nz_run hL, Bool.not_false, ari_add]
      have e1 : IntKind.i64.wrap (p + n) = p + n := hi64 _ (by omega) (by omega)
      have e2 : IntKind.i64.wrap ((tz L : Nat) + (tzn L : Nat)) = ((tz L : Nat) + (tzn L : Nat) : Int) := hi64 _ (by omega) (by have := hr.le; omega)
      have e3 : IntKind.i64.wrap (64 - n) = 64 - n := hi64 _ (by omega) (by omega)
      have e4 : IntKind.i64.wrap (64 - (tzn L : Nat)) = 64 - (tzn L : Nat) := hi64 _ (by have := hr.le; omega) (by omega)
      rw [e1, e2, e3, e4]
      have hgo : (¬ ((tz L : Nat) < p + n) ∨ ¬ (p < (tz L : Nat) + (tzn L : Nat))) → ∃ L' q', uw (nextW L) = uw L' ∧ 64 - q' < k ∧ Part X L' q' ∧ (∀ i, p.toNat ≤ i → i < p.toNat + n.toNat → i < q' → X.getLsbD i = false) := by
        intro hc
        refine ⟨nextW L, tz L + tzn L, rfl, by have := hr.n1; have := hr.le; have := hr.pa; omega, hP', fun i h1 h2 h3 => ?_⟩
        by_cases h4 : i < q
        · exact hI i h1 h2 h4
        · by_cases h5 : i < tz L
          · exact hr.gap i (by omega) h5
          · omega
      have hno : ((tz L : Nat) < p + n) → (p < (tz L : Nat) + (tzn L : Nat)) → giveOk X p n = false := by
        intro c1 c2
        cases h : giveOk X p n with
        | false => rfl
        | true =>
          unfold giveOk at h
          rw [hm, Bool.true_and, allIn_iff (by omega)] at h
          have h1 := h (max p.toNat (tz L)) (by omega) (by omega)
          have h2 := hr.all (max p.toNat (tz L)) (by omega) (by have := hr.n1; omega)
          rw [h1] at h2
          cases h2
      have hle := hr.le
      refine ⟨fun _ => ⟨⟨trivial, trivial⟩, ⟨by omega, trivial⟩, ⟨trivial, trivial⟩, fun c1 => ⟨fun c2 => ⟨fun _ => ?_, fun h => ?_⟩, fun c2 => ⟨⟨by omega, by omega, trivial⟩, hgo (by simp at c2; omega), ?_⟩⟩, fun c1 => ⟨⟨by omega, by omega, trivial⟩, hgo (by simp at c1; omega), ?_⟩⟩, fun h => ?_⟩
      all_goals first | (cases h; done) | skip
      · have h0 := hno (by simpa using c1) (by simpa using c2)
        exact ⟨by rw [give_no X p n h0], h0, trivial⟩
      all_goals repeat' first | exact trivial | apply And.intro | exact rfl
theorem take_good (hm : mayB p n = true) : ∀ (k : Nat) (L : BitVec 64) (q : Nat), 64 - q < k → Part X L q → (q ≤ p.toNat ∨ ∃ i, p.toNat ≤ i ∧ i < p.toNat + n.toNat ∧ X.getLsbD i = false) →
    Good EC.P (opA (setB (uw (takeW X p n)) (takeOk X p n))) 0 (opH (takeC (uw X) p n) (uw L)) (opM (takeC (uw X) p n)) := by
  have hm' := mayB_iff.1 hm
  have hi64 : ∀ t : Int, 0 ≤ t → t ≤ 128 → IntKind.i64.wrap t = t := fun t h1 h2 => Go.IntWalk.i64_in _ (by omega)
  have hnot : (∃ i, p.toNat ≤ i ∧ i < p.toNat + n.toNat ∧ X.getLsbD i = false) → takeOk X p n = false := by
    rintro ⟨i, h1, h2, h3⟩
    cases h : takeOk X p n with
    | false => rfl
    | true =>
      unfold takeOk at h
      rw [hm, Bool.true_and, allIn_iff (by omega)] at h
      rw [h i h1 h2] at h3
      cases h3
  intro k
  induction k with
  | zero => intro L q h; omega
  | succ k ih =>
    intro L q hk hP hI
    refine past_vc EC_ok 1000 (take_step (uw X) p n (uw L) (uw (takeW X p n)) (takeOk X p n) (fun left => ∃ L' q', left = uw L' ∧ 64 - q' < k ∧ Part X L' q' ∧ (q' ≤ p.toNat ∨ ∃ i, p.toNat ≤ i ∧ i < p.toNat + n.toNat ∧ X.getLsbD i = false))) ?_ (fun _ _ h => h)
      (fun fs m hb => opN_good (fun left ⟨L', q', e, k1, k2, k3⟩ => by rw [e]; exact ih L' q' k1 k2 k3) hb)
    by_cases hL : L = 0#64
    · subst hL
      have hok : takeOk X p n = false := by
        rcases hI with h | h
        · exact hnot ⟨p.toNat, Nat.le_refl _, by omega, hP.done _ h⟩
        · exact hnot h
      refine ⟨fun h => ?_, fun _ => ?_⟩
      · cases h
      · exact ⟨by rw [take_no X p n hok], hok, trivial⟩
    · obtain ⟨hr, hP'⟩ := hP.next hL
      have ha := tz_lt hL
      rw [uw_ne_true L hL]
      simp only [tzI_uw, ari_n, tzn_def, ofInt_uw, ari_next hL, nz_run hL, ari_add]
      have hle := hr.le
      have hpa := hr.pa
      have hn1 := hr.n1
      have e1 : IntKind.i64.wrap (p + n) = p + n := hi64 _ (by omega) (by omega)
      have e2 : IntKind.i64.wrap ((tz L : Nat) + (tzn L : Nat)) = ((tz L : Nat) + (tzn L : Nat) : Int) := hi64 _ (by omega) (by omega)
      have e3 : IntKind.i64.wrap (64 - n) = 64 - n := hi64 _ (by omega) (by omega)
      have e4 : IntKind.i64.wrap (64 - (tzn L : Nat)) = 64 - (tzn L : Nat) := hi64 _ (by omega) (by omega)
      rw [e1, e2, e3, e4]
      have hlt : 64 - (tz L + tzn L) < k := by clear hI hnot; omega
      have hgo : (¬ ((tz L : Nat) ≤ p) ∨ ¬ (p + n ≤ (tz L : Nat) + (tzn L : Nat))) → ∃ L' q', uw (nextW L) = uw L' ∧ 64 - q' < k ∧ Part X L' q' ∧ (q' ≤ p.toNat ∨ ∃ i, p.toNat ≤ i ∧ i < p.toNat + n.toNat ∧ X.getLsbD i = false) := by
        intro hc
        refine ⟨nextW L, tz L + tzn L, rfl, hlt, hP', ?_⟩
        rcases hI with h | h
        · by_cases h1 : tz L + tzn L ≤ p.toNat
          · exact .inl h1
          · by_cases h2 : p.toNat < tz L
            · exact .inr ⟨p.toNat, Nat.le_refl _, by omega, hr.gap _ h h2⟩
            · exact .inr ⟨tz L + tzn L, by omega, by omega, hr.hi⟩
        · exact .inr h
      have hyes : ((tz L : Nat) ≤ p) → (p + n ≤ (tz L : Nat) + (tzn L : Nat)) → takeOk X p n = true := by
        intro c1 c2
        unfold takeOk
        rw [hm, Bool.true_and, allIn_iff (by omega)]
        exact fun i h1 h2 => hr.all i (by omega) (by omega)
      refine ⟨fun _ => ⟨⟨trivial, trivial⟩, ⟨by omega, trivial⟩, ⟨trivial, trivial⟩, fun c1 => ⟨fun c2 => ⟨fun h => ?_, fun _ => ?_⟩, fun c2 => ⟨⟨by omega, by omega, trivial⟩, hgo (by simp at c2; omega), ?_⟩⟩, fun c1 => ⟨⟨by omega, by omega, trivial⟩, hgo (by simp at c1; omega), ?_⟩⟩, fun h => ?_⟩
      all_goals first | (cases h; done) | skip
      · have h0 := hyes (by simpa using c1) (by simpa using c2)
        exact ⟨⟨by omega, by omega, trivial⟩, take_yes X p n h0, h0, trivial⟩
      all_goals repeat' first | exact trivial | apply And.intro | exact rfl
end
/-- The least place from one on that is so. -/
def seek (P : Nat → Bool) : Nat → Nat → Option Nat
  | 0, _ => none
  | k + 1, a => match P a with
    | true => some a
    | false => seek P k (a + 1)
theorem seek_some {P : Nat → Bool} : ∀ {k a b : Nat}, seek P k a = some b → a ≤ b ∧ b < a + k ∧ P b = true ∧ ∀ i, a ≤ i → i < b → P i = false
  | 0, _, _, h => by cases h
  | k + 1, a, b, h => by
    unfold seek at h
    split at h
    · rename_i e; cases h; exact ⟨Nat.le_refl _, by omega, e, fun i h1 h2 => by omega⟩
    · rename_i e
      obtain ⟨h1, h2, h3, h4⟩ := seek_some h
      refine ⟨by omega, by omega, h3, fun i k1 k2 => ?_⟩
      rcases Nat.lt_or_ge a i with k3 | k3
      · exact h4 i k3 k2
      · have : i = a := by omega
        subst this; exact e
theorem seek_none {P : Nat → Bool} : ∀ {k a : Nat}, (∀ i, a ≤ i → i < a + k → P i = false) → seek P k a = none
  | 0, _, _ => rfl
  | k + 1, a, h => by
    unfold seek
    rw [h a (Nat.le_refl _) (by omega)]
    exact seek_none fun i h1 h2 => h i (by omega) (by omega)
theorem seek_of {P : Nat → Bool} : ∀ {k a b : Nat}, a ≤ b → b < a + k → P b = true → (∀ i, a ≤ i → i < b → P i = false) → seek P k a = some b
  | 0, _, _, _, _, _, _ => by omega
  | k + 1, a, b, h1, h2, h3, h4 => by
    unfold seek
    rcases Nat.lt_or_ge a b with h | h
    · rw [h4 a (Nat.le_refl _) h]
      exact seek_of (by omega) (by omega) h3 fun i k1 k2 => h4 i (by omega) k2
    · have : a = b := by omega
      subst this
      rw [h3]
theorem seek_noneD {P : Nat → Bool} : ∀ {k a : Nat}, seek P k a = none → ∀ i, a ≤ i → i < a + k → P i = false
  | 0, _, _, _, _, _ => by omega
  | k + 1, a, h, i, h1, h2 => by
    unfold seek at h
    split at h
    · cases h
    · rename_i e
      rcases Nat.lt_or_ge a i with k3 | k3
      · exact seek_noneD h i k3 (by omega)
      · have : i = a := by omega
        subst this; exact e
/-- Does a run lie there? -/
def fitsAt (X : BitVec 64) (n : Int) (a : Nat) : Bool := decide (1 ≤ n ∧ n + (a : Int) ≤ 64) && allIn X a n.toNat true
theorem fitsAt_iff {X : BitVec 64} {n : Int} {a : Nat} : fitsAt X n a = true ↔ 1 ≤ n ∧ n + (a : Int) ≤ 64 ∧ ∀ i, a ≤ i → i < a + n.toNat → X.getLsbD i = true := by
  unfold fitsAt
  rw [Bool.and_eq_true, decide_eq_true_eq]
  constructor
  · rintro ⟨⟨h1, h2⟩, h3⟩
    exact ⟨h1, h2, (allIn_iff (by omega)).1 h3⟩
  · rintro ⟨h1, h2, h3⟩
    exact ⟨⟨h1, h2⟩, (allIn_iff (by omega)).2 h3⟩
def findN (X : BitVec 64) (n : Int) : Option Nat := seek (fitsAt X n) 64 0
def findI (X : BitVec 64) (n : Int) : Int := match findN X n with | some a => (a : Nat) | none => 0
def findOk (X : BitVec 64) (n : Int) : Bool := (findN X n).isSome
theorem find_none {X : BitVec 64} {n : Int} (h : findN X n = none) : findI X n = 0 ∧ findOk X n = false := by
  unfold findI findOk; rw [h]; exact ⟨rfl, rfl⟩
theorem find_some {X : BitVec 64} {n : Int} {a : Nat} (h : findN X n = some a) : findI X n = (a : Nat) ∧ findOk X n = true := by
  unfold findI findOk; rw [h]; exact ⟨rfl, rfl⟩
section
variable (X : BitVec 64) (n : Int)
theorem find_good (hn : 1 ≤ n) : ∀ (k : Nat) (L : BitVec 64) (q : Nat), 64 - q < k → Part X L q → (∀ i, i < q → fitsAt X n i = false) →
    Good EC.P (opA (intB (findI X n) (findOk X n))) 0 (opH (findC (uw X) n) (uw L)) (opM (findC (uw X) n)) := by
  have hi64 : ∀ t : Int, 0 ≤ t → t ≤ 128 → IntKind.i64.wrap t = t := fun t h1 h2 => Go.IntWalk.i64_in _ (by omega)
  intro k
  induction k with
  | zero => intro L q h; omega
  | succ k ih =>
    intro L q hk hP hI
    refine past_vc EC_ok 1000 (find_step (uw X) n (uw L) (findI X n) (findOk X n) (fun left => ∃ L' q', left = uw L' ∧ 64 - q' < k ∧ Part X L' q' ∧ (∀ i, i < q' → fitsAt X n i = false))) ?_ (fun _ _ h => h)
      (fun fs m hb => opN_good (fun left ⟨L', q', e, k1, k2, k3⟩ => by rw [e]; exact ih L' q' k1 k2 k3) hb)
    by_cases hL : L = 0#64
    · subst hL
      have h0 : findN X n = none := by
        refine seek_none fun i _ _ => ?_
        by_cases h : i < q
        · exact hI i h
        · cases h1 : fitsAt X n i with
          | false => rfl
          | true =>
            obtain ⟨_, _, h3⟩ := fitsAt_iff.1 h1
            have := h3 i (Nat.le_refl _) (by omega)
            rw [hP.done i (by omega)] at this
            cases this
      obtain ⟨e1, e2⟩ := find_none h0
      refine ⟨fun h => ?_, fun _ => ⟨e1, e2, trivial⟩⟩
      cases h
    · obtain ⟨hr, hP'⟩ := hP.next hL
      have ha := tz_lt hL
      rw [uw_ne_true L hL]
      simp only [tzI_uw, ari_n, tzn_def, ofInt_uw, ari_next hL, nz_run hL, Bool.not_false]
      have hle := hr.le
      have hpa := hr.pa
      have hn1 := hr.n1
      have e4 : IntKind.i64.wrap (64 - (tzn L : Nat)) = 64 - (tzn L : Nat) := hi64 _ (by omega) (by omega)
      rw [e4]
      have hgap : ∀ i, i < tz L → fitsAt X n i = false := by
        intro i h
        by_cases h1 : i < q
        · exact hI i h1
        · cases h2 : fitsAt X n i with
          | false => rfl
          | true =>
            obtain ⟨_, _, h3⟩ := fitsAt_iff.1 h2
            have := h3 i (Nat.le_refl _) (by omega)
            rw [hr.gap i (by omega) h] at this
            cases this
      refine ⟨fun _ => ⟨⟨trivial, trivial⟩, ⟨by omega, trivial⟩, ⟨trivial, trivial⟩, fun c => ?_, fun c => ⟨⟨by omega, by omega, trivial⟩, ⟨nextW L, tz L + tzn L, rfl, by omega, hP', fun i h => ?_⟩, ?_⟩⟩, fun h => ?_⟩
      · have c : n ≤ (tzn L : Nat) := by simpa using c
        obtain ⟨e1, e2⟩ := find_some (seek_of (Nat.zero_le _) (by omega) (fitsAt_iff.2 ⟨hn, by omega, fun i h1 h2 => hr.all i h1 (by omega)⟩) fun i _ h => hgap i h)
        exact ⟨e1, e2, trivial⟩
      · have c : (tzn L : Nat) < n := by simpa using c
        by_cases h1 : i < tz L
        · exact hgap i h1
        · cases h2 : fitsAt X n i with
          | false => rfl
          | true =>
            obtain ⟨_, h4, h3⟩ := fitsAt_iff.1 h2
            have := h3 (tz L + tzn L) (by omega) (by omega)
            rw [hr.hi] at this
            cases this
      · repeat' first | exact trivial | apply And.intro | exact rfl
      · cases h
end
end Go.Proofs.YtfgkainnkbbanaaDoor
/- Of runs: All: its states. No condition. -/
namespace Go.Proofs.YtfgkainnkbbanaaDoor
noncomputable section
def allC (x : Int) : List SFr := [callFr 23 Tryd.f23.ntmps [setIs x] (Tryd.f23.body.getD .skip)]
def sliceA (id k : Nat) : SV := .s (.c (.f (.slice id (.l 0) (.o k) .any)))
/-- The memory, when a slice is there. -/
def allM (c : List SFr) (k : Nat) (cs : Array Value) : SMem :=
  let m := opM c
  ⟨m.next + 1, (putB m.bl 1 (.ls [.f (.slice m.next (.l 0) (.o k) (.full 2))])).set m.next (some ⟨.pop cs, 57, true⟩), m.xs⟩
def allS (c : List SFr) (left : Int) (k : Nat) (cs : Array Value) : Tree := stepT EC.go (run EC 1000) 0 (opH c left) (allM c k cs)
def allN (c : List SFr) (Q : Int → Nat → Array Value → Prop) (fs : List SFr) (m : SMem) : Prop :=
  match topInt 3 fs, getB m.bl 1 with
  | some left, some ⟨.ls [.f (.slice sid _ k _)], _, _⟩ => match getB m.bl sid with
    | some ⟨a, _, _⟩ => match rowOf a with
      | some cs => Q left k.den cs ∧ subOk 0 (idπ (opM c).next ++ [((opM c).next, sid)]) (opH c left) (allM c k.den cs) fs m
      | none => False
    | none => False
  | _, _ => False
def rowM (cs : Array Value) : SMem := ⟨1, Tr.nil.set 0 (some ⟨.pop cs, 57, true⟩), []⟩
/-- A row in a block of its own. -/
def allA (k : Nat) (cs : Array Value) (s : SV) (m : SMem) : Prop :=
  match s with
  | .s (.c (.f (.slice sid _ _ _))) => retOk 0 [(0, sid)] (sliceA 0 k) (rowM cs) s m
  | _ => False
def nilA : SV → SMem → Prop := retOk 0 [] (.s (.c (.f (.lit (.slice none 0 0))))) ⟨0, .nil, []⟩
def allT0 : List SIt := tdAt 0 (opF (allC 0) 0)
def allT1 : List SIt := tdAt 1 (opF (allC 0) 0)
def allH0 : List SIt := tdAt 0 (opH (allC 0) 0)
def allH1 : List SIt := tdAt 1 (opH (allC 0) 0)
def allLp : LoopP := getLp (loopAt 0 (opM (allC 0)))
end
end Go.Proofs.YtfgkainnkbbanaaDoor
/- Of runs: the loop of each below All, as propositions. No condition. -/
namespace Go.Proofs.YtfgkainnkbbanaaDoor
set_option maxRecDepth 100000
theorem all_start (x : Int) (Q : Int → Prop) : (opR (allC x)).vc (fun _ _ => False) (opN0 (allC x) Q) =
    (Q x ∧ CallKind.normal = CallKind.normal ∧ TodoOk (ren 0 [(0, 0), (1, 1), (2, 2), (3, 3), (4, 4)]) allT0 allT0 ∧ x = x ∧ x = x ∧ CallKind.normal = CallKind.normal ∧ TodoOk (ren 0 [(0, 0), (1, 1), (2, 2), (3, 3), (4, 4)]) allT1 allT1 ∧ x = x ∧ x = x ∧ Value.slice none (0 : Nat) (0 : Nat) = Value.slice none (0 : Nat) (0 : Nat) ∧ Fn.func (47 : Nat) = Fn.func (47 : Nat) ∧ (45 : Nat) = (45 : Nat) ∧ x = x ∧ (54 : Nat) = (54 : Nat) ∧ Value.slice none (0 : Nat) (0 : Nat) = Value.slice none (0 : Nat) (0 : Nat) ∧ (45 : Nat) = (45 : Nat) ∧ x = x ∧ EqL allLp allLp ∧ x = x ∧ x = x ∧ Value.slice none (0 : Nat) (0 : Nat) = Value.slice none (0 : Nat) (0 : Nat) ∧ Fn.func (47 : Nat) = Fn.func (47 : Nat) ∧ True) := by kernel_rfl
theorem all_none (x : Int) (Q : Int → Nat → Array Value → Prop) : (opS (allC x) 0).vcE nilA (allN (allC x) Q) =
    (false = false ∧ Value.slice none (0 : Nat) (0 : Nat) = Value.slice none (0 : Nat) (0 : Nat) ∧ True) := by kernel_rfl
theorem all_first (x left : Int) (kF : Nat) (csF : Array Value) (Q : Int → Nat → Array Value → Prop) : (opS (allC x) left).vcT (allA kF csF) (allN (allC x) Q) =
    ((left != (0 : Int)) = true ∧ (uw (BitVec.ofInt (64 : Nat) left) = left ∧ True) ∧ ((0 : Int) ≤ tzI left ∧ True) ∧ (uw (BitVec.ofInt (64 : Nat) (ari BinOp.xor IntKind.u64 (18446744073709551615 : Int) (ari BinOp.shr IntKind.u64 left (tzI left)))) = ari BinOp.xor IntKind.u64 (18446744073709551615 : Int) (ari BinOp.shr IntKind.u64 left (tzI left)) ∧ True) ∧ ((0 : Int) ≤ IntKind.wrap IntKind.i64 ((64 : Int) - tzI (ari BinOp.xor IntKind.u64 (18446744073709551615 : Int) (ari BinOp.shr IntKind.u64 left (tzI left)))) ∧ (0 : Int) ≤ tzI left ∧ True) ∧ Q (ari BinOp.andNot IntKind.u64 left (spanI (tzI left) (tzI (ari BinOp.xor IntKind.u64 (18446744073709551615 : Int) (ari BinOp.shr IntKind.u64 left (tzI left)))))) (1 : Nat) #[Value.int IntKind.i64 (tzI left), Value.int IntKind.i64 (tzI (ari BinOp.xor IntKind.u64 (18446744073709551615 : Int) (ari BinOp.shr IntKind.u64 left (tzI left))))] ∧ CallKind.normal = CallKind.normal ∧ TodoOk (ren 0 [(0, 0), (1, 1), (2, 2), (3, 3), (4, 4), (5, 7)]) allH0 allH0 ∧ ari BinOp.andNot IntKind.u64 left (spanI (tzI left) (tzI (ari BinOp.xor IntKind.u64 (18446744073709551615 : Int) (ari BinOp.shr IntKind.u64 left (tzI left))))) = ari BinOp.andNot IntKind.u64 left (spanI (tzI left) (tzI (ari BinOp.xor IntKind.u64 (18446744073709551615 : Int) (ari BinOp.shr IntKind.u64 left (tzI left))))) ∧ x = x ∧ CallKind.normal = CallKind.normal ∧ TodoOk (ren 0 [(0, 0), (1, 1), (2, 2), (3, 3), (4, 4), (5, 7)]) allH1 allH1 ∧ x = x ∧ x = x ∧ Value.slice none (0 : Nat) (0 : Nat) = Value.slice none (0 : Nat) (0 : Nat) ∧ Fn.func (47 : Nat) = Fn.func (47 : Nat) ∧ (45 : Nat) = (45 : Nat) ∧ x = x ∧ (54 : Nat) = (54 : Nat) ∧ (1 : Nat) = (1 : Nat) ∧ (57 : TypeId) = (57 : Nat) ∧ #[Value.int IntKind.i64 (tzI left), Value.int IntKind.i64 (tzI (ari BinOp.xor IntKind.u64 (18446744073709551615 : Int) (ari BinOp.shr IntKind.u64 left (tzI left))))] = #[Value.int IntKind.i64 (tzI left), Value.int IntKind.i64 (tzI (ari BinOp.xor IntKind.u64 (18446744073709551615 : Int) (ari BinOp.shr IntKind.u64 left (tzI left))))] ∧ (45 : Nat) = (45 : Nat) ∧ x = x ∧ EqL allLp allLp ∧ x = x ∧ x = x ∧ Value.slice none (0 : Nat) (0 : Nat) = Value.slice none (0 : Nat) (0 : Nat) ∧ Fn.func (47 : Nat) = Fn.func (47 : Nat) ∧ True) := by kernel_rfl
theorem all_step (x left : Int) (k kF : Nat) (cs csF : Array Value) (Q : Int → Nat → Array Value → Prop) : (allS (allC x) left k cs).vc (allA kF csF) (allN (allC x) Q) =
    (((left != (0 : Int)) = true → (uw (BitVec.ofInt (64 : Nat) left) = left ∧ True) ∧ ((0 : Int) ≤ tzI left ∧ True) ∧ (uw (BitVec.ofInt (64 : Nat) (ari BinOp.xor IntKind.u64 (18446744073709551615 : Int) (ari BinOp.shr IntKind.u64 left (tzI left)))) = ari BinOp.xor IntKind.u64 (18446744073709551615 : Int) (ari BinOp.shr IntKind.u64 left (tzI left)) ∧ True) ∧ (((k + 1) * 16 ≤ (140737488355328 : Nat) ∧ k + 1 ≤ (140737488355328 : Nat)) ∧ k * 2 = Array.size cs ∧ True) ∧ ((0 : Int) ≤ IntKind.wrap IntKind.i64 ((64 : Int) - tzI (ari BinOp.xor IntKind.u64 (18446744073709551615 : Int) (ari BinOp.shr IntKind.u64 left (tzI left)))) ∧ (0 : Int) ≤ tzI left ∧ True) ∧ Q (ari BinOp.andNot IntKind.u64 left (spanI (tzI left) (tzI (ari BinOp.xor IntKind.u64 (18446744073709551615 : Int) (ari BinOp.shr IntKind.u64 left (tzI left)))))) (k + 1) (cs ++ #[Value.int IntKind.i64 (tzI left), Value.int IntKind.i64 (tzI (ari BinOp.xor IntKind.u64 (18446744073709551615 : Int) (ari BinOp.shr IntKind.u64 left (tzI left))))]) ∧ CallKind.normal = CallKind.normal ∧ TodoOk (ren 0 [(0, 0), (1, 1), (2, 2), (3, 3), (4, 4), (5, 8)]) allH0 allH0 ∧ ari BinOp.andNot IntKind.u64 left (spanI (tzI left) (tzI (ari BinOp.xor IntKind.u64 (18446744073709551615 : Int) (ari BinOp.shr IntKind.u64 left (tzI left))))) = ari BinOp.andNot IntKind.u64 left (spanI (tzI left) (tzI (ari BinOp.xor IntKind.u64 (18446744073709551615 : Int) (ari BinOp.shr IntKind.u64 left (tzI left))))) ∧ x = x ∧ CallKind.normal = CallKind.normal ∧ TodoOk (ren 0 [(0, 0), (1, 1), (2, 2), (3, 3), (4, 4), (5, 8)]) allH1 allH1 ∧ x = x ∧ x = x ∧ Value.slice none (0 : Nat) (0 : Nat) = Value.slice none (0 : Nat) (0 : Nat) ∧ Fn.func (47 : Nat) = Fn.func (47 : Nat) ∧ (45 : Nat) = (45 : Nat) ∧ x = x ∧ (54 : Nat) = (54 : Nat) ∧ k + 1 = k + 1 ∧ (57 : TypeId) = (57 : Nat) ∧ cs ++ #[Value.int IntKind.i64 (tzI left), Value.int IntKind.i64 (tzI (ari BinOp.xor IntKind.u64 (18446744073709551615 : Int) (ari BinOp.shr IntKind.u64 left (tzI left))))] = cs ++ #[Value.int IntKind.i64 (tzI left), Value.int IntKind.i64 (tzI (ari BinOp.xor IntKind.u64 (18446744073709551615 : Int) (ari BinOp.shr IntKind.u64 left (tzI left))))] ∧ (45 : Nat) = (45 : Nat) ∧ x = x ∧ EqL allLp allLp ∧ x = x ∧ x = x ∧ Value.slice none (0 : Nat) (0 : Nat) = Value.slice none (0 : Nat) (0 : Nat) ∧ Fn.func (47 : Nat) = Fn.func (47 : Nat) ∧ True) ∧ ((left != (0 : Int)) = false → kF = k ∧ (57 : TypeId) = (57 : TypeId) ∧ csF = cs ∧ True)) := by kernel_rfl
end Go.Proofs.YtfgkainnkbbanaaDoor
/- Of runs: contracts of Give, Take, Find and All. No condition. -/
namespace Go.Proofs.YtfgkainnkbbanaaDoor
set_option maxRecDepth 100000
theorem setIs_one (X : BitVec 64) : setIs (uw X) = .s (.agg (.ls [.f (.int .u64 (.o (uw X)))])) := rfl
section
variable (X : BitVec 64) (p n : Int) (m : SMem)
theorem give_con : Con E0 34 [setIs (uw X), i64 (.o p), i64 (.o n)] m (needs [] (.ret (setB (uw (giveW X p n)) (giveOk X p n)) m)) := by
  refine Con.pure E0_ok (by kernel_rfl : E0.fn 34 = some Tryd.f34) (by kernel_rfl : Tryd.f34.body = some (Tryd.f34.body.getD .skip)) (by kernel_rfl) (by kernel_rfl) fun _ => ?_
  refine (Good.ret (m := ⟨0, .nil, []⟩) (s0m := ⟨0, .nil, []⟩) (s0 := setB (uw (giveW X p n)) (giveOk X p n)) [] ?_).mono fun _ _ h => h.1
  show Good EC.P _ 0 (giveC (uw X) p n) _
  by_cases hm : mayB p n = true
  · have hq : ∀ left, left = uw X → Good EC.P (opA (setB (uw (giveW X p n)) (giveOk X p n))) 0 (opH (giveC (uw X) p n) left) (opM (giveC (uw X) p n)) := by
      rintro _ rfl
      exact give_good X p n hm 65 X 0 (by omega) (Part.start X) fun i _ _ h => by omega
    refine run_vc EC_ok 1000 (give_start (uw X) p n (uw (giveW X p n)) (giveOk X p n) (fun left => left = uw X)) ?_ (fun _ _ h => h) (fun fs m hb => opN0_good hq hb)
    rw [hm]
    refine ⟨fun h => (by cases h), fun _ => ⟨rfl, ?_⟩⟩
    repeat' first | exact trivial | apply And.intro | exact rfl
  · have hm : mayB p n = false := by simpa using hm
    have h0 : giveOk X p n = false := by unfold giveOk; rw [hm]; rfl
    refine run_vc EC_ok 1000 (give_start (uw X) p n (uw (giveW X p n)) (giveOk X p n) (fun _ => False)) ?_ (fun _ _ h => h) (fun fs m hb => opN0_good (fun _ h => h.elim) hb)
    rw [hm]
    exact ⟨fun _ => ⟨by rw [give_no X p n h0], h0, trivial⟩, fun h => by cases h⟩
theorem take_con : Con E0 27 [setIs (uw X), i64 (.o p), i64 (.o n)] m (needs [] (.ret (setB (uw (takeW X p n)) (takeOk X p n)) m)) := by
  refine Con.pure E0_ok (by kernel_rfl : E0.fn 27 = some Tryd.f27) (by kernel_rfl : Tryd.f27.body = some (Tryd.f27.body.getD .skip)) (by kernel_rfl) (by kernel_rfl) fun _ => ?_
  refine (Good.ret (m := ⟨0, .nil, []⟩) (s0m := ⟨0, .nil, []⟩) (s0 := setB (uw (takeW X p n)) (takeOk X p n)) [] ?_).mono fun _ _ h => h.1
  show Good EC.P _ 0 (takeC (uw X) p n) _
  by_cases hm : mayB p n = true
  · have hq : ∀ left, left = uw X → Good EC.P (opA (setB (uw (takeW X p n)) (takeOk X p n))) 0 (opH (takeC (uw X) p n) left) (opM (takeC (uw X) p n)) := by
      rintro _ rfl
      exact take_good X p n hm 65 X 0 (by omega) (Part.start X) (.inl (Nat.zero_le _))
    refine run_vc EC_ok 1000 (take_start (uw X) p n (uw (takeW X p n)) (takeOk X p n) (fun left => left = uw X)) ?_ (fun _ _ h => h) (fun fs m hb => opN0_good hq hb)
    rw [hm]
    refine ⟨fun h => (by cases h), fun _ => ⟨rfl, ?_⟩⟩
    repeat' first | exact trivial | apply And.intro | exact rfl
  · have hm : mayB p n = false := by simpa using hm
    have h0 : takeOk X p n = false := by unfold takeOk; rw [hm]; rfl
    refine run_vc EC_ok 1000 (take_start (uw X) p n (uw (takeW X p n)) (takeOk X p n) (fun _ => False)) ?_ (fun _ _ h => h) (fun fs m hb => opN0_good (fun _ h => h.elim) hb)
    rw [hm]
    exact ⟨fun _ => ⟨by rw [take_no X p n h0], h0, trivial⟩, fun h => by cases h⟩
theorem find_con : Con E0 26 [setIs (uw X), i64 (.o n)] m (needs [] (.ret (intB (findI X n) (findOk X n)) m)) := by
  refine Con.pure E0_ok (by kernel_rfl : E0.fn 26 = some Tryd.f26) (by kernel_rfl : Tryd.f26.body = some (Tryd.f26.body.getD .skip)) (by kernel_rfl) (by kernel_rfl) fun _ => ?_
  refine (Good.ret (m := ⟨0, .nil, []⟩) (s0m := ⟨0, .nil, []⟩) (s0 := intB (findI X n) (findOk X n)) [] ?_).mono fun _ _ h => h.1
  show Good EC.P _ 0 (findC (uw X) n) _
  by_cases hn : n < 1
  · have h0 : findN X n = none := seek_none fun i _ _ => by
      cases h : fitsAt X n i with
      | false => rfl
      | true => have := (fitsAt_iff.1 h).1; omega
    obtain ⟨e1, e2⟩ := find_none h0
    refine run_vc EC_ok 1000 (find_start (uw X) n (findI X n) (findOk X n) (fun _ => False)) ?_ (fun _ _ h => h) (fun fs m hb => opN0_good (fun _ h => h.elim) hb)
    rw [decide_eq_true hn]
    exact ⟨fun _ => ⟨e1, e2, trivial⟩, fun h => by cases h⟩
  · have hq : ∀ left, left = uw X → Good EC.P (opA (intB (findI X n) (findOk X n))) 0 (opH (findC (uw X) n) left) (opM (findC (uw X) n)) := by
      rintro _ rfl
      exact find_good X n (by omega) 65 X 0 (by omega) (Part.start X) fun i h => by omega
    refine run_vc EC_ok 1000 (find_start (uw X) n (findI X n) (findOk X n) (fun left => left = uw X)) ?_ (fun _ _ h => h) (fun fs m hb => opN0_good hq hb)
    rw [decide_eq_false hn]
    refine ⟨fun h => (by cases h), fun _ => ⟨rfl, ?_⟩⟩
    repeat' first | exact trivial | apply And.intro | exact rfl
end
/-- The runs that are left, at most so many. -/
def runsL : Nat → BitVec 64 → List (Nat × Nat)
  | 0, _ => []
  | k + 1, L => if L = 0#64 then [] else (tz L, tzn L) :: runsL k (nextW L)
theorem runsL_succ (k : Nat) (L : BitVec 64) : runsL (k + 1) L = if L = 0#64 then [] else (tz L, tzn L) :: runsL k (nextW L) := rfl
def runsOf (X : BitVec 64) : List (Nat × Nat) := runsL 65 X
def cellsOf : List (Nat × Nat) → List Value
  | [] => []
  | r :: l => .int .i64 (r.1 : Nat) :: .int .i64 (r.2 : Nat) :: cellsOf l
theorem cellsOf_app : ∀ l m : List (Nat × Nat), cellsOf (l ++ m) = cellsOf l ++ cellsOf m
  | [], _ => rfl
  | r :: l, m => by simp only [List.cons_append, cellsOf, cellsOf_app l m]
theorem cellsOf_len : ∀ l : List (Nat × Nat), (cellsOf l).length = l.length * 2
  | [] => rfl
  | r :: l => by simp only [cellsOf, List.length_cons, cellsOf_len l]; omega
def runsN (X : BitVec 64) : Nat := (runsOf X).length
def runsC (X : BitVec 64) : Array Value := (cellsOf (runsOf X)).toArray
theorem allN_good {c : List SFr} {A : SV → SMem → Prop} {Q : Int → Nat → Array Value → Prop} (hg : ∀ left k cs, Q left k cs → Good EC.P A 0 (opH c left) (allM c k cs)) {fs : List SFr} {m : SMem} (h : allN c Q fs m) : Good EC.P A 0 fs m := by
  unfold allN at h
  split at h
  · split at h
    · split at h
      · exact Good.of_sub h.2 (hg _ _ _ h.1)
      · exact h.elim
    · exact h.elim
  · exact h.elim
section
variable (X : BitVec 64)
def AllQ (j : Nat) (left : Int) (k : Nat) (cs : Array Value) : Prop := ∃ L q pre, left = uw L ∧ 64 - q < j ∧ Part X L q ∧ k = pre.length ∧ cs = (cellsOf pre).toArray ∧ pre.length + j ≤ 65 ∧ pre ++ runsL j L = runsOf X
theorem all_good : ∀ (j : Nat) (left : Int) (k : Nat) (cs : Array Value), AllQ X j left k cs →
    Good EC.P (allA (runsN X) (runsC X)) 0 (opH (allC (uw X)) left) (allM (allC (uw X)) k cs) := by
  have hi64 : ∀ t : Int, 0 ≤ t → t ≤ 128 → IntKind.i64.wrap t = t := fun t h1 h2 => Go.IntWalk.i64_in _ (by omega)
  intro j
  induction j with
  | zero => rintro left k cs ⟨L, q, pre, _, h, _⟩; omega
  | succ j ih =>
    rintro left k cs ⟨L, q, pre, rfl, hq, hP, rfl, rfl, hlen, hpre⟩
    refine past_vc EC_ok 1000 (all_step (uw X) (uw L) pre.length (runsN X) (cellsOf pre).toArray (runsC X) (AllQ X j)) ?_ (fun _ _ h => h) (fun fs m hb => allN_good (fun left k cs h => ih left k cs h) hb)
    by_cases hL : L = 0#64
    · subst hL
      refine ⟨fun h => ?_, fun _ => ?_⟩
      · cases h
      · have : runsOf X = pre := by rw [← hpre]; simp [runsL]
        exact ⟨by unfold runsN; rw [this], rfl, by unfold runsC; rw [this], trivial⟩
    · obtain ⟨hr, hP'⟩ := hP.next hL
      rw [uw_ne_true L hL]
      simp only [tzI_uw, ari_n, tzn_def, ofInt_uw, ari_next hL]
      have hle := hr.le
      have hpa := hr.pa
      have hn1 := hr.n1
      have e4 : IntKind.i64.wrap (64 - (tzn L : Nat)) = 64 - (tzn L : Nat) := hi64 _ (by omega) (by omega)
      rw [e4]
      refine ⟨fun _ => ⟨⟨trivial, trivial⟩, ⟨by omega, trivial⟩, ⟨trivial, trivial⟩, ⟨⟨by omega, by omega⟩, by rw [List.size_toArray, cellsOf_len], trivial⟩, ⟨by omega, by omega, trivial⟩, ?_, ?_⟩, fun h => by cases h⟩
      · refine ⟨nextW L, tz L + tzn L, pre ++ [(tz L, tzn L)], rfl, by omega, hP', by simp, ?_, by simp; omega, ?_⟩
        · rw [cellsOf_app]
          simp [cellsOf]
        · rw [List.append_assoc, ← hpre]
          rw [runsL_succ, if_neg hL]
          rfl
      · repeat' first | exact trivial | apply And.intro | exact rfl
/-- All of a set that has pages. -/
theorem all_con (h0 : X ≠ 0#64) (m : SMem) : Con E0 23 [setIs (uw X)] m (needs [] (.ret (sliceA m.next (runsN X)) (m.new (.pop (runsC X)) 57))) := by
  refine Con.fresh E0_ok (by kernel_rfl : E0.fn 23 = some Tryd.f23) (by kernel_rfl : Tryd.f23.body = some (Tryd.f23.body.getD .skip)) (by kernel_rfl) rfl fun _ => ?_
  show Good EC.P _ 0 (allC (uw X)) _
  refine Good.retX ((?_ : Good EC.P (allA (runsN X) (runsC X)) 0 (allC (uw X)) _).mono fun s m h => ?_)
  · refine run_vc EC_ok 1000 (all_start (uw X) (fun left => left = uw X)) ?_ (fun _ _ h => h.elim) (fun fs m hb => opN0_good (fun left e => ?_) hb)
    · refine ⟨rfl, ?_⟩
      repeat' first | exact trivial | apply And.intro | exact rfl
    · subst e
      refine past_T EC_ok 1000 (all_first (uw X) (uw X) (runsN X) (runsC X) (AllQ X 64)) ?_ (fun _ _ h => h) (fun fs m hb => allN_good (fun left k cs h => all_good X 64 left k cs h) hb)
      obtain ⟨hr, hP'⟩ := (Part.start X).next h0
      rw [uw_ne_true X h0]
      simp only [tzI_uw, ari_n, tzn_def, ofInt_uw, ari_next h0]
      have hle := hr.le
      have hn1 := hr.n1
      have e4 : IntKind.i64.wrap (64 - (tzn X : Nat)) = 64 - (tzn X : Nat) := Go.IntWalk.i64_in _ (by omega)
      rw [e4]
      refine ⟨trivial, ⟨trivial, trivial⟩, ⟨by omega, trivial⟩, ⟨trivial, trivial⟩, ⟨by omega, by omega, trivial⟩, ?_, ?_⟩
      · refine ⟨nextW X, tz X + tzn X, [(tz X, tzn X)], rfl, by omega, hP', rfl, rfl, by simp, ?_⟩
        unfold runsOf
        rw [runsL_succ 64, if_neg h0]
        rfl
      · repeat' first | exact trivial | apply And.intro | exact rfl
  · unfold allA at h
    split at h
    · exact ⟨_, h⟩
    · exact h.elim
/-- All of a set that has none. -/
theorem all_con0 (m : SMem) : Con E0 23 [setIs (uw 0#64)] m (needs [] (.ret (.s (.c (.f (.lit (.slice none 0 0))))) m)) := by
  refine Con.pure E0_ok (by kernel_rfl : E0.fn 23 = some Tryd.f23) (by kernel_rfl : Tryd.f23.body = some (Tryd.f23.body.getD .skip)) (by kernel_rfl) (by kernel_rfl) fun _ => ?_
  refine (Good.ret (m := ⟨0, .nil, []⟩) (s0m := ⟨0, .nil, []⟩) (s0 := .s (.c (.f (.lit (.slice none 0 0))))) [] ?_).mono fun _ _ h => h.1
  show Good EC.P _ 0 (allC (uw 0#64)) _
  refine run_vc EC_ok 1000 (all_start (uw 0#64) (fun left => left = uw 0#64)) ?_ (fun _ _ h => h.elim) (fun fs m hb => opN0_good (fun left e => ?_) hb)
  · refine ⟨rfl, ?_⟩
    repeat' first | exact trivial | apply And.intro | exact rfl
  · subst e
    refine past_E EC_ok 1000 (all_none (uw 0#64) (fun _ _ _ => False)) ⟨rfl, rfl, trivial⟩ (fun _ _ h => h) (fun fs m hb => allN_good (fun left k cs h => h.elim) hb)
end
end Go.Proofs.YtfgkainnkbbanaaDoor
/- Of runs: the environment of its laws. No condition. -/
namespace Go.Proofs.YtfgkainnkbbanaaDoor
noncomputable section
def wd (x : Int) : BitVec 64 := BitVec.ofInt 64 x
/-- The word behind a number is that number. -/
def isWd (x : Int) : Prop := uw (wd x) = x
theorem isWd_uw (X : BitVec 64) : isWd (uw X) := by unfold isWd wd; rw [ofInt_uw]
theorem wd_uw (X : BitVec 64) : wd (uw X) = X := by unfold wd; rw [ofInt_uw]
theorem Con.asked {E : Env} {g : FuncId} {l : List SV} {m : SMem} {q : List Prop} {t : Tree} (h : (∀ p ∈ q, p) → Con E g l m t) : Con E g l m (.need q t) := by
  intro A hs
  exact h hs.1 A hs.2
theorem Con.two {E : Env} {g : FuncId} {l : List SV} {m : SMem} {b : Bool} {t e : Tree} (ht : b = true → Con E g l m t) (he : b = false → Con E g l m e) : Con E g l m (.br b t e) := by
  intro A hs
  cases hb : b with
  | true => exact ht hb A (hs.1 hb)
  | false => exact he hb A (hs.2 hb)
theorem Con.plain {E : Env} {g : FuncId} {l : List SV} {m : SMem} {t : Tree} (h : Con E g l m (needs [] t)) : Con E g l m t := h
theorem Con.args {E : Env} {g : FuncId} {l l' : List SV} {m : SMem} {t : Tree} (h : ∀ R vs, All2 (SV.ok R) l vs → All2 (SV.ok R) l' vs) (hc : Con E g l' m t) : Con E g l m t := by
  intro A hs
  obtain ⟨fn, h1, h2, h3⟩ := hc A hs
  exact ⟨fn, h1, h2, fun n0 F w0 w R args hl hR => h3 n0 F w0 w R args (h R _ hl) hR⟩
theorem den_i {k : IntKind} {x : SI} {R : Ren} {v : Value} (h : (SV.s (.c (.f (.int k x)))).ok R v) : (SV.s (.c (.f (.int k (.o x.den))))).ok R v := h
theorem den_a {k : IntKind} {x : SI} {R : Ren} {v : Value} (h : (SV.s (.agg (.ls [.f (.int k x)]))).ok R v) : (SV.s (.agg (.ls [.f (.int k (.o x.den))]))).ok R v := by
  obtain ⟨cs, e, h⟩ := h
  refine ⟨cs, e, ?_⟩
  have h : All2 (SC.ok R) [.f (.int k x)] cs.toList := h
  show All2 (SC.ok R) [.f (.int k (.o x.den))] cs.toList
  revert h
  generalize cs.toList = l
  intro h
  match l, h with
  | [v], h => exact ⟨h.1, trivial⟩
theorem den1 {a a' : SV} (h : ∀ R v, a.ok R v → a'.ok R v) (R : Ren) (vs : List Value) (hv : All2 (SV.ok R) [a] vs) : All2 (SV.ok R) [a'] vs := by
  match vs, hv with
  | [v], hv => exact ⟨h R v hv.1, trivial⟩
theorem den2 {a a' b b' : SV} (h : ∀ R v, a.ok R v → a'.ok R v) (k : ∀ R v, b.ok R v → b'.ok R v) (R : Ren) (vs : List Value) (hv : All2 (SV.ok R) [a, b] vs) : All2 (SV.ok R) [a', b'] vs := by
  match vs, hv with
  | [v, w], hv => exact ⟨h R v hv.1, k R w hv.2.1, trivial⟩
theorem den3 {a a' b b' c c' : SV} (h : ∀ R v, a.ok R v → a'.ok R v) (k : ∀ R v, b.ok R v → b'.ok R v) (j : ∀ R v, c.ok R v → c'.ok R v) (R : Ren) (vs : List Value) (hv : All2 (SV.ok R) [a, b, c] vs) : All2 (SV.ok R) [a', b', c'] vs := by
  match vs, hv with
  | [v, w, u], hv => exact ⟨h R v hv.1, k R w hv.2.1, j R u hv.2.2.1, trivial⟩
end
end Go.Proofs.YtfgkainnkbbanaaDoor
/- Of pool: the environment of its functions: sets of pages. No condition. -/
namespace Go.Proofs.YtfgkainnkbbanaaDoor
set_option maxRecDepth 100000
noncomputable section
def conX (g : FuncId) (l : List SV) (m : SMem) : Option Tree :=
  match g, l with
  | 6, [] => some (.ret (sB (.l true)) m)
  | 24, [.s (.c (.f (.int .i64 x)))] => some (.ret (.s (.agg (.ls [.f (.int .u64 (.o (uw (lowW (clampN x.den)))))]))) m)
  | 26, [.s (.agg (.ls [.f (.int .u64 x)])), .s (.c (.f (.int .i64 n)))] => some (.need [isWd x.den] (.ret (intB (findI (wd x.den) n.den) (findOk (wd x.den) n.den)) m))
  | 27, [.s (.agg (.ls [.f (.int .u64 x)])), .s (.c (.f (.int .i64 p))), .s (.c (.f (.int .i64 n)))] => some (.need [isWd x.den] (.ret (setB (uw (takeW (wd x.den) p.den n.den)) (takeOk (wd x.den) p.den n.den)) m))
  | 34, [.s (.agg (.ls [.f (.int .u64 x)])), .s (.c (.f (.int .i64 p))), .s (.c (.f (.int .i64 n)))] => some (.need [isWd x.den] (.ret (setB (uw (giveW (wd x.den) p.den n.den)) (giveOk (wd x.den) p.den n.den)) m))
  | 22, [.s (.agg (.ls [.f (.int .u64 x)])), .s (.c (.f (.int .i64 p)))] => some (.need [isWd x.den] (.ret (sB (.o (decide (0 ≤ p.den) && (wd x.den).getLsbD p.den.toNat))) m))
  | 23, [.s (.agg (.ls [.f (.int .u64 x)]))] => some (.need [isWd x.den, wd x.den ≠ 0#64] (.ret (sliceA m.next (runsN (wd x.den))) (m.new (.pop (runsC (wd x.den))) 57)))
  | _, _ => none
end
theorem conX_ok : ∀ g l m t, conX g l m = some t → Con E0 g l m t := by
  intro g l m t h
  unfold conX at h
  split at h
  · cases h; exact wakes_con m
  · rename_i x; cases h
    exact Con.args (den1 fun _ _ => den_i) (of_con x.den m)
  · rename_i x n; cases h
    refine Con.asked fun hq => ?_
    have hw : uw (wd x.den) = x.den := hq _ (List.mem_cons_self ..)
    have h := find_con (wd x.den) n.den m
    rw [hw] at h
    exact Con.args (den2 (fun _ _ => den_a) fun _ _ => den_i) h
  · rename_i x p n; cases h
    refine Con.asked fun hq => ?_
    have hw : uw (wd x.den) = x.den := hq _ (List.mem_cons_self ..)
    have h := take_con (wd x.den) p.den n.den m
    rw [hw] at h
    exact Con.args (den3 (fun _ _ => den_a) (fun _ _ => den_i) fun _ _ => den_i) h
  · rename_i x p n; cases h
    refine Con.asked fun hq => ?_
    have hw : uw (wd x.den) = x.den := hq _ (List.mem_cons_self ..)
    have h := give_con (wd x.den) p.den n.den m
    rw [hw] at h
    exact Con.args (den3 (fun _ _ => den_a) (fun _ _ => den_i) fun _ _ => den_i) h
  · rename_i x p; cases h
    refine Con.asked fun hq => ?_
    have hw : uw (wd x.den) = x.den := hq _ (List.mem_cons_self ..)
    have h := has_con (wd x.den) p.den m
    rw [hw] at h
    exact Con.args (den2 (fun _ _ => den_a) fun _ _ => den_i) h
  · rename_i x; cases h
    refine Con.asked fun hq => ?_
    have hw : uw (wd x.den) = x.den := hq _ (List.mem_cons_self ..)
    have h := all_con (wd x.den) (hq _ (List.mem_cons_of_mem _ (List.mem_cons_self ..))) m
    rw [hw] at h
    exact Con.args (den1 fun _ _ => den_a) h
  · cases h
end Go.Proofs.YtfgkainnkbbanaaDoor
/- Of pool: PoolOnce: the law's states. No condition. -/
namespace Go.Proofs.YtfgkainnkbbanaaDoor
set_option linter.unusedVariables false
noncomputable def acS (off n : Nat) : SV := .s (.c (.f (.slice 0 (.o off) (.o n) .any)))
noncomputable def EP : Env := ⟨Tryd.prog, fnOf, conX, haltAt [5009, 5015, 5019, 5026, 5039, 5045, 5052]⟩
noncomputable def oA_d0 : List SIt := sekF Tryd.f5 9
noncomputable def oA_F (off : Nat) (n : Nat) (cs : Array Value) (ty : TypeId) (pg : Int) (i : Int) (ps : Array Value) (hs : List (Int × Int)) (bs : List (Int × Int)) : List SFr := [frOf 5 Tryd.f5 [(0, .s (.c (.f (.int .u8 (.o pg))))), (1, acS off n), (5, ptr 1 (.l 0)), (7, mpS 2), (8, mpS 3), (9, i64 (.o i))] oA_d0]
noncomputable def oA_M (off : Nat) (n : Nat) (cs : Array Value) (ty : TypeId) (pg : Int) (i : Int) (ps : Array Value) (hs : List (Int × Int)) (bs : List (Int × Int)) : SMem := mkMX 4 [(0, ⟨.raw cs, ty, false⟩), (1, ⟨.op ps, 63, true⟩)] [(2, .mapI true .i64 (.i .u8) hs), (3, .mapI true .i64 (.i .u8) bs)]
noncomputable def oA_n (off : Nat) (n : Nat) (cs : Array Value) (ty : TypeId) (pg : Int) (Q : Int → Array Value → List (Int × Int) → List (Int × Int) → Prop) (fs : List SFr) (m : SMem) : Prop := (match frN fs 0 with | some f0 => (match rdI f0 9 with | some i => (match rdP f0 5 with | some p1 => (match rdMp f0 7 with | some p2 => (match rdMp f0 8 with | some p3 => (match rdA m p1 with | some ps => (match rdMI m p2 with | some hs => (match rdMI m p3 with | some bs => Q i ps hs bs ∧ subOk 1 [(1, p1), (2, p2), (3, p3)] (oA_F off n cs ty pg i ps hs bs) (oA_M off n cs ty pg i ps hs bs) fs m | none => False) | none => False) | none => False) | none => False) | none => False) | none => False) | none => False) | none => False)
noncomputable def oB_d0 : List SIt := sekF Tryd.f5 15
noncomputable def oB_F (off : Nat) (n : Nat) (cs : Array Value) (ty : TypeId) (pg : Int) (i : Int) (d : Int) (x : Int) (y : Int) (w : Int) (p : Int) (h : Int) (z : Bool) (ps : Array Value) (hs : List (Int × Int)) (bs : List (Int × Int)) : List SFr := [frOf 5 Tryd.f5 [(0, .s (.c (.f (.int .u8 (.o pg))))), (1, acS off n), (5, ptr 1 (.l 0)), (7, mpS 2), (8, mpS 3), (9, i64 (.o i)), (10, ptr 4 (.l 0)), (11, .s (.c (.f (.int .u8 (.o w))))), (12, i64 (.o p)), (13, .s (.c (.f (.int .u8 (.o h))))), (14, sB (.o z))] oB_d0]
noncomputable def oB_M (off : Nat) (n : Nat) (cs : Array Value) (ty : TypeId) (pg : Int) (i : Int) (d : Int) (x : Int) (y : Int) (w : Int) (p : Int) (h : Int) (z : Bool) (ps : Array Value) (hs : List (Int × Int)) (bs : List (Int × Int)) : SMem := mkMX 5 [(0, ⟨.raw cs, ty, false⟩), (1, ⟨.op ps, 63, true⟩), (4, ⟨.ls [.f (.int .u8 (.o d)), .f (.int .i64 (.o x)), .f (.int .u8 (.o y))], 31, true⟩)] [(2, .mapI true .i64 (.i .u8) hs), (3, .mapI true .i64 (.i .u8) bs)]
noncomputable def oB_n (off : Nat) (n : Nat) (cs : Array Value) (ty : TypeId) (pg : Int) (Q : Int → Int → Int → Int → Int → Int → Int → Bool → Array Value → List (Int × Int) → List (Int × Int) → Prop) (fs : List SFr) (m : SMem) : Prop := (match frN fs 0 with | some f0 => (match rdI f0 9 with | some i => (match rdP f0 10 with | some p4 => (match rdI f0 11 with | some w => (match rdI f0 12 with | some p => (match rdI f0 13 with | some h => (match rdBo f0 14 with | some z => (match rdP f0 5 with | some p1 => (match rdMp f0 7 with | some p2 => (match rdMp f0 8 with | some p3 => (match rdA m p1 with | some ps => (match rdMI m p2 with | some hs => (match rdMI m p3 with | some bs => (match rdCI m p4 0 with | some d => (match rdCI m p4 1 with | some x => (match rdCI m p4 2 with | some y => Q i d x y w p h z ps hs bs ∧ subOk 1 [(1, p1), (2, p2), (3, p3), (4, p4)] (oB_F off n cs ty pg i d x y w p h z ps hs bs) (oB_M off n cs ty pg i d x y w p h z ps hs bs) fs m | none => False) | none => False) | none => False) | none => False) | none => False) | none => False) | none => False) | none => False) | none => False) | none => False) | none => False) | none => False) | none => False) | none => False) | none => False) | none => False)
noncomputable def oC_d0 : List SIt := sekF Tryd.f5 19
noncomputable def oC_F (off : Nat) (n : Nat) (cs : Array Value) (ty : TypeId) (pg : Int) (i : Int) (w : Int) (q : Int) (a : Int) (e : Int) (k : Int) (ps : Array Value) (hs : List (Int × Int)) (bs : List (Int × Int)) : List SFr := [frOf 5 Tryd.f5 [(0, .s (.c (.f (.int .u8 (.o pg))))), (1, acS off n), (5, ptr 1 (.l 0)), (7, mpS 2), (8, mpS 3), (9, i64 (.o i)), (11, .s (.c (.f (.int .u8 (.o w))))), (15, i64 (.o q)), (16, i64 (.o a)), (17, i64 (.o e)), (18, i64 (.o k))] oC_d0]
noncomputable def oC_M (off : Nat) (n : Nat) (cs : Array Value) (ty : TypeId) (pg : Int) (i : Int) (w : Int) (q : Int) (a : Int) (e : Int) (k : Int) (ps : Array Value) (hs : List (Int × Int)) (bs : List (Int × Int)) : SMem := mkMX 4 [(0, ⟨.raw cs, ty, false⟩), (1, ⟨.op ps, 63, true⟩)] [(2, .mapI true .i64 (.i .u8) hs), (3, .mapI true .i64 (.i .u8) bs)]
noncomputable def oC_n (off : Nat) (n : Nat) (cs : Array Value) (ty : TypeId) (pg : Int) (Q : Int → Int → Int → Int → Int → Int → Array Value → List (Int × Int) → List (Int × Int) → Prop) (fs : List SFr) (m : SMem) : Prop := (match frN fs 0 with | some f0 => (match rdI f0 9 with | some i => (match rdI f0 11 with | some w => (match rdI f0 15 with | some q => (match rdI f0 16 with | some a => (match rdI f0 17 with | some e => (match rdI f0 18 with | some k => (match rdP f0 5 with | some p1 => (match rdMp f0 7 with | some p2 => (match rdMp f0 8 with | some p3 => (match rdA m p1 with | some ps => (match rdMI m p2 with | some hs => (match rdMI m p3 with | some bs => Q i w q a e k ps hs bs ∧ subOk 1 [(1, p1), (2, p2), (3, p3)] (oC_F off n cs ty pg i w q a e k ps hs bs) (oC_M off n cs ty pg i w q a e k ps hs bs) fs m | none => False) | none => False) | none => False) | none => False) | none => False) | none => False) | none => False) | none => False) | none => False) | none => False) | none => False) | none => False) | none => False)
noncomputable def oD_d0 : List SIt := sekF Tryd.f5 26
noncomputable def oD_F (off : Nat) (n : Nat) (cs : Array Value) (ty : TypeId) (pg : Int) (i : Int) (w : Int) (q : Int) (a : Int) (e : Int) (k : Int) (j : Int) (ps : Array Value) (hs : List (Int × Int)) (bs : List (Int × Int)) : List SFr := [frOf 5 Tryd.f5 [(0, .s (.c (.f (.int .u8 (.o pg))))), (1, acS off n), (5, ptr 1 (.l 0)), (7, mpS 2), (8, mpS 3), (9, i64 (.o i)), (11, .s (.c (.f (.int .u8 (.o w))))), (15, i64 (.o q)), (16, i64 (.o a)), (17, i64 (.o e)), (18, i64 (.o k)), (21, i64 (.o j))] oD_d0]
noncomputable def oD_M (off : Nat) (n : Nat) (cs : Array Value) (ty : TypeId) (pg : Int) (i : Int) (w : Int) (q : Int) (a : Int) (e : Int) (k : Int) (j : Int) (ps : Array Value) (hs : List (Int × Int)) (bs : List (Int × Int)) : SMem := mkMX 4 [(0, ⟨.raw cs, ty, false⟩), (1, ⟨.op ps, 63, true⟩)] [(2, .mapI true .i64 (.i .u8) hs), (3, .mapI true .i64 (.i .u8) bs)]
noncomputable def oD_n (off : Nat) (n : Nat) (cs : Array Value) (ty : TypeId) (pg : Int) (Q : Int → Int → Int → Int → Int → Int → Int → Array Value → List (Int × Int) → List (Int × Int) → Prop) (fs : List SFr) (m : SMem) : Prop := (match frN fs 0 with | some f0 => (match rdI f0 9 with | some i => (match rdI f0 11 with | some w => (match rdI f0 15 with | some q => (match rdI f0 16 with | some a => (match rdI f0 17 with | some e => (match rdI f0 18 with | some k => (match rdI f0 21 with | some j => (match rdP f0 5 with | some p1 => (match rdMp f0 7 with | some p2 => (match rdMp f0 8 with | some p3 => (match rdA m p1 with | some ps => (match rdMI m p2 with | some hs => (match rdMI m p3 with | some bs => Q i w q a e k j ps hs bs ∧ subOk 1 [(1, p1), (2, p2), (3, p3)] (oD_F off n cs ty pg i w q a e k j ps hs bs) (oD_M off n cs ty pg i w q a e k j ps hs bs) fs m | none => False) | none => False) | none => False) | none => False) | none => False) | none => False) | none => False) | none => False) | none => False) | none => False) | none => False) | none => False) | none => False) | none => False)
noncomputable def oE_d0 : List SIt := sekF Tryd.f5 39
noncomputable def oE_F (cs : Array Value) (ty : TypeId) (pg : Int) (q : Int) (ps : Array Value) (hs : List (Int × Int)) (bs : List (Int × Int)) : List SFr := [frOf 5 Tryd.f5 [(0, .s (.c (.f (.int .u8 (.o pg))))), (5, ptr 1 (.l 0)), (7, mpS 2), (8, mpS 3), (23, i64 (.o q))] oE_d0]
noncomputable def oE_M (cs : Array Value) (ty : TypeId) (pg : Int) (q : Int) (ps : Array Value) (hs : List (Int × Int)) (bs : List (Int × Int)) : SMem := mkMX 4 [(1, ⟨.op ps, 63, true⟩)] [(2, .mapI true .i64 (.i .u8) hs), (3, .mapI true .i64 (.i .u8) bs)]
noncomputable def oE_n (cs : Array Value) (ty : TypeId) (pg : Int) (Q : Int → Array Value → List (Int × Int) → List (Int × Int) → Prop) (fs : List SFr) (m : SMem) : Prop := (match frN fs 0 with | some f0 => (match rdI f0 23 with | some q => (match rdP f0 5 with | some p1 => (match rdMp f0 7 with | some p2 => (match rdMp f0 8 with | some p3 => (match rdA m p1 with | some ps => (match rdMI m p2 with | some hs => (match rdMI m p3 with | some bs => Q q ps hs bs ∧ subOk 1 [(1, p1), (2, p2), (3, p3)] (oE_F cs ty pg q ps hs bs) (oE_M cs ty pg q ps hs bs) fs m | none => False) | none => False) | none => False) | none => False) | none => False) | none => False) | none => False) | none => False)
noncomputable def oF_d0 : List SIt := sekF Tryd.f5 45
noncomputable def oF_F (cs : Array Value) (ty : TypeId) (pg : Int) (q : Int) (z : Bool) (j : Int) (ps : Array Value) (hs : List (Int × Int)) (bs : List (Int × Int)) : List SFr := [frOf 5 Tryd.f5 [(0, .s (.c (.f (.int .u8 (.o pg))))), (5, ptr 1 (.l 0)), (7, mpS 2), (8, mpS 3), (23, i64 (.o q)), (25, sB (.o z)), (26, i64 (.o j))] oF_d0]
noncomputable def oF_M (cs : Array Value) (ty : TypeId) (pg : Int) (q : Int) (z : Bool) (j : Int) (ps : Array Value) (hs : List (Int × Int)) (bs : List (Int × Int)) : SMem := mkMX 4 [(1, ⟨.op ps, 63, true⟩)] [(2, .mapI true .i64 (.i .u8) hs), (3, .mapI true .i64 (.i .u8) bs)]
noncomputable def oF_n (cs : Array Value) (ty : TypeId) (pg : Int) (Q : Int → Bool → Int → Array Value → List (Int × Int) → List (Int × Int) → Prop) (fs : List SFr) (m : SMem) : Prop := (match frN fs 0 with | some f0 => (match rdI f0 23 with | some q => (match rdBo f0 25 with | some z => (match rdI f0 26 with | some j => (match rdP f0 5 with | some p1 => (match rdMp f0 7 with | some p2 => (match rdMp f0 8 with | some p3 => (match rdA m p1 with | some ps => (match rdMI m p2 with | some hs => (match rdMI m p3 with | some bs => Q q z j ps hs bs ∧ subOk 1 [(1, p1), (2, p2), (3, p3)] (oF_F cs ty pg q z j ps hs bs) (oF_M cs ty pg q z j ps hs bs) fs m | none => False) | none => False) | none => False) | none => False) | none => False) | none => False) | none => False) | none => False) | none => False) | none => False)
noncomputable def oH_d0 : List SIt := sekF Tryd.f5 52
noncomputable def oH_F (cs : Array Value) (ty : TypeId) (pg : Int) (ps : Array Value) (hs : List (Int × Int)) (bs : List (Int × Int)) : List SFr := [frOf 5 Tryd.f5 [(0, .s (.c (.f (.int .u8 (.o pg))))), (5, ptr 1 (.l 0)), (7, mpS 2), (8, mpS 3)] oH_d0]
noncomputable def oH_M (cs : Array Value) (ty : TypeId) (pg : Int) (ps : Array Value) (hs : List (Int × Int)) (bs : List (Int × Int)) : SMem := mkMX 4 [(1, ⟨.op ps, 63, true⟩)] [(2, .mapI true .i64 (.i .u8) hs), (3, .mapI true .i64 (.i .u8) bs)]
noncomputable def oH_n (cs : Array Value) (ty : TypeId) (pg : Int) (Q : Array Value → List (Int × Int) → List (Int × Int) → Prop) (fs : List SFr) (m : SMem) : Prop := (match frN fs 0 with | some f0 => (match rdP f0 5 with | some p1 => (match rdMp f0 7 with | some p2 => (match rdMp f0 8 with | some p3 => (match rdA m p1 with | some ps => (match rdMI m p2 with | some hs => (match rdMI m p3 with | some bs => Q ps hs bs ∧ subOk 1 [(1, p1), (2, p2), (3, p3)] (oH_F cs ty pg ps hs bs) (oH_M cs ty pg ps hs bs) fs m | none => False) | none => False) | none => False) | none => False) | none => False) | none => False) | none => False)
noncomputable def pA_t (off : Nat) (n : Nat) (cs : Array Value) (ty : TypeId) (pg : Int) (i : Int) (ps : Array Value) (hs : List (Int × Int)) (bs : List (Int × Int)) : Tree := stepT EP.go (run EP 1000) 1 (oA_F off n cs ty pg i ps hs bs) (oA_M off n cs ty pg i ps hs bs)
noncomputable def pA_x (off : Nat) (n : Nat) (cs : Array Value) (ty : TypeId) (pg : Int) (i : Int) (ps : Array Value) (hs : List (Int × Int)) (bs : List (Int × Int)) (QoB : Int → Int → Int → Int → Int → Int → Int → Bool → Array Value → List (Int × Int) → List (Int × Int) → Prop) (QoE : Int → Array Value → List (Int × Int) → List (Int × Int) → Prop) (fs : List SFr) (m : SMem) : Prop := (match Nat.beq (atR fs) 5015 with | true => oB_n off n cs ty pg QoB fs m | false => oE_n cs ty pg QoE fs m)
noncomputable def pB_t (off : Nat) (n : Nat) (cs : Array Value) (ty : TypeId) (pg : Int) (i : Int) (d : Int) (x : Int) (y : Int) (w : Int) (p : Int) (h : Int) (z : Bool) (ps : Array Value) (hs : List (Int × Int)) (bs : List (Int × Int)) : Tree := stepT EP.go (run EP 1000) 1 (oB_F off n cs ty pg i d x y w p h z ps hs bs) (oB_M off n cs ty pg i d x y w p h z ps hs bs)
noncomputable def pB_x (off : Nat) (n : Nat) (cs : Array Value) (ty : TypeId) (pg : Int) (i : Int) (d : Int) (x : Int) (y : Int) (w : Int) (p : Int) (h : Int) (z : Bool) (ps : Array Value) (hs : List (Int × Int)) (bs : List (Int × Int)) (QoC : Int → Int → Int → Int → Int → Int → Array Value → List (Int × Int) → List (Int × Int) → Prop) (QoA : Int → Array Value → List (Int × Int) → List (Int × Int) → Prop) (fs : List SFr) (m : SMem) : Prop := (match Nat.beq (atR fs) 5019 with | true => oC_n off n cs ty pg QoC fs m | false => oA_n off n cs ty pg QoA fs m)
noncomputable def pC_t (off : Nat) (n : Nat) (cs : Array Value) (ty : TypeId) (pg : Int) (i : Int) (w : Int) (q : Int) (a : Int) (e : Int) (k : Int) (ps : Array Value) (hs : List (Int × Int)) (bs : List (Int × Int)) : Tree := stepT EP.go (run EP 1000) 1 (oC_F off n cs ty pg i w q a e k ps hs bs) (oC_M off n cs ty pg i w q a e k ps hs bs)
noncomputable def pC_x (off : Nat) (n : Nat) (cs : Array Value) (ty : TypeId) (pg : Int) (i : Int) (w : Int) (q : Int) (a : Int) (e : Int) (k : Int) (ps : Array Value) (hs : List (Int × Int)) (bs : List (Int × Int)) (QoD : Int → Int → Int → Int → Int → Int → Int → Array Value → List (Int × Int) → List (Int × Int) → Prop) (QoA : Int → Array Value → List (Int × Int) → List (Int × Int) → Prop) (fs : List SFr) (m : SMem) : Prop := (match Nat.beq (atR fs) 5026 with | true => oD_n off n cs ty pg QoD fs m | false => oA_n off n cs ty pg QoA fs m)
noncomputable def pD_t (off : Nat) (n : Nat) (cs : Array Value) (ty : TypeId) (pg : Int) (i : Int) (w : Int) (q : Int) (a : Int) (e : Int) (k : Int) (j : Int) (ps : Array Value) (hs : List (Int × Int)) (bs : List (Int × Int)) : Tree := stepT EP.go (run EP 1000) 1 (oD_F off n cs ty pg i w q a e k j ps hs bs) (oD_M off n cs ty pg i w q a e k j ps hs bs)
noncomputable def pD_x (off : Nat) (n : Nat) (cs : Array Value) (ty : TypeId) (pg : Int) (i : Int) (w : Int) (q : Int) (a : Int) (e : Int) (k : Int) (j : Int) (ps : Array Value) (hs : List (Int × Int)) (bs : List (Int × Int)) (QoD : Int → Int → Int → Int → Int → Int → Int → Array Value → List (Int × Int) → List (Int × Int) → Prop) (QoC : Int → Int → Int → Int → Int → Int → Array Value → List (Int × Int) → List (Int × Int) → Prop) (fs : List SFr) (m : SMem) : Prop := (match Nat.beq (atR fs) 5026 with | true => oD_n off n cs ty pg QoD fs m | false => oC_n off n cs ty pg QoC fs m)
noncomputable def pE_t (cs : Array Value) (ty : TypeId) (pg : Int) (q : Int) (ps : Array Value) (hs : List (Int × Int)) (bs : List (Int × Int)) : Tree := stepT EP.go (run EP 1000) 1 (oE_F cs ty pg q ps hs bs) (oE_M cs ty pg q ps hs bs)
noncomputable def pE_x (cs : Array Value) (ty : TypeId) (pg : Int) (q : Int) (ps : Array Value) (hs : List (Int × Int)) (bs : List (Int × Int)) (QoF : Int → Bool → Int → Array Value → List (Int × Int) → List (Int × Int) → Prop) (QoH : Array Value → List (Int × Int) → List (Int × Int) → Prop) (fs : List SFr) (m : SMem) : Prop := (match Nat.beq (atR fs) 5045 with | true => oF_n cs ty pg QoF fs m | false => oH_n cs ty pg QoH fs m)
noncomputable def pF_t (cs : Array Value) (ty : TypeId) (pg : Int) (q : Int) (z : Bool) (j : Int) (ps : Array Value) (hs : List (Int × Int)) (bs : List (Int × Int)) : Tree := stepT EP.go (run EP 1000) 1 (oF_F cs ty pg q z j ps hs bs) (oF_M cs ty pg q z j ps hs bs)
noncomputable def pF_x (cs : Array Value) (ty : TypeId) (pg : Int) (q : Int) (z : Bool) (j : Int) (ps : Array Value) (hs : List (Int × Int)) (bs : List (Int × Int)) (QoF : Int → Bool → Int → Array Value → List (Int × Int) → List (Int × Int) → Prop) (QoE : Int → Array Value → List (Int × Int) → List (Int × Int) → Prop) (fs : List SFr) (m : SMem) : Prop := (match Nat.beq (atR fs) 5045 with | true => oF_n cs ty pg QoF fs m | false => oE_n cs ty pg QoE fs m)
noncomputable def pH_t (cs : Array Value) (ty : TypeId) (pg : Int) (ps : Array Value) (hs : List (Int × Int)) (bs : List (Int × Int)) : Tree := stepT EP.go (run EP 1000) 1 (oH_F cs ty pg ps hs bs) (oH_M cs ty pg ps hs bs)
noncomputable def pH_x (cs : Array Value) (ty : TypeId) (pg : Int) (ps : Array Value) (hs : List (Int × Int)) (bs : List (Int × Int))  (fs : List SFr) (m : SMem) : Prop := False
theorem oA_d0_ok (r : Nat → Option Nat) : TodoOk r oA_d0 oA_d0 := TodoOk.it (by kernel_rfl)
theorem oB_d0_ok (r : Nat → Option Nat) : TodoOk r oB_d0 oB_d0 := TodoOk.it (by kernel_rfl)
theorem oC_d0_ok (r : Nat → Option Nat) : TodoOk r oC_d0 oC_d0 := TodoOk.it (by kernel_rfl)
theorem oD_d0_ok (r : Nat → Option Nat) : TodoOk r oD_d0 oD_d0 := TodoOk.it (by kernel_rfl)
theorem oE_d0_ok (r : Nat → Option Nat) : TodoOk r oE_d0 oE_d0 := TodoOk.it (by kernel_rfl)
theorem oF_d0_ok (r : Nat → Option Nat) : TodoOk r oF_d0 oF_d0 := TodoOk.it (by kernel_rfl)
theorem oH_d0_ok (r : Nat → Option Nat) : TodoOk r oH_d0 oH_d0 := TodoOk.it (by kernel_rfl)
theorem oA_good {A : SV → SMem → Prop} {off : Nat} {n : Nat} {cs : Array Value} {ty : TypeId} {pg : Int} {Q : Int → Array Value → List (Int × Int) → List (Int × Int) → Prop} {fs : List SFr} {m : SMem} (H : ∀ i ps hs bs, Q i ps hs bs → Good Tryd.prog A 1 (oA_F off n cs ty pg i ps hs bs) (oA_M off n cs ty pg i ps hs bs)) (hb : oA_n off n cs ty pg Q fs m) : Good Tryd.prog A 1 fs m := by
  unfold oA_n at hb
  split at hb
  rotate_left
  · exact hb.elim
  split at hb
  rotate_left
  · exact hb.elim
  split at hb
  rotate_left
  · exact hb.elim
  split at hb
  rotate_left
  · exact hb.elim
  split at hb
  rotate_left
  · exact hb.elim
  split at hb
  rotate_left
  · exact hb.elim
  split at hb
  rotate_left
  · exact hb.elim
  split at hb
  rotate_left
  · exact hb.elim
  exact Good.of_sub hb.2 (H _ _ _ _ hb.1)
theorem oB_good {A : SV → SMem → Prop} {off : Nat} {n : Nat} {cs : Array Value} {ty : TypeId} {pg : Int} {Q : Int → Int → Int → Int → Int → Int → Int → Bool → Array Value → List (Int × Int) → List (Int × Int) → Prop} {fs : List SFr} {m : SMem} (H : ∀ i d x y w p h z ps hs bs, Q i d x y w p h z ps hs bs → Good Tryd.prog A 1 (oB_F off n cs ty pg i d x y w p h z ps hs bs) (oB_M off n cs ty pg i d x y w p h z ps hs bs)) (hb : oB_n off n cs ty pg Q fs m) : Good Tryd.prog A 1 fs m := by
  unfold oB_n at hb
  split at hb
  rotate_left
  · exact hb.elim
  split at hb
  rotate_left
  · exact hb.elim
  split at hb
  rotate_left
  · exact hb.elim
  split at hb
  rotate_left
  · exact hb.elim
  split at hb
  rotate_left
  · exact hb.elim
  split at hb
  rotate_left
  · exact hb.elim
  split at hb
  rotate_left
  · exact hb.elim
  split at hb
  rotate_left
  · exact hb.elim
  split at hb
  rotate_left
  · exact hb.elim
  split at hb
  rotate_left
  · exact hb.elim
  split at hb
  rotate_left
  · exact hb.elim
  split at hb
  rotate_left
  · exact hb.elim
  split at hb
  rotate_left
  · exact hb.elim
  split at hb
  rotate_left
  · exact hb.elim
  split at hb
  rotate_left
  · exact hb.elim
  split at hb
  rotate_left
  · exact hb.elim
  exact Good.of_sub hb.2 (H _ _ _ _ _ _ _ _ _ _ _ hb.1)
theorem oC_good {A : SV → SMem → Prop} {off : Nat} {n : Nat} {cs : Array Value} {ty : TypeId} {pg : Int} {Q : Int → Int → Int → Int → Int → Int → Array Value → List (Int × Int) → List (Int × Int) → Prop} {fs : List SFr} {m : SMem} (H : ∀ i w q a e k ps hs bs, Q i w q a e k ps hs bs → Good Tryd.prog A 1 (oC_F off n cs ty pg i w q a e k ps hs bs) (oC_M off n cs ty pg i w q a e k ps hs bs)) (hb : oC_n off n cs ty pg Q fs m) : Good Tryd.prog A 1 fs m := by
  unfold oC_n at hb
  split at hb
  rotate_left
  · exact hb.elim
  split at hb
  rotate_left
  · exact hb.elim
  split at hb
  rotate_left
  · exact hb.elim
  split at hb
  rotate_left
  · exact hb.elim
  split at hb
  rotate_left
  · exact hb.elim
  split at hb
  rotate_left
  · exact hb.elim
  split at hb
  rotate_left
  · exact hb.elim
  split at hb
  rotate_left
  · exact hb.elim
  split at hb
  rotate_left
  · exact hb.elim
  split at hb
  rotate_left
  · exact hb.elim
  split at hb
  rotate_left
  · exact hb.elim
  split at hb
  rotate_left
  · exact hb.elim
  split at hb
  rotate_left
  · exact hb.elim
  exact Good.of_sub hb.2 (H _ _ _ _ _ _ _ _ _ hb.1)
theorem oD_good {A : SV → SMem → Prop} {off : Nat} {n : Nat} {cs : Array Value} {ty : TypeId} {pg : Int} {Q : Int → Int → Int → Int → Int → Int → Int → Array Value → List (Int × Int) → List (Int × Int) → Prop} {fs : List SFr} {m : SMem} (H : ∀ i w q a e k j ps hs bs, Q i w q a e k j ps hs bs → Good Tryd.prog A 1 (oD_F off n cs ty pg i w q a e k j ps hs bs) (oD_M off n cs ty pg i w q a e k j ps hs bs)) (hb : oD_n off n cs ty pg Q fs m) : Good Tryd.prog A 1 fs m := by
  unfold oD_n at hb
  split at hb
  rotate_left
  · exact hb.elim
  split at hb
  rotate_left
  · exact hb.elim
  split at hb
  rotate_left
  · exact hb.elim
  split at hb
  rotate_left
  · exact hb.elim
  split at hb
  rotate_left
  · exact hb.elim
  split at hb
  rotate_left
  · exact hb.elim
  split at hb
  rotate_left
  · exact hb.elim
  split at hb
  rotate_left
  · exact hb.elim
  split at hb
  rotate_left
  · exact hb.elim
  split at hb
  rotate_left
  · exact hb.elim
  split at hb
  rotate_left
  · exact hb.elim
  split at hb
  rotate_left
  · exact hb.elim
  split at hb
  rotate_left
  · exact hb.elim
  split at hb
  rotate_left
  · exact hb.elim
  exact Good.of_sub hb.2 (H _ _ _ _ _ _ _ _ _ _ hb.1)
theorem oE_good {A : SV → SMem → Prop} {cs : Array Value} {ty : TypeId} {pg : Int} {Q : Int → Array Value → List (Int × Int) → List (Int × Int) → Prop} {fs : List SFr} {m : SMem} (H : ∀ q ps hs bs, Q q ps hs bs → Good Tryd.prog A 1 (oE_F cs ty pg q ps hs bs) (oE_M cs ty pg q ps hs bs)) (hb : oE_n cs ty pg Q fs m) : Good Tryd.prog A 1 fs m := by
  unfold oE_n at hb
  split at hb
  rotate_left
  · exact hb.elim
  split at hb
  rotate_left
  · exact hb.elim
  split at hb
  rotate_left
  · exact hb.elim
  split at hb
  rotate_left
  · exact hb.elim
  split at hb
  rotate_left
  · exact hb.elim
  split at hb
  rotate_left
  · exact hb.elim
  split at hb
  rotate_left
  · exact hb.elim
  split at hb
  rotate_left
  · exact hb.elim
  exact Good.of_sub hb.2 (H _ _ _ _ hb.1)
theorem oF_good {A : SV → SMem → Prop} {cs : Array Value} {ty : TypeId} {pg : Int} {Q : Int → Bool → Int → Array Value → List (Int × Int) → List (Int × Int) → Prop} {fs : List SFr} {m : SMem} (H : ∀ q z j ps hs bs, Q q z j ps hs bs → Good Tryd.prog A 1 (oF_F cs ty pg q z j ps hs bs) (oF_M cs ty pg q z j ps hs bs)) (hb : oF_n cs ty pg Q fs m) : Good Tryd.prog A 1 fs m := by
  unfold oF_n at hb
  split at hb
  rotate_left
  · exact hb.elim
  split at hb
  rotate_left
  · exact hb.elim
  split at hb
  rotate_left
  · exact hb.elim
  split at hb
  rotate_left
  · exact hb.elim
  split at hb
  rotate_left
  · exact hb.elim
  split at hb
  rotate_left
  · exact hb.elim
  split at hb
  rotate_left
  · exact hb.elim
  split at hb
  rotate_left
  · exact hb.elim
  split at hb
  rotate_left
  · exact hb.elim
  split at hb
  rotate_left
  · exact hb.elim
  exact Good.of_sub hb.2 (H _ _ _ _ _ _ hb.1)
theorem oH_good {A : SV → SMem → Prop} {cs : Array Value} {ty : TypeId} {pg : Int} {Q : Array Value → List (Int × Int) → List (Int × Int) → Prop} {fs : List SFr} {m : SMem} (H : ∀ ps hs bs, Q ps hs bs → Good Tryd.prog A 1 (oH_F cs ty pg ps hs bs) (oH_M cs ty pg ps hs bs)) (hb : oH_n cs ty pg Q fs m) : Good Tryd.prog A 1 fs m := by
  unfold oH_n at hb
  split at hb
  rotate_left
  · exact hb.elim
  split at hb
  rotate_left
  · exact hb.elim
  split at hb
  rotate_left
  · exact hb.elim
  split at hb
  rotate_left
  · exact hb.elim
  split at hb
  rotate_left
  · exact hb.elim
  split at hb
  rotate_left
  · exact hb.elim
  split at hb
  rotate_left
  · exact hb.elim
  exact Good.of_sub hb.2 (H _ _ _ hb.1)
theorem pA_go {A : SV → SMem → Prop} {off : Nat} {n : Nat} {cs : Array Value} {ty : TypeId} {pg : Int} {i : Int} {ps : Array Value} {hs : List (Int × Int)} {bs : List (Int × Int)} {QoB : Int → Int → Int → Int → Int → Int → Int → Bool → Array Value → List (Int × Int) → List (Int × Int) → Prop} {QoE : Int → Array Value → List (Int × Int) → List (Int × Int) → Prop} {fs : List SFr} {m : SMem} (hoB : ∀ i' d' x' y' w' p' h' z' ps' hs' bs', QoB i' d' x' y' w' p' h' z' ps' hs' bs' → Good Tryd.prog A 1 (oB_F off n cs ty pg i' d' x' y' w' p' h' z' ps' hs' bs') (oB_M off n cs ty pg i' d' x' y' w' p' h' z' ps' hs' bs')) (hoE : ∀ q' ps' hs' bs', QoE q' ps' hs' bs' → Good Tryd.prog A 1 (oE_F cs ty pg q' ps' hs' bs') (oE_M cs ty pg q' ps' hs' bs')) (hb : pA_x off n cs ty pg i ps hs bs QoB QoE fs m) : Good Tryd.prog A 1 fs m := by
  unfold pA_x at hb
  split at hb
  · exact oB_good hoB hb
  exact oE_good hoE hb
theorem pB_go {A : SV → SMem → Prop} {off : Nat} {n : Nat} {cs : Array Value} {ty : TypeId} {pg : Int} {i : Int} {d : Int} {x : Int} {y : Int} {w : Int} {p : Int} {h : Int} {z : Bool} {ps : Array Value} {hs : List (Int × Int)} {bs : List (Int × Int)} {QoC : Int → Int → Int → Int → Int → Int → Array Value → List (Int × Int) → List (Int × Int) → Prop} {QoA : Int → Array Value → List (Int × Int) → List (Int × Int) → Prop} {fs : List SFr} {m : SMem} (hoC : ∀ i' w' q' a' e' k' ps' hs' bs', QoC i' w' q' a' e' k' ps' hs' bs' → Good Tryd.prog A 1 (oC_F off n cs ty pg i' w' q' a' e' k' ps' hs' bs') (oC_M off n cs ty pg i' w' q' a' e' k' ps' hs' bs')) (hoA : ∀ i' ps' hs' bs', QoA i' ps' hs' bs' → Good Tryd.prog A 1 (oA_F off n cs ty pg i' ps' hs' bs') (oA_M off n cs ty pg i' ps' hs' bs')) (hb : pB_x off n cs ty pg i d x y w p h z ps hs bs QoC QoA fs m) : Good Tryd.prog A 1 fs m := by
  unfold pB_x at hb
  split at hb
  · exact oC_good hoC hb
  exact oA_good hoA hb
theorem pC_go {A : SV → SMem → Prop} {off : Nat} {n : Nat} {cs : Array Value} {ty : TypeId} {pg : Int} {i : Int} {w : Int} {q : Int} {a : Int} {e : Int} {k : Int} {ps : Array Value} {hs : List (Int × Int)} {bs : List (Int × Int)} {QoD : Int → Int → Int → Int → Int → Int → Int → Array Value → List (Int × Int) → List (Int × Int) → Prop} {QoA : Int → Array Value → List (Int × Int) → List (Int × Int) → Prop} {fs : List SFr} {m : SMem} (hoD : ∀ i' w' q' a' e' k' j' ps' hs' bs', QoD i' w' q' a' e' k' j' ps' hs' bs' → Good Tryd.prog A 1 (oD_F off n cs ty pg i' w' q' a' e' k' j' ps' hs' bs') (oD_M off n cs ty pg i' w' q' a' e' k' j' ps' hs' bs')) (hoA : ∀ i' ps' hs' bs', QoA i' ps' hs' bs' → Good Tryd.prog A 1 (oA_F off n cs ty pg i' ps' hs' bs') (oA_M off n cs ty pg i' ps' hs' bs')) (hb : pC_x off n cs ty pg i w q a e k ps hs bs QoD QoA fs m) : Good Tryd.prog A 1 fs m := by
  unfold pC_x at hb
  split at hb
  · exact oD_good hoD hb
  exact oA_good hoA hb
theorem pD_go {A : SV → SMem → Prop} {off : Nat} {n : Nat} {cs : Array Value} {ty : TypeId} {pg : Int} {i : Int} {w : Int} {q : Int} {a : Int} {e : Int} {k : Int} {j : Int} {ps : Array Value} {hs : List (Int × Int)} {bs : List (Int × Int)} {QoD : Int → Int → Int → Int → Int → Int → Int → Array Value → List (Int × Int) → List (Int × Int) → Prop} {QoC : Int → Int → Int → Int → Int → Int → Array Value → List (Int × Int) → List (Int × Int) → Prop} {fs : List SFr} {m : SMem} (hoD : ∀ i' w' q' a' e' k' j' ps' hs' bs', QoD i' w' q' a' e' k' j' ps' hs' bs' → Good Tryd.prog A 1 (oD_F off n cs ty pg i' w' q' a' e' k' j' ps' hs' bs') (oD_M off n cs ty pg i' w' q' a' e' k' j' ps' hs' bs')) (hoC : ∀ i' w' q' a' e' k' ps' hs' bs', QoC i' w' q' a' e' k' ps' hs' bs' → Good Tryd.prog A 1 (oC_F off n cs ty pg i' w' q' a' e' k' ps' hs' bs') (oC_M off n cs ty pg i' w' q' a' e' k' ps' hs' bs')) (hb : pD_x off n cs ty pg i w q a e k j ps hs bs QoD QoC fs m) : Good Tryd.prog A 1 fs m := by
  unfold pD_x at hb
  split at hb
  · exact oD_good hoD hb
  exact oC_good hoC hb
theorem pE_go {A : SV → SMem → Prop} {cs : Array Value} {ty : TypeId} {pg : Int} {q : Int} {ps : Array Value} {hs : List (Int × Int)} {bs : List (Int × Int)} {QoF : Int → Bool → Int → Array Value → List (Int × Int) → List (Int × Int) → Prop} {QoH : Array Value → List (Int × Int) → List (Int × Int) → Prop} {fs : List SFr} {m : SMem} (hoF : ∀ q' z' j' ps' hs' bs', QoF q' z' j' ps' hs' bs' → Good Tryd.prog A 1 (oF_F cs ty pg q' z' j' ps' hs' bs') (oF_M cs ty pg q' z' j' ps' hs' bs')) (hoH : ∀ ps' hs' bs', QoH ps' hs' bs' → Good Tryd.prog A 1 (oH_F cs ty pg ps' hs' bs') (oH_M cs ty pg ps' hs' bs')) (hb : pE_x cs ty pg q ps hs bs QoF QoH fs m) : Good Tryd.prog A 1 fs m := by
  unfold pE_x at hb
  split at hb
  · exact oF_good hoF hb
  exact oH_good hoH hb
theorem pF_go {A : SV → SMem → Prop} {cs : Array Value} {ty : TypeId} {pg : Int} {q : Int} {z : Bool} {j : Int} {ps : Array Value} {hs : List (Int × Int)} {bs : List (Int × Int)} {QoF : Int → Bool → Int → Array Value → List (Int × Int) → List (Int × Int) → Prop} {QoE : Int → Array Value → List (Int × Int) → List (Int × Int) → Prop} {fs : List SFr} {m : SMem} (hoF : ∀ q' z' j' ps' hs' bs', QoF q' z' j' ps' hs' bs' → Good Tryd.prog A 1 (oF_F cs ty pg q' z' j' ps' hs' bs') (oF_M cs ty pg q' z' j' ps' hs' bs')) (hoE : ∀ q' ps' hs' bs', QoE q' ps' hs' bs' → Good Tryd.prog A 1 (oE_F cs ty pg q' ps' hs' bs') (oE_M cs ty pg q' ps' hs' bs')) (hb : pF_x cs ty pg q z j ps hs bs QoF QoE fs m) : Good Tryd.prog A 1 fs m := by
  unfold pF_x at hb
  split at hb
  · exact oF_good hoF hb
  exact oE_good hoE hb
end Go.Proofs.YtfgkainnkbbanaaDoor
/- Of pool: PoolOnce: the law's states. -/
namespace Go.Proofs.YtfgkainnkbbanaaDoor
set_option maxRecDepth 100000
theorem pA_vc (off : Nat) (n : Nat) (cs : Array Value) (ty : TypeId) (pg : Int) (i : Int) (ps : Array Value) (hs : List (Int × Int)) (bs : List (Int × Int)) (QoB : Int → Int → Int → Int → Int → Int → Int → Bool → Array Value → List (Int × Int) → List (Int × Int) → Prop) (QoE : Int → Array Value → List (Int × Int) → List (Int × Int) → Prop) : (pA_t off n cs ty pg i ps hs bs).vc ((fun _ _ => False)) (pA_x off n cs ty pg i ps hs bs QoB QoE) =
    ((decide (i < (↑n : Int)) = true → (((0 : Int) ≤ i ∧ i < (↑n : Int)) ∧ True) ∧ (IsInt IntKind.u8 cs (off + Int.toNat i * 3) ∧ IsInt IntKind.i64 cs (off + Int.toNat i * 3 + 1) ∧ IsInt IntKind.u8 cs (off + Int.toNat i * 3 + 2) ∧ True) ∧ QoB i (intAt cs (off + Int.toNat i * 3)) (intAt cs (off + Int.toNat i * 3 + 1)) (intAt cs (off + Int.toNat i * 3 + 2)) (ari BinOp.rem IntKind.u8 (intAt cs (off + Int.toNat i * 3 + 2)) (4 : Int)) (ari BinOp.rem IntKind.i64 (ari BinOp.add IntKind.i64 (ari BinOp.rem IntKind.i64 (intAt cs (off + Int.toNat i * 3 + 1)) (64 : Int)) (64 : Int)) (64 : Int)) (getI (ari BinOp.rem IntKind.i64 (ari BinOp.add IntKind.i64 (ari BinOp.rem IntKind.i64 (intAt cs (off + Int.toNat i * 3 + 1)) (64 : Int)) (64 : Int)) (64 : Int)) hs) (hasI (ari BinOp.rem IntKind.i64 (ari BinOp.add IntKind.i64 (ari BinOp.rem IntKind.i64 (intAt cs (off + Int.toNat i * 3 + 1)) (64 : Int)) (64 : Int)) (64 : Int)) hs) ps hs bs ∧ CallKind.normal = CallKind.normal ∧ TodoOk (ren 1 [(1, 1), (2, 2), (3, 3), (4, 4)]) oB_d0 oB_d0 ∧ pg = pg ∧ off = off ∧ n = n ∧ ari BinOp.rem IntKind.u8 (intAt cs (off + Int.toNat i * 3 + 2)) (4 : Int) = ari BinOp.rem IntKind.u8 (intAt cs (off + Int.toNat i * 3 + 2)) (4 : Int) ∧ i = i ∧ getI (ari BinOp.rem IntKind.i64 (ari BinOp.add IntKind.i64 (ari BinOp.rem IntKind.i64 (intAt cs (off + Int.toNat i * 3 + 1)) (64 : Int)) (64 : Int)) (64 : Int)) hs = getI (ari BinOp.rem IntKind.i64 (ari BinOp.add IntKind.i64 (ari BinOp.rem IntKind.i64 (intAt cs (off + Int.toNat i * 3 + 1)) (64 : Int)) (64 : Int)) (64 : Int)) hs ∧ ari BinOp.rem IntKind.i64 (ari BinOp.add IntKind.i64 (ari BinOp.rem IntKind.i64 (intAt cs (off + Int.toNat i * 3 + 1)) (64 : Int)) (64 : Int)) (64 : Int) = ari BinOp.rem IntKind.i64 (ari BinOp.add IntKind.i64 (ari BinOp.rem IntKind.i64 (intAt cs (off + Int.toNat i * 3 + 1)) (64 : Int)) (64 : Int)) (64 : Int) ∧ hasI (ari BinOp.rem IntKind.i64 (ari BinOp.add IntKind.i64 (ari BinOp.rem IntKind.i64 (intAt cs (off + Int.toNat i * 3 + 1)) (64 : Int)) (64 : Int)) (64 : Int)) hs = hasI (ari BinOp.rem IntKind.i64 (ari BinOp.add IntKind.i64 (ari BinOp.rem IntKind.i64 (intAt cs (off + Int.toNat i * 3 + 1)) (64 : Int)) (64 : Int)) (64 : Int)) hs ∧ ty = ty ∧ cs = cs ∧ (63 : TypeId) = (63 : TypeId) ∧ ps = ps ∧ (31 : TypeId) = (31 : Nat) ∧ intAt cs (off + Int.toNat i * 3) = intAt cs (off + Int.toNat i * 3) ∧ intAt cs (off + Int.toNat i * 3 + 1) = intAt cs (off + Int.toNat i * 3 + 1) ∧ intAt cs (off + Int.toNat i * 3 + 2) = intAt cs (off + Int.toNat i * 3 + 2) ∧ IntKind.i64 = IntKind.i64 ∧ VK.i IntKind.u8 = VK.i IntKind.u8 ∧ hs = hs ∧ IntKind.i64 = IntKind.i64 ∧ VK.i IntKind.u8 = VK.i IntKind.u8 ∧ bs = bs ∧ True) ∧ (decide (i < (↑n : Int)) = false → QoE (0 : Int) ps hs bs ∧ CallKind.normal = CallKind.normal ∧ TodoOk (ren 1 [(1, 1), (2, 2), (3, 3)]) oE_d0 oE_d0 ∧ pg = pg ∧ (0 : Int) = (0 : Int) ∧ (63 : TypeId) = (63 : TypeId) ∧ ps = ps ∧ IntKind.i64 = IntKind.i64 ∧ VK.i IntKind.u8 = VK.i IntKind.u8 ∧ hs = hs ∧ IntKind.i64 = IntKind.i64 ∧ VK.i IntKind.u8 = VK.i IntKind.u8 ∧ bs = bs ∧ True)) := by kernel_rfl
theorem pB_vc (off : Nat) (n : Nat) (cs : Array Value) (ty : TypeId) (pg : Int) (i : Int) (d : Int) (x : Int) (y : Int) (w : Int) (p : Int) (h : Int) (z : Bool) (ps : Array Value) (hs : List (Int × Int)) (bs : List (Int × Int)) (QoC : Int → Int → Int → Int → Int → Int → Array Value → List (Int × Int) → List (Int × Int) → Prop) (QoA : Int → Array Value → List (Int × Int) → List (Int × Int) → Prop) : (pB_t off n cs ty pg i d x y w p h z ps hs bs).vc ((isB true)) (pB_x off n cs ty pg i d x y w p h z ps hs bs QoC QoA) =
    (((d == (0 : Int)) = true → (decide (ari BinOp.add IntKind.i64 (1 : Int) (ari BinOp.rem IntKind.i64 p (5 : Int)) < (1 : Int)) = true → QoC i w (ari BinOp.add IntKind.i64 (1 : Int) (ari BinOp.rem IntKind.i64 p (5 : Int))) (0 : Int) (2 : Int) (0 : Int) ps hs bs ∧ CallKind.normal = CallKind.normal ∧ TodoOk (ren 1 [(1, 1), (2, 2), (3, 3)]) oC_d0 oC_d0 ∧ pg = pg ∧ off = off ∧ n = n ∧ ari BinOp.add IntKind.i64 (1 : Int) (ari BinOp.rem IntKind.i64 p (5 : Int)) = ari BinOp.add IntKind.i64 (1 : Int) (ari BinOp.rem IntKind.i64 p (5 : Int)) ∧ w = w ∧ i = i ∧ (2 : Int) = (2 : Int) ∧ (0 : Int) = (0 : Int) ∧ (0 : Int) = (0 : Int) ∧ ty = ty ∧ cs = cs ∧ (63 : TypeId) = (63 : TypeId) ∧ ps = ps ∧ IntKind.i64 = IntKind.i64 ∧ VK.i IntKind.u8 = VK.i IntKind.u8 ∧ hs = hs ∧ IntKind.i64 = IntKind.i64 ∧ VK.i IntKind.u8 = VK.i IntKind.u8 ∧ bs = bs ∧ True) ∧ (decide (ari BinOp.add IntKind.i64 (1 : Int) (ari BinOp.rem IntKind.i64 p (5 : Int)) < (1 : Int)) = false → (IsInt IntKind.u64 ps (1 : Nat) ∧ True) ∧ (uw (wd (intAt ps (1 : Nat))) = intAt ps (1 : Nat) ∧ True) ∧ ((!findOk (wd (intAt ps (1 : Nat))) (ari BinOp.add IntKind.i64 (1 : Int) (ari BinOp.rem IntKind.i64 p (5 : Int)))) = true → QoC i w (ari BinOp.add IntKind.i64 (1 : Int) (ari BinOp.rem IntKind.i64 p (5 : Int))) (0 : Int) (6 : Int) (0 : Int) ps hs bs ∧ CallKind.normal = CallKind.normal ∧ TodoOk (ren 1 [(1, 1), (2, 2), (3, 3)]) oC_d0 oC_d0 ∧ pg = pg ∧ off = off ∧ n = n ∧ ari BinOp.add IntKind.i64 (1 : Int) (ari BinOp.rem IntKind.i64 p (5 : Int)) = ari BinOp.add IntKind.i64 (1 : Int) (ari BinOp.rem IntKind.i64 p (5 : Int)) ∧ w = w ∧ i = i ∧ (6 : Int) = (6 : Int) ∧ (0 : Int) = (0 : Int) ∧ (0 : Int) = (0 : Int) ∧ ty = ty ∧ cs = cs ∧ (63 : TypeId) = (63 : TypeId) ∧ ps = ps ∧ IntKind.i64 = IntKind.i64 ∧ VK.i IntKind.u8 = VK.i IntKind.u8 ∧ hs = hs ∧ IntKind.i64 = IntKind.i64 ∧ VK.i IntKind.u8 = VK.i IntKind.u8 ∧ bs = bs ∧ True) ∧ ((!findOk (wd (intAt ps (1 : Nat))) (ari BinOp.add IntKind.i64 (1 : Int) (ari BinOp.rem IntKind.i64 p (5 : Int)))) = false → (IsInt IntKind.u64 ps (1 : Nat) ∧ True) ∧ (uw (wd (intAt ps (1 : Nat))) = intAt ps (1 : Nat) ∧ True) ∧ ((1 : Nat) < Array.size ps ∧ True) ∧ QoC i w (ari BinOp.add IntKind.i64 (1 : Int) (ari BinOp.rem IntKind.i64 p (5 : Int))) (findI (wd (intAt ps (1 : Nat))) (ari BinOp.add IntKind.i64 (1 : Int) (ari BinOp.rem IntKind.i64 p (5 : Int)))) (0 : Int) (findI (wd (intAt ps (1 : Nat))) (ari BinOp.add IntKind.i64 (1 : Int) (ari BinOp.rem IntKind.i64 p (5 : Int)))) (Array.setIfInBounds ps (1 : Nat) (Value.int IntKind.u64 (uw (takeW (wd (intAt ps (1 : Nat))) (findI (wd (intAt ps (1 : Nat))) (ari BinOp.add IntKind.i64 (1 : Int) (ari BinOp.rem IntKind.i64 p (5 : Int)))) (ari BinOp.add IntKind.i64 (1 : Int) (ari BinOp.rem IntKind.i64 p (5 : Int))))))) hs bs ∧ CallKind.normal = CallKind.normal ∧ TodoOk (ren 1 [(1, 1), (2, 2), (3, 3)]) oC_d0 oC_d0 ∧ pg = pg ∧ off = off ∧ n = n ∧ ari BinOp.add IntKind.i64 (1 : Int) (ari BinOp.rem IntKind.i64 p (5 : Int)) = ari BinOp.add IntKind.i64 (1 : Int) (ari BinOp.rem IntKind.i64 p (5 : Int)) ∧ w = w ∧ i = i ∧ (0 : Int) = (0 : Int) ∧ findI (wd (intAt ps (1 : Nat))) (ari BinOp.add IntKind.i64 (1 : Int) (ari BinOp.rem IntKind.i64 p (5 : Int))) = findI (wd (intAt ps (1 : Nat))) (ari BinOp.add IntKind.i64 (1 : Int) (ari BinOp.rem IntKind.i64 p (5 : Int))) ∧ findI (wd (intAt ps (1 : Nat))) (ari BinOp.add IntKind.i64 (1 : Int) (ari BinOp.rem IntKind.i64 p (5 : Int))) = findI (wd (intAt ps (1 : Nat))) (ari BinOp.add IntKind.i64 (1 : Int) (ari BinOp.rem IntKind.i64 p (5 : Int))) ∧ ty = ty ∧ cs = cs ∧ (63 : TypeId) = (63 : TypeId) ∧ Array.setIfInBounds ps (1 : Nat) (Value.int IntKind.u64 (uw (takeW (wd (intAt ps (1 : Nat))) (findI (wd (intAt ps (1 : Nat))) (ari BinOp.add IntKind.i64 (1 : Int) (ari BinOp.rem IntKind.i64 p (5 : Int)))) (ari BinOp.add IntKind.i64 (1 : Int) (ari BinOp.rem IntKind.i64 p (5 : Int)))))) = Array.setIfInBounds ps (1 : Nat) (Value.int IntKind.u64 (uw (takeW (wd (intAt ps (1 : Nat))) (findI (wd (intAt ps (1 : Nat))) (ari BinOp.add IntKind.i64 (1 : Int) (ari BinOp.rem IntKind.i64 p (5 : Int)))) (ari BinOp.add IntKind.i64 (1 : Int) (ari BinOp.rem IntKind.i64 p (5 : Int)))))) ∧ IntKind.i64 = IntKind.i64 ∧ VK.i IntKind.u8 = VK.i IntKind.u8 ∧ hs = hs ∧ IntKind.i64 = IntKind.i64 ∧ VK.i IntKind.u8 = VK.i IntKind.u8 ∧ bs = bs ∧ True))) ∧ ((d == (0 : Int)) = false → (((d == (2 : Int)) == true) = true → ((z == true) = true → ((h == w) = true → ((decide (p < (0 : Int)) == false) = true → (IsInt IntKind.i64 ps (0 : Nat) ∧ True) ∧ (decide (p ≥ intAt ps (0 : Nat)) = true → false = true) ∧ (decide (p ≥ intAt ps (0 : Nat)) = false → (IsInt IntKind.u64 ps (1 : Nat) ∧ True) ∧ (uw (wd (intAt ps (1 : Nat))) = intAt ps (1 : Nat) ∧ True) ∧ ((decide ((0 : Int) ≤ p) && BitVec.getLsbD (wd (intAt ps (1 : Nat))) (Int.toNat p)) = true → false = true) ∧ ((decide ((0 : Int) ≤ p) && BitVec.getLsbD (wd (intAt ps (1 : Nat))) (Int.toNat p)) = false → (IsInt IntKind.u64 ps (1 : Nat) ∧ True) ∧ (uw (wd (intAt ps (1 : Nat))) = intAt ps (1 : Nat) ∧ True) ∧ ((1 : Nat) < Array.size ps ∧ True) ∧ QoA (ari BinOp.add IntKind.i64 i (1 : Int)) (Array.setIfInBounds ps (1 : Nat) (Value.int IntKind.u64 (uw (giveW (wd (intAt ps (1 : Nat))) p (1 : Int))))) (delI p hs) bs ∧ CallKind.normal = CallKind.normal ∧ TodoOk (ren 1 [(1, 1), (2, 2), (3, 3)]) oA_d0 oA_d0 ∧ pg = pg ∧ off = off ∧ n = n ∧ ari BinOp.add IntKind.i64 i (1 : Int) = ari BinOp.add IntKind.i64 i (1 : Int) ∧ ty = ty ∧ cs = cs ∧ (63 : TypeId) = (63 : TypeId) ∧ Array.setIfInBounds ps (1 : Nat) (Value.int IntKind.u64 (uw (giveW (wd (intAt ps (1 : Nat))) p (1 : Int)))) = Array.setIfInBounds ps (1 : Nat) (Value.int IntKind.u64 (uw (giveW (wd (intAt ps (1 : Nat))) p (1 : Int)))) ∧ IntKind.i64 = IntKind.i64 ∧ VK.i IntKind.u8 = VK.i IntKind.u8 ∧ delI p hs = delI p hs ∧ IntKind.i64 = IntKind.i64 ∧ VK.i IntKind.u8 = VK.i IntKind.u8 ∧ bs = bs ∧ True))) ∧ ((decide (p < (0 : Int)) == false) = false → false = true)) ∧ ((h == w) = false → ((z == true) = true → ((h == w) = true → (decide (ari BinOp.add IntKind.i64 (ari BinOp.mul IntKind.i64 p (32 : Int)) (ari BinOp.rem IntKind.i64 (IntKind.wrap IntKind.i64 d) (32 : Int)) < (0 : Int)) = true → false = true) ∧ (decide (ari BinOp.add IntKind.i64 (ari BinOp.mul IntKind.i64 p (32 : Int)) (ari BinOp.rem IntKind.i64 (IntKind.wrap IntKind.i64 d) (32 : Int)) < (0 : Int)) = false → ((decide (ari BinOp.quo IntKind.i64 (ari BinOp.add IntKind.i64 (ari BinOp.mul IntKind.i64 p (32 : Int)) (ari BinOp.rem IntKind.i64 (IntKind.wrap IntKind.i64 d) (32 : Int))) (32 : Int) < (0 : Int)) == false) = true → (IsInt IntKind.i64 ps (0 : Nat) ∧ True) ∧ (decide (ari BinOp.quo IntKind.i64 (ari BinOp.add IntKind.i64 (ari BinOp.mul IntKind.i64 p (32 : Int)) (ari BinOp.rem IntKind.i64 (IntKind.wrap IntKind.i64 d) (32 : Int))) (32 : Int) ≥ intAt ps (0 : Nat)) = true → false = true) ∧ (decide (ari BinOp.quo IntKind.i64 (ari BinOp.add IntKind.i64 (ari BinOp.mul IntKind.i64 p (32 : Int)) (ari BinOp.rem IntKind.i64 (IntKind.wrap IntKind.i64 d) (32 : Int))) (32 : Int) ≥ intAt ps (0 : Nat)) = false → (IsInt IntKind.u64 ps (1 : Nat) ∧ True) ∧ (uw (wd (intAt ps (1 : Nat))) = intAt ps (1 : Nat) ∧ True) ∧ ((decide ((0 : Int) ≤ ari BinOp.quo IntKind.i64 (ari BinOp.add IntKind.i64 (ari BinOp.mul IntKind.i64 p (32 : Int)) (ari BinOp.rem IntKind.i64 (IntKind.wrap IntKind.i64 d) (32 : Int))) (32 : Int)) && BitVec.getLsbD (wd (intAt ps (1 : Nat))) (Int.toNat (ari BinOp.quo IntKind.i64 (ari BinOp.add IntKind.i64 (ari BinOp.mul IntKind.i64 p (32 : Int)) (ari BinOp.rem IntKind.i64 (IntKind.wrap IntKind.i64 d) (32 : Int))) (32 : Int)))) = true → false = true) ∧ ((decide ((0 : Int) ≤ ari BinOp.quo IntKind.i64 (ari BinOp.add IntKind.i64 (ari BinOp.mul IntKind.i64 p (32 : Int)) (ari BinOp.rem IntKind.i64 (IntKind.wrap IntKind.i64 d) (32 : Int))) (32 : Int)) && BitVec.getLsbD (wd (intAt ps (1 : Nat))) (Int.toNat (ari BinOp.quo IntKind.i64 (ari BinOp.add IntKind.i64 (ari BinOp.mul IntKind.i64 p (32 : Int)) (ari BinOp.rem IntKind.i64 (IntKind.wrap IntKind.i64 d) (32 : Int))) (32 : Int)))) = false → (((0 : Int) ≤ ari BinOp.quo IntKind.i64 (ari BinOp.add IntKind.i64 (ari BinOp.mul IntKind.i64 p (32 : Int)) (ari BinOp.rem IntKind.i64 (IntKind.wrap IntKind.i64 d) (32 : Int))) (32 : Int) ∧ ari BinOp.quo IntKind.i64 (ari BinOp.add IntKind.i64 (ari BinOp.mul IntKind.i64 p (32 : Int)) (ari BinOp.rem IntKind.i64 (IntKind.wrap IntKind.i64 d) (32 : Int))) (32 : Int) < (64 : Int)) ∧ True) ∧ (((0 : Int) ≤ ari BinOp.rem IntKind.i64 (ari BinOp.add IntKind.i64 (ari BinOp.mul IntKind.i64 p (32 : Int)) (ari BinOp.rem IntKind.i64 (IntKind.wrap IntKind.i64 d) (32 : Int))) (32 : Int) ∧ ari BinOp.rem IntKind.i64 (ari BinOp.add IntKind.i64 (ari BinOp.mul IntKind.i64 p (32 : Int)) (ari BinOp.rem IntKind.i64 (IntKind.wrap IntKind.i64 d) (32 : Int))) (32 : Int) < (32 : Int)) ∧ True) ∧ ((2 : Nat) + Int.toNat (ari BinOp.quo IntKind.i64 (ari BinOp.add IntKind.i64 (ari BinOp.mul IntKind.i64 p (32 : Int)) (ari BinOp.rem IntKind.i64 (IntKind.wrap IntKind.i64 d) (32 : Int))) (32 : Int)) * 32 + Int.toNat (ari BinOp.rem IntKind.i64 (ari BinOp.add IntKind.i64 (ari BinOp.mul IntKind.i64 p (32 : Int)) (ari BinOp.rem IntKind.i64 (IntKind.wrap IntKind.i64 d) (32 : Int))) (32 : Int)) * 1 < Array.size ps ∧ True) ∧ QoA (ari BinOp.add IntKind.i64 i (1 : Int)) (Array.setIfInBounds ps ((2 : Nat) + Int.toNat (ari BinOp.quo IntKind.i64 (ari BinOp.add IntKind.i64 (ari BinOp.mul IntKind.i64 p (32 : Int)) (ari BinOp.rem IntKind.i64 (IntKind.wrap IntKind.i64 d) (32 : Int))) (32 : Int)) * 32 + Int.toNat (ari BinOp.rem IntKind.i64 (ari BinOp.add IntKind.i64 (ari BinOp.mul IntKind.i64 p (32 : Int)) (ari BinOp.rem IntKind.i64 (IntKind.wrap IntKind.i64 d) (32 : Int))) (32 : Int)) * 1) (Value.int IntKind.u8 y)) hs (insI (ari BinOp.add IntKind.i64 (ari BinOp.mul IntKind.i64 p (32 : Int)) (ari BinOp.rem IntKind.i64 (IntKind.wrap IntKind.i64 d) (32 : Int))) y bs) ∧ CallKind.normal = CallKind.normal ∧ TodoOk (ren 1 [(1, 1), (2, 2), (3, 3)]) oA_d0 oA_d0 ∧ pg = pg ∧ off = off ∧ n = n ∧ ari BinOp.add IntKind.i64 i (1 : Int) = ari BinOp.add IntKind.i64 i (1 : Int) ∧ ty = ty ∧ cs = cs ∧ (63 : TypeId) = (63 : TypeId) ∧ Array.setIfInBounds ps ((2 : Nat) + Int.toNat (ari BinOp.quo IntKind.i64 (ari BinOp.add IntKind.i64 (ari BinOp.mul IntKind.i64 p (32 : Int)) (ari BinOp.rem IntKind.i64 (IntKind.wrap IntKind.i64 d) (32 : Int))) (32 : Int)) * 32 + Int.toNat (ari BinOp.rem IntKind.i64 (ari BinOp.add IntKind.i64 (ari BinOp.mul IntKind.i64 p (32 : Int)) (ari BinOp.rem IntKind.i64 (IntKind.wrap IntKind.i64 d) (32 : Int))) (32 : Int)) * 1) (Value.int IntKind.u8 y) = Array.setIfInBounds ps ((2 : Nat) + Int.toNat (ari BinOp.quo IntKind.i64 (ari BinOp.add IntKind.i64 (ari BinOp.mul IntKind.i64 p (32 : Int)) (ari BinOp.rem IntKind.i64 (IntKind.wrap IntKind.i64 d) (32 : Int))) (32 : Int)) * 32 + Int.toNat (ari BinOp.rem IntKind.i64 (ari BinOp.add IntKind.i64 (ari BinOp.mul IntKind.i64 p (32 : Int)) (ari BinOp.rem IntKind.i64 (IntKind.wrap IntKind.i64 d) (32 : Int))) (32 : Int)) * 1) (Value.int IntKind.u8 y) ∧ IntKind.i64 = IntKind.i64 ∧ VK.i IntKind.u8 = VK.i IntKind.u8 ∧ hs = hs ∧ IntKind.i64 = IntKind.i64 ∧ VK.i IntKind.u8 = VK.i IntKind.u8 ∧ insI (ari BinOp.add IntKind.i64 (ari BinOp.mul IntKind.i64 p (32 : Int)) (ari BinOp.rem IntKind.i64 (IntKind.wrap IntKind.i64 d) (32 : Int))) y bs = insI (ari BinOp.add IntKind.i64 (ari BinOp.mul IntKind.i64 p (32 : Int)) (ari BinOp.rem IntKind.i64 (IntKind.wrap IntKind.i64 d) (32 : Int))) y bs ∧ True))) ∧ ((decide (ari BinOp.quo IntKind.i64 (ari BinOp.add IntKind.i64 (ari BinOp.mul IntKind.i64 p (32 : Int)) (ari BinOp.rem IntKind.i64 (IntKind.wrap IntKind.i64 d) (32 : Int))) (32 : Int) < (0 : Int)) == false) = false → false = true))) ∧ ((h == w) = false → QoA (ari BinOp.add IntKind.i64 i (1 : Int)) ps hs bs ∧ CallKind.normal = CallKind.normal ∧ TodoOk (ren 1 [(1, 1), (2, 2), (3, 3)]) oA_d0 oA_d0 ∧ pg = pg ∧ off = off ∧ n = n ∧ ari BinOp.add IntKind.i64 i (1 : Int) = ari BinOp.add IntKind.i64 i (1 : Int) ∧ ty = ty ∧ cs = cs ∧ (63 : TypeId) = (63 : TypeId) ∧ ps = ps ∧ IntKind.i64 = IntKind.i64 ∧ VK.i IntKind.u8 = VK.i IntKind.u8 ∧ hs = hs ∧ IntKind.i64 = IntKind.i64 ∧ VK.i IntKind.u8 = VK.i IntKind.u8 ∧ bs = bs ∧ True)) ∧ ((z == true) = false → QoA (ari BinOp.add IntKind.i64 i (1 : Int)) ps hs bs ∧ CallKind.normal = CallKind.normal ∧ TodoOk (ren 1 [(1, 1), (2, 2), (3, 3)]) oA_d0 oA_d0 ∧ pg = pg ∧ off = off ∧ n = n ∧ ari BinOp.add IntKind.i64 i (1 : Int) = ari BinOp.add IntKind.i64 i (1 : Int) ∧ ty = ty ∧ cs = cs ∧ (63 : TypeId) = (63 : TypeId) ∧ ps = ps ∧ IntKind.i64 = IntKind.i64 ∧ VK.i IntKind.u8 = VK.i IntKind.u8 ∧ hs = hs ∧ IntKind.i64 = IntKind.i64 ∧ VK.i IntKind.u8 = VK.i IntKind.u8 ∧ bs = bs ∧ True))) ∧ ((z == true) = false → ((z == true) = true → ((h == w) = true → (decide (ari BinOp.add IntKind.i64 (ari BinOp.mul IntKind.i64 p (32 : Int)) (ari BinOp.rem IntKind.i64 (IntKind.wrap IntKind.i64 d) (32 : Int)) < (0 : Int)) = true → false = true) ∧ (decide (ari BinOp.add IntKind.i64 (ari BinOp.mul IntKind.i64 p (32 : Int)) (ari BinOp.rem IntKind.i64 (IntKind.wrap IntKind.i64 d) (32 : Int)) < (0 : Int)) = false → ((decide (ari BinOp.quo IntKind.i64 (ari BinOp.add IntKind.i64 (ari BinOp.mul IntKind.i64 p (32 : Int)) (ari BinOp.rem IntKind.i64 (IntKind.wrap IntKind.i64 d) (32 : Int))) (32 : Int) < (0 : Int)) == false) = true → (IsInt IntKind.i64 ps (0 : Nat) ∧ True) ∧ (decide (ari BinOp.quo IntKind.i64 (ari BinOp.add IntKind.i64 (ari BinOp.mul IntKind.i64 p (32 : Int)) (ari BinOp.rem IntKind.i64 (IntKind.wrap IntKind.i64 d) (32 : Int))) (32 : Int) ≥ intAt ps (0 : Nat)) = true → false = true) ∧ (decide (ari BinOp.quo IntKind.i64 (ari BinOp.add IntKind.i64 (ari BinOp.mul IntKind.i64 p (32 : Int)) (ari BinOp.rem IntKind.i64 (IntKind.wrap IntKind.i64 d) (32 : Int))) (32 : Int) ≥ intAt ps (0 : Nat)) = false → (IsInt IntKind.u64 ps (1 : Nat) ∧ True) ∧ (uw (wd (intAt ps (1 : Nat))) = intAt ps (1 : Nat) ∧ True) ∧ ((decide ((0 : Int) ≤ ari BinOp.quo IntKind.i64 (ari BinOp.add IntKind.i64 (ari BinOp.mul IntKind.i64 p (32 : Int)) (ari BinOp.rem IntKind.i64 (IntKind.wrap IntKind.i64 d) (32 : Int))) (32 : Int)) && BitVec.getLsbD (wd (intAt ps (1 : Nat))) (Int.toNat (ari BinOp.quo IntKind.i64 (ari BinOp.add IntKind.i64 (ari BinOp.mul IntKind.i64 p (32 : Int)) (ari BinOp.rem IntKind.i64 (IntKind.wrap IntKind.i64 d) (32 : Int))) (32 : Int)))) = true → false = true) ∧ ((decide ((0 : Int) ≤ ari BinOp.quo IntKind.i64 (ari BinOp.add IntKind.i64 (ari BinOp.mul IntKind.i64 p (32 : Int)) (ari BinOp.rem IntKind.i64 (IntKind.wrap IntKind.i64 d) (32 : Int))) (32 : Int)) && BitVec.getLsbD (wd (intAt ps (1 : Nat))) (Int.toNat (ari BinOp.quo IntKind.i64 (ari BinOp.add IntKind.i64 (ari BinOp.mul IntKind.i64 p (32 : Int)) (ari BinOp.rem IntKind.i64 (IntKind.wrap IntKind.i64 d) (32 : Int))) (32 : Int)))) = false → (((0 : Int) ≤ ari BinOp.quo IntKind.i64 (ari BinOp.add IntKind.i64 (ari BinOp.mul IntKind.i64 p (32 : Int)) (ari BinOp.rem IntKind.i64 (IntKind.wrap IntKind.i64 d) (32 : Int))) (32 : Int) ∧ ari BinOp.quo IntKind.i64 (ari BinOp.add IntKind.i64 (ari BinOp.mul IntKind.i64 p (32 : Int)) (ari BinOp.rem IntKind.i64 (IntKind.wrap IntKind.i64 d) (32 : Int))) (32 : Int) < (64 : Int)) ∧ True) ∧ (((0 : Int) ≤ ari BinOp.rem IntKind.i64 (ari BinOp.add IntKind.i64 (ari BinOp.mul IntKind.i64 p (32 : Int)) (ari BinOp.rem IntKind.i64 (IntKind.wrap IntKind.i64 d) (32 : Int))) (32 : Int) ∧ ari BinOp.rem IntKind.i64 (ari BinOp.add IntKind.i64 (ari BinOp.mul IntKind.i64 p (32 : Int)) (ari BinOp.rem IntKind.i64 (IntKind.wrap IntKind.i64 d) (32 : Int))) (32 : Int) < (32 : Int)) ∧ True) ∧ ((2 : Nat) + Int.toNat (ari BinOp.quo IntKind.i64 (ari BinOp.add IntKind.i64 (ari BinOp.mul IntKind.i64 p (32 : Int)) (ari BinOp.rem IntKind.i64 (IntKind.wrap IntKind.i64 d) (32 : Int))) (32 : Int)) * 32 + Int.toNat (ari BinOp.rem IntKind.i64 (ari BinOp.add IntKind.i64 (ari BinOp.mul IntKind.i64 p (32 : Int)) (ari BinOp.rem IntKind.i64 (IntKind.wrap IntKind.i64 d) (32 : Int))) (32 : Int)) * 1 < Array.size ps ∧ True) ∧ QoA (ari BinOp.add IntKind.i64 i (1 : Int)) (Array.setIfInBounds ps ((2 : Nat) + Int.toNat (ari BinOp.quo IntKind.i64 (ari BinOp.add IntKind.i64 (ari BinOp.mul IntKind.i64 p (32 : Int)) (ari BinOp.rem IntKind.i64 (IntKind.wrap IntKind.i64 d) (32 : Int))) (32 : Int)) * 32 + Int.toNat (ari BinOp.rem IntKind.i64 (ari BinOp.add IntKind.i64 (ari BinOp.mul IntKind.i64 p (32 : Int)) (ari BinOp.rem IntKind.i64 (IntKind.wrap IntKind.i64 d) (32 : Int))) (32 : Int)) * 1) (Value.int IntKind.u8 y)) hs (insI (ari BinOp.add IntKind.i64 (ari BinOp.mul IntKind.i64 p (32 : Int)) (ari BinOp.rem IntKind.i64 (IntKind.wrap IntKind.i64 d) (32 : Int))) y bs) ∧ CallKind.normal = CallKind.normal ∧ TodoOk (ren 1 [(1, 1), (2, 2), (3, 3)]) oA_d0 oA_d0 ∧ pg = pg ∧ off = off ∧ n = n ∧ ari BinOp.add IntKind.i64 i (1 : Int) = ari BinOp.add IntKind.i64 i (1 : Int) ∧ ty = ty ∧ cs = cs ∧ (63 : TypeId) = (63 : TypeId) ∧ Array.setIfInBounds ps ((2 : Nat) + Int.toNat (ari BinOp.quo IntKind.i64 (ari BinOp.add IntKind.i64 (ari BinOp.mul IntKind.i64 p (32 : Int)) (ari BinOp.rem IntKind.i64 (IntKind.wrap IntKind.i64 d) (32 : Int))) (32 : Int)) * 32 + Int.toNat (ari BinOp.rem IntKind.i64 (ari BinOp.add IntKind.i64 (ari BinOp.mul IntKind.i64 p (32 : Int)) (ari BinOp.rem IntKind.i64 (IntKind.wrap IntKind.i64 d) (32 : Int))) (32 : Int)) * 1) (Value.int IntKind.u8 y) = Array.setIfInBounds ps ((2 : Nat) + Int.toNat (ari BinOp.quo IntKind.i64 (ari BinOp.add IntKind.i64 (ari BinOp.mul IntKind.i64 p (32 : Int)) (ari BinOp.rem IntKind.i64 (IntKind.wrap IntKind.i64 d) (32 : Int))) (32 : Int)) * 32 + Int.toNat (ari BinOp.rem IntKind.i64 (ari BinOp.add IntKind.i64 (ari BinOp.mul IntKind.i64 p (32 : Int)) (ari BinOp.rem IntKind.i64 (IntKind.wrap IntKind.i64 d) (32 : Int))) (32 : Int)) * 1) (Value.int IntKind.u8 y) ∧ IntKind.i64 = IntKind.i64 ∧ VK.i IntKind.u8 = VK.i IntKind.u8 ∧ hs = hs ∧ IntKind.i64 = IntKind.i64 ∧ VK.i IntKind.u8 = VK.i IntKind.u8 ∧ insI (ari BinOp.add IntKind.i64 (ari BinOp.mul IntKind.i64 p (32 : Int)) (ari BinOp.rem IntKind.i64 (IntKind.wrap IntKind.i64 d) (32 : Int))) y bs = insI (ari BinOp.add IntKind.i64 (ari BinOp.mul IntKind.i64 p (32 : Int)) (ari BinOp.rem IntKind.i64 (IntKind.wrap IntKind.i64 d) (32 : Int))) y bs ∧ True))) ∧ ((decide (ari BinOp.quo IntKind.i64 (ari BinOp.add IntKind.i64 (ari BinOp.mul IntKind.i64 p (32 : Int)) (ari BinOp.rem IntKind.i64 (IntKind.wrap IntKind.i64 d) (32 : Int))) (32 : Int) < (0 : Int)) == false) = false → false = true))) ∧ ((h == w) = false → QoA (ari BinOp.add IntKind.i64 i (1 : Int)) ps hs bs ∧ CallKind.normal = CallKind.normal ∧ TodoOk (ren 1 [(1, 1), (2, 2), (3, 3)]) oA_d0 oA_d0 ∧ pg = pg ∧ off = off ∧ n = n ∧ ari BinOp.add IntKind.i64 i (1 : Int) = ari BinOp.add IntKind.i64 i (1 : Int) ∧ ty = ty ∧ cs = cs ∧ (63 : TypeId) = (63 : TypeId) ∧ ps = ps ∧ IntKind.i64 = IntKind.i64 ∧ VK.i IntKind.u8 = VK.i IntKind.u8 ∧ hs = hs ∧ IntKind.i64 = IntKind.i64 ∧ VK.i IntKind.u8 = VK.i IntKind.u8 ∧ bs = bs ∧ True)) ∧ ((z == true) = false → QoA (ari BinOp.add IntKind.i64 i (1 : Int)) ps hs bs ∧ CallKind.normal = CallKind.normal ∧ TodoOk (ren 1 [(1, 1), (2, 2), (3, 3)]) oA_d0 oA_d0 ∧ pg = pg ∧ off = off ∧ n = n ∧ ari BinOp.add IntKind.i64 i (1 : Int) = ari BinOp.add IntKind.i64 i (1 : Int) ∧ ty = ty ∧ cs = cs ∧ (63 : TypeId) = (63 : TypeId) ∧ ps = ps ∧ IntKind.i64 = IntKind.i64 ∧ VK.i IntKind.u8 = VK.i IntKind.u8 ∧ hs = hs ∧ IntKind.i64 = IntKind.i64 ∧ VK.i IntKind.u8 = VK.i IntKind.u8 ∧ bs = bs ∧ True))) ∧ (((d == (2 : Int)) == true) = false → ((z == true) = true → ((h == w) = true → (decide (ari BinOp.add IntKind.i64 (ari BinOp.mul IntKind.i64 p (32 : Int)) (ari BinOp.rem IntKind.i64 (IntKind.wrap IntKind.i64 d) (32 : Int)) < (0 : Int)) = true → false = true) ∧ (decide (ari BinOp.add IntKind.i64 (ari BinOp.mul IntKind.i64 p (32 : Int)) (ari BinOp.rem IntKind.i64 (IntKind.wrap IntKind.i64 d) (32 : Int)) < (0 : Int)) = false → ((decide (ari BinOp.quo IntKind.i64 (ari BinOp.add IntKind.i64 (ari BinOp.mul IntKind.i64 p (32 : Int)) (ari BinOp.rem IntKind.i64 (IntKind.wrap IntKind.i64 d) (32 : Int))) (32 : Int) < (0 : Int)) == false) = true → (IsInt IntKind.i64 ps (0 : Nat) ∧ True) ∧ (decide (ari BinOp.quo IntKind.i64 (ari BinOp.add IntKind.i64 (ari BinOp.mul IntKind.i64 p (32 : Int)) (ari BinOp.rem IntKind.i64 (IntKind.wrap IntKind.i64 d) (32 : Int))) (32 : Int) ≥ intAt ps (0 : Nat)) = true → false = true) ∧ (decide (ari BinOp.quo IntKind.i64 (ari BinOp.add IntKind.i64 (ari BinOp.mul IntKind.i64 p (32 : Int)) (ari BinOp.rem IntKind.i64 (IntKind.wrap IntKind.i64 d) (32 : Int))) (32 : Int) ≥ intAt ps (0 : Nat)) = false → (IsInt IntKind.u64 ps (1 : Nat) ∧ True) ∧ (uw (wd (intAt ps (1 : Nat))) = intAt ps (1 : Nat) ∧ True) ∧ ((decide ((0 : Int) ≤ ari BinOp.quo IntKind.i64 (ari BinOp.add IntKind.i64 (ari BinOp.mul IntKind.i64 p (32 : Int)) (ari BinOp.rem IntKind.i64 (IntKind.wrap IntKind.i64 d) (32 : Int))) (32 : Int)) && BitVec.getLsbD (wd (intAt ps (1 : Nat))) (Int.toNat (ari BinOp.quo IntKind.i64 (ari BinOp.add IntKind.i64 (ari BinOp.mul IntKind.i64 p (32 : Int)) (ari BinOp.rem IntKind.i64 (IntKind.wrap IntKind.i64 d) (32 : Int))) (32 : Int)))) = true → false = true) ∧ ((decide ((0 : Int) ≤ ari BinOp.quo IntKind.i64 (ari BinOp.add IntKind.i64 (ari BinOp.mul IntKind.i64 p (32 : Int)) (ari BinOp.rem IntKind.i64 (IntKind.wrap IntKind.i64 d) (32 : Int))) (32 : Int)) && BitVec.getLsbD (wd (intAt ps (1 : Nat))) (Int.toNat (ari BinOp.quo IntKind.i64 (ari BinOp.add IntKind.i64 (ari BinOp.mul IntKind.i64 p (32 : Int)) (ari BinOp.rem IntKind.i64 (IntKind.wrap IntKind.i64 d) (32 : Int))) (32 : Int)))) = false → (((0 : Int) ≤ ari BinOp.quo IntKind.i64 (ari BinOp.add IntKind.i64 (ari BinOp.mul IntKind.i64 p (32 : Int)) (ari BinOp.rem IntKind.i64 (IntKind.wrap IntKind.i64 d) (32 : Int))) (32 : Int) ∧ ari BinOp.quo IntKind.i64 (ari BinOp.add IntKind.i64 (ari BinOp.mul IntKind.i64 p (32 : Int)) (ari BinOp.rem IntKind.i64 (IntKind.wrap IntKind.i64 d) (32 : Int))) (32 : Int) < (64 : Int)) ∧ True) ∧ (((0 : Int) ≤ ari BinOp.rem IntKind.i64 (ari BinOp.add IntKind.i64 (ari BinOp.mul IntKind.i64 p (32 : Int)) (ari BinOp.rem IntKind.i64 (IntKind.wrap IntKind.i64 d) (32 : Int))) (32 : Int) ∧ ari BinOp.rem IntKind.i64 (ari BinOp.add IntKind.i64 (ari BinOp.mul IntKind.i64 p (32 : Int)) (ari BinOp.rem IntKind.i64 (IntKind.wrap IntKind.i64 d) (32 : Int))) (32 : Int) < (32 : Int)) ∧ True) ∧ ((2 : Nat) + Int.toNat (ari BinOp.quo IntKind.i64 (ari BinOp.add IntKind.i64 (ari BinOp.mul IntKind.i64 p (32 : Int)) (ari BinOp.rem IntKind.i64 (IntKind.wrap IntKind.i64 d) (32 : Int))) (32 : Int)) * 32 + Int.toNat (ari BinOp.rem IntKind.i64 (ari BinOp.add IntKind.i64 (ari BinOp.mul IntKind.i64 p (32 : Int)) (ari BinOp.rem IntKind.i64 (IntKind.wrap IntKind.i64 d) (32 : Int))) (32 : Int)) * 1 < Array.size ps ∧ True) ∧ QoA (ari BinOp.add IntKind.i64 i (1 : Int)) (Array.setIfInBounds ps ((2 : Nat) + Int.toNat (ari BinOp.quo IntKind.i64 (ari BinOp.add IntKind.i64 (ari BinOp.mul IntKind.i64 p (32 : Int)) (ari BinOp.rem IntKind.i64 (IntKind.wrap IntKind.i64 d) (32 : Int))) (32 : Int)) * 32 + Int.toNat (ari BinOp.rem IntKind.i64 (ari BinOp.add IntKind.i64 (ari BinOp.mul IntKind.i64 p (32 : Int)) (ari BinOp.rem IntKind.i64 (IntKind.wrap IntKind.i64 d) (32 : Int))) (32 : Int)) * 1) (Value.int IntKind.u8 y)) hs (insI (ari BinOp.add IntKind.i64 (ari BinOp.mul IntKind.i64 p (32 : Int)) (ari BinOp.rem IntKind.i64 (IntKind.wrap IntKind.i64 d) (32 : Int))) y bs) ∧ CallKind.normal = CallKind.normal ∧ TodoOk (ren 1 [(1, 1), (2, 2), (3, 3)]) oA_d0 oA_d0 ∧ pg = pg ∧ off = off ∧ n = n ∧ ari BinOp.add IntKind.i64 i (1 : Int) = ari BinOp.add IntKind.i64 i (1 : Int) ∧ ty = ty ∧ cs = cs ∧ (63 : TypeId) = (63 : TypeId) ∧ Array.setIfInBounds ps ((2 : Nat) + Int.toNat (ari BinOp.quo IntKind.i64 (ari BinOp.add IntKind.i64 (ari BinOp.mul IntKind.i64 p (32 : Int)) (ari BinOp.rem IntKind.i64 (IntKind.wrap IntKind.i64 d) (32 : Int))) (32 : Int)) * 32 + Int.toNat (ari BinOp.rem IntKind.i64 (ari BinOp.add IntKind.i64 (ari BinOp.mul IntKind.i64 p (32 : Int)) (ari BinOp.rem IntKind.i64 (IntKind.wrap IntKind.i64 d) (32 : Int))) (32 : Int)) * 1) (Value.int IntKind.u8 y) = Array.setIfInBounds ps ((2 : Nat) + Int.toNat (ari BinOp.quo IntKind.i64 (ari BinOp.add IntKind.i64 (ari BinOp.mul IntKind.i64 p (32 : Int)) (ari BinOp.rem IntKind.i64 (IntKind.wrap IntKind.i64 d) (32 : Int))) (32 : Int)) * 32 + Int.toNat (ari BinOp.rem IntKind.i64 (ari BinOp.add IntKind.i64 (ari BinOp.mul IntKind.i64 p (32 : Int)) (ari BinOp.rem IntKind.i64 (IntKind.wrap IntKind.i64 d) (32 : Int))) (32 : Int)) * 1) (Value.int IntKind.u8 y) ∧ IntKind.i64 = IntKind.i64 ∧ VK.i IntKind.u8 = VK.i IntKind.u8 ∧ hs = hs ∧ IntKind.i64 = IntKind.i64 ∧ VK.i IntKind.u8 = VK.i IntKind.u8 ∧ insI (ari BinOp.add IntKind.i64 (ari BinOp.mul IntKind.i64 p (32 : Int)) (ari BinOp.rem IntKind.i64 (IntKind.wrap IntKind.i64 d) (32 : Int))) y bs = insI (ari BinOp.add IntKind.i64 (ari BinOp.mul IntKind.i64 p (32 : Int)) (ari BinOp.rem IntKind.i64 (IntKind.wrap IntKind.i64 d) (32 : Int))) y bs ∧ True))) ∧ ((decide (ari BinOp.quo IntKind.i64 (ari BinOp.add IntKind.i64 (ari BinOp.mul IntKind.i64 p (32 : Int)) (ari BinOp.rem IntKind.i64 (IntKind.wrap IntKind.i64 d) (32 : Int))) (32 : Int) < (0 : Int)) == false) = false → false = true))) ∧ ((h == w) = false → QoA (ari BinOp.add IntKind.i64 i (1 : Int)) ps hs bs ∧ CallKind.normal = CallKind.normal ∧ TodoOk (ren 1 [(1, 1), (2, 2), (3, 3)]) oA_d0 oA_d0 ∧ pg = pg ∧ off = off ∧ n = n ∧ ari BinOp.add IntKind.i64 i (1 : Int) = ari BinOp.add IntKind.i64 i (1 : Int) ∧ ty = ty ∧ cs = cs ∧ (63 : TypeId) = (63 : TypeId) ∧ ps = ps ∧ IntKind.i64 = IntKind.i64 ∧ VK.i IntKind.u8 = VK.i IntKind.u8 ∧ hs = hs ∧ IntKind.i64 = IntKind.i64 ∧ VK.i IntKind.u8 = VK.i IntKind.u8 ∧ bs = bs ∧ True)) ∧ ((z == true) = false → QoA (ari BinOp.add IntKind.i64 i (1 : Int)) ps hs bs ∧ CallKind.normal = CallKind.normal ∧ TodoOk (ren 1 [(1, 1), (2, 2), (3, 3)]) oA_d0 oA_d0 ∧ pg = pg ∧ off = off ∧ n = n ∧ ari BinOp.add IntKind.i64 i (1 : Int) = ari BinOp.add IntKind.i64 i (1 : Int) ∧ ty = ty ∧ cs = cs ∧ (63 : TypeId) = (63 : TypeId) ∧ ps = ps ∧ IntKind.i64 = IntKind.i64 ∧ VK.i IntKind.u8 = VK.i IntKind.u8 ∧ hs = hs ∧ IntKind.i64 = IntKind.i64 ∧ VK.i IntKind.u8 = VK.i IntKind.u8 ∧ bs = bs ∧ True)))) := by kernel_rfl
theorem pC_vc (off : Nat) (n : Nat) (cs : Array Value) (ty : TypeId) (pg : Int) (i : Int) (w : Int) (q : Int) (a : Int) (e : Int) (k : Int) (ps : Array Value) (hs : List (Int × Int)) (bs : List (Int × Int)) (QoD : Int → Int → Int → Int → Int → Int → Int → Array Value → List (Int × Int) → List (Int × Int) → Prop) (QoA : Int → Array Value → List (Int × Int) → List (Int × Int) → Prop) : (pC_t off n cs ty pg i w q a e k ps hs bs).vc ((isB true)) (pC_x off n cs ty pg i w q a e k ps hs bs QoD QoA) =
    (((decide (k < ari BinOp.add IntKind.i64 a q) == true) = true → ((e == (0 : Int)) = true → ((hasI k hs == false) = true → ((decide (k < (0 : Int)) == false) = true → ((decide (k ≥ IntKind.wrap IntKind.i64 pg) == false) = true → ((decide (k < (0 : Int)) == false) = true → (IsInt IntKind.i64 ps (0 : Nat) ∧ True) ∧ (decide (k ≥ intAt ps (0 : Nat)) = true → false = true) ∧ (decide (k ≥ intAt ps (0 : Nat)) = false → (IsInt IntKind.u64 ps (1 : Nat) ∧ True) ∧ (uw (wd (intAt ps (1 : Nat))) = intAt ps (1 : Nat) ∧ True) ∧ ((decide ((0 : Int) ≤ k) && BitVec.getLsbD (wd (intAt ps (1 : Nat))) (Int.toNat k)) = true → false = true) ∧ ((decide ((0 : Int) ≤ k) && BitVec.getLsbD (wd (intAt ps (1 : Nat))) (Int.toNat k)) = false → (((0 : Int) ≤ k ∧ k < (64 : Int)) ∧ True) ∧ ((match match SN.l (0 : Nat), SN.l (32 : Nat), SN.o ((2 : Nat) + Int.toNat k * 32) with | SN.l (0 : Nat), x, off => off | SN.l l, SN.l m, SN.l off => SN.l (if m = l then off else off + l * 1) | l, m, off => SN.o (if (match m with | SN.l n => n | SN.o n => n) = match l with | SN.l n => n | SN.o n => n then match off with | SN.l n => n | SN.o n => n else (match off with | SN.l n => n | SN.o n => n) + (match l with | SN.l n => n | SN.o n => n) * 1) with | SN.l n => n | SN.o n => n) + 32 ≤ Array.size ps ∧ True) ∧ QoD i w q a e k (0 : Int) (putAt ps (match match SN.l (0 : Nat), SN.l (32 : Nat), SN.o ((2 : Nat) + Int.toNat k * 32) with | SN.l (0 : Nat), x, off => off | SN.l l, SN.l m, SN.l off => SN.l (if m = l then off else off + l * 1) | l, m, off => SN.o (if (match m with | SN.l n => n | SN.o n => n) = match l with | SN.l n => n | SN.o n => n then match off with | SN.l n => n | SN.o n => n else (match off with | SN.l n => n | SN.o n => n) + (match l with | SN.l n => n | SN.o n => n) * 1) with | SN.l n => n | SN.o n => n) [Value.int IntKind.u8 (0 : Int), Value.int IntKind.u8 (0 : Int), Value.int IntKind.u8 (0 : Int), Value.int IntKind.u8 (0 : Int), Value.int IntKind.u8 (0 : Int), Value.int IntKind.u8 (0 : Int), Value.int IntKind.u8 (0 : Int), Value.int IntKind.u8 (0 : Int), Value.int IntKind.u8 (0 : Int), Value.int IntKind.u8 (0 : Int), Value.int IntKind.u8 (0 : Int), Value.int IntKind.u8 (0 : Int), Value.int IntKind.u8 (0 : Int), Value.int IntKind.u8 (0 : Int), Value.int IntKind.u8 (0 : Int), Value.int IntKind.u8 (0 : Int), Value.int IntKind.u8 (0 : Int), Value.int IntKind.u8 (0 : Int), Value.int IntKind.u8 (0 : Int), Value.int IntKind.u8 (0 : Int), Value.int IntKind.u8 (0 : Int), Value.int IntKind.u8 (0 : Int), Value.int IntKind.u8 (0 : Int), Value.int IntKind.u8 (0 : Int), Value.int IntKind.u8 (0 : Int), Value.int IntKind.u8 (0 : Int), Value.int IntKind.u8 (0 : Int), Value.int IntKind.u8 (0 : Int), Value.int IntKind.u8 (0 : Int), Value.int IntKind.u8 (0 : Int), Value.int IntKind.u8 (0 : Int), Value.int IntKind.u8 (0 : Int)]) (insI k w hs) bs ∧ CallKind.normal = CallKind.normal ∧ TodoOk (ren 1 [(1, 1), (2, 2), (3, 3)]) oD_d0 oD_d0 ∧ pg = pg ∧ off = off ∧ n = n ∧ q = q ∧ w = w ∧ i = i ∧ e = e ∧ (0 : Int) = (0 : Int) ∧ a = a ∧ k = k ∧ ty = ty ∧ cs = cs ∧ (63 : TypeId) = (63 : TypeId) ∧ putAt ps (match match SN.l (0 : Nat), SN.l (32 : Nat), SN.o ((2 : Nat) + Int.toNat k * 32) with | SN.l (0 : Nat), x, off => off | SN.l l, SN.l m, SN.l off => SN.l (if m = l then off else off + l * 1) | l, m, off => SN.o (if (match m with | SN.l n => n | SN.o n => n) = match l with | SN.l n => n | SN.o n => n then match off with | SN.l n => n | SN.o n => n else (match off with | SN.l n => n | SN.o n => n) + (match l with | SN.l n => n | SN.o n => n) * 1) with | SN.l n => n | SN.o n => n) [Value.int IntKind.u8 (0 : Int), Value.int IntKind.u8 (0 : Int), Value.int IntKind.u8 (0 : Int), Value.int IntKind.u8 (0 : Int), Value.int IntKind.u8 (0 : Int), Value.int IntKind.u8 (0 : Int), Value.int IntKind.u8 (0 : Int), Value.int IntKind.u8 (0 : Int), Value.int IntKind.u8 (0 : Int), Value.int IntKind.u8 (0 : Int), Value.int IntKind.u8 (0 : Int), Value.int IntKind.u8 (0 : Int), Value.int IntKind.u8 (0 : Int), Value.int IntKind.u8 (0 : Int), Value.int IntKind.u8 (0 : Int), Value.int IntKind.u8 (0 : Int), Value.int IntKind.u8 (0 : Int), Value.int IntKind.u8 (0 : Int), Value.int IntKind.u8 (0 : Int), Value.int IntKind.u8 (0 : Int), Value.int IntKind.u8 (0 : Int), Value.int IntKind.u8 (0 : Int), Value.int IntKind.u8 (0 : Int), Value.int IntKind.u8 (0 : Int), Value.int IntKind.u8 (0 : Int), Value.int IntKind.u8 (0 : Int), Value.int IntKind.u8 (0 : Int), Value.int IntKind.u8 (0 : Int), Value.int IntKind.u8 (0 : Int), Value.int IntKind.u8 (0 : Int), Value.int IntKind.u8 (0 : Int), Value.int IntKind.u8 (0 : Int)] = putAt ps (match match SN.l (0 : Nat), SN.l (32 : Nat), SN.o ((2 : Nat) + Int.toNat k * 32) with | SN.l (0 : Nat), x, off => off | SN.l l, SN.l m, SN.l off => SN.l (if m = l then off else off + l * 1) | l, m, off => SN.o (if (match m with | SN.l n => n | SN.o n => n) = match l with | SN.l n => n | SN.o n => n then match off with | SN.l n => n | SN.o n => n else (match off with | SN.l n => n | SN.o n => n) + (match l with | SN.l n => n | SN.o n => n) * 1) with | SN.l n => n | SN.o n => n) [Value.int IntKind.u8 (0 : Int), Value.int IntKind.u8 (0 : Int), Value.int IntKind.u8 (0 : Int), Value.int IntKind.u8 (0 : Int), Value.int IntKind.u8 (0 : Int), Value.int IntKind.u8 (0 : Int), Value.int IntKind.u8 (0 : Int), Value.int IntKind.u8 (0 : Int), Value.int IntKind.u8 (0 : Int), Value.int IntKind.u8 (0 : Int), Value.int IntKind.u8 (0 : Int), Value.int IntKind.u8 (0 : Int), Value.int IntKind.u8 (0 : Int), Value.int IntKind.u8 (0 : Int), Value.int IntKind.u8 (0 : Int), Value.int IntKind.u8 (0 : Int), Value.int IntKind.u8 (0 : Int), Value.int IntKind.u8 (0 : Int), Value.int IntKind.u8 (0 : Int), Value.int IntKind.u8 (0 : Int), Value.int IntKind.u8 (0 : Int), Value.int IntKind.u8 (0 : Int), Value.int IntKind.u8 (0 : Int), Value.int IntKind.u8 (0 : Int), Value.int IntKind.u8 (0 : Int), Value.int IntKind.u8 (0 : Int), Value.int IntKind.u8 (0 : Int), Value.int IntKind.u8 (0 : Int), Value.int IntKind.u8 (0 : Int), Value.int IntKind.u8 (0 : Int), Value.int IntKind.u8 (0 : Int), Value.int IntKind.u8 (0 : Int)] ∧ IntKind.i64 = IntKind.i64 ∧ VK.i IntKind.u8 = VK.i IntKind.u8 ∧ insI k w hs = insI k w hs ∧ IntKind.i64 = IntKind.i64 ∧ VK.i IntKind.u8 = VK.i IntKind.u8 ∧ bs = bs ∧ True))) ∧ ((decide (k < (0 : Int)) == false) = false → false = true)) ∧ ((decide (k ≥ IntKind.wrap IntKind.i64 pg) == false) = false → false = true)) ∧ ((decide (k < (0 : Int)) == false) = false → false = true)) ∧ ((hasI k hs == false) = false → false = true)) ∧ ((e == (0 : Int)) = false → QoA (ari BinOp.add IntKind.i64 i (1 : Int)) ps hs bs ∧ CallKind.normal = CallKind.normal ∧ TodoOk (ren 1 [(1, 1), (2, 2), (3, 3)]) oA_d0 oA_d0 ∧ pg = pg ∧ off = off ∧ n = n ∧ ari BinOp.add IntKind.i64 i (1 : Int) = ari BinOp.add IntKind.i64 i (1 : Int) ∧ ty = ty ∧ cs = cs ∧ (63 : TypeId) = (63 : TypeId) ∧ ps = ps ∧ IntKind.i64 = IntKind.i64 ∧ VK.i IntKind.u8 = VK.i IntKind.u8 ∧ hs = hs ∧ IntKind.i64 = IntKind.i64 ∧ VK.i IntKind.u8 = VK.i IntKind.u8 ∧ bs = bs ∧ True)) ∧ ((decide (k < ari BinOp.add IntKind.i64 a q) == true) = false → QoA (ari BinOp.add IntKind.i64 i (1 : Int)) ps hs bs ∧ CallKind.normal = CallKind.normal ∧ TodoOk (ren 1 [(1, 1), (2, 2), (3, 3)]) oA_d0 oA_d0 ∧ pg = pg ∧ off = off ∧ n = n ∧ ari BinOp.add IntKind.i64 i (1 : Int) = ari BinOp.add IntKind.i64 i (1 : Int) ∧ ty = ty ∧ cs = cs ∧ (63 : TypeId) = (63 : TypeId) ∧ ps = ps ∧ IntKind.i64 = IntKind.i64 ∧ VK.i IntKind.u8 = VK.i IntKind.u8 ∧ hs = hs ∧ IntKind.i64 = IntKind.i64 ∧ VK.i IntKind.u8 = VK.i IntKind.u8 ∧ bs = bs ∧ True)) := by kernel_rfl
theorem pD_vc (off : Nat) (n : Nat) (cs : Array Value) (ty : TypeId) (pg : Int) (i : Int) (w : Int) (q : Int) (a : Int) (e : Int) (k : Int) (j : Int) (ps : Array Value) (hs : List (Int × Int)) (bs : List (Int × Int)) (QoD : Int → Int → Int → Int → Int → Int → Int → Array Value → List (Int × Int) → List (Int × Int) → Prop) (QoC : Int → Int → Int → Int → Int → Int → Array Value → List (Int × Int) → List (Int × Int) → Prop) : (pD_t off n cs ty pg i w q a e k j ps hs bs).vc ((fun _ _ => False)) (pD_x off n cs ty pg i w q a e k j ps hs bs QoD QoC) =
    ((decide (j < (32 : Int)) = true → QoD i w q a e k (ari BinOp.add IntKind.i64 j (1 : Int)) ps hs (insI (ari BinOp.add IntKind.i64 (ari BinOp.mul IntKind.i64 k (32 : Int)) j) (0 : Int) bs) ∧ CallKind.normal = CallKind.normal ∧ TodoOk (ren 1 [(1, 1), (2, 2), (3, 3)]) oD_d0 oD_d0 ∧ pg = pg ∧ off = off ∧ n = n ∧ q = q ∧ w = w ∧ i = i ∧ e = e ∧ ari BinOp.add IntKind.i64 j (1 : Int) = ari BinOp.add IntKind.i64 j (1 : Int) ∧ a = a ∧ k = k ∧ ty = ty ∧ cs = cs ∧ (63 : TypeId) = (63 : TypeId) ∧ ps = ps ∧ IntKind.i64 = IntKind.i64 ∧ VK.i IntKind.u8 = VK.i IntKind.u8 ∧ hs = hs ∧ IntKind.i64 = IntKind.i64 ∧ VK.i IntKind.u8 = VK.i IntKind.u8 ∧ insI (ari BinOp.add IntKind.i64 (ari BinOp.mul IntKind.i64 k (32 : Int)) j) (0 : Int) bs = insI (ari BinOp.add IntKind.i64 (ari BinOp.mul IntKind.i64 k (32 : Int)) j) (0 : Int) bs ∧ True) ∧ (decide (j < (32 : Int)) = false → QoC i w q a e (ari BinOp.add IntKind.i64 k (1 : Int)) ps hs bs ∧ CallKind.normal = CallKind.normal ∧ TodoOk (ren 1 [(1, 1), (2, 2), (3, 3)]) oC_d0 oC_d0 ∧ pg = pg ∧ off = off ∧ n = n ∧ q = q ∧ w = w ∧ i = i ∧ e = e ∧ a = a ∧ ari BinOp.add IntKind.i64 k (1 : Int) = ari BinOp.add IntKind.i64 k (1 : Int) ∧ ty = ty ∧ cs = cs ∧ (63 : TypeId) = (63 : TypeId) ∧ ps = ps ∧ IntKind.i64 = IntKind.i64 ∧ VK.i IntKind.u8 = VK.i IntKind.u8 ∧ hs = hs ∧ IntKind.i64 = IntKind.i64 ∧ VK.i IntKind.u8 = VK.i IntKind.u8 ∧ bs = bs ∧ True)) := by kernel_rfl
theorem pE_vc (cs : Array Value) (ty : TypeId) (pg : Int) (q : Int) (ps : Array Value) (hs : List (Int × Int)) (bs : List (Int × Int)) (QoF : Int → Bool → Int → Array Value → List (Int × Int) → List (Int × Int) → Prop) (QoH : Array Value → List (Int × Int) → List (Int × Int) → Prop) : (pE_t cs ty pg q ps hs bs).vc ((isB true)) (pE_x cs ty pg q ps hs bs QoF QoH) =
    ((decide (q < IntKind.wrap IntKind.i64 pg) = true → (IsInt IntKind.u64 ps (1 : Nat) ∧ True) ∧ (uw (wd (intAt ps (1 : Nat))) = intAt ps (1 : Nat) ∧ True) ∧ (((decide ((0 : Int) ≤ q) && BitVec.getLsbD (wd (intAt ps (1 : Nat))) (Int.toNat q)) == hasI q hs) = true → false = true) ∧ (((decide ((0 : Int) ≤ q) && BitVec.getLsbD (wd (intAt ps (1 : Nat))) (Int.toNat q)) == hasI q hs) = false → QoF q (hasI q hs) (0 : Int) ps hs bs ∧ CallKind.normal = CallKind.normal ∧ TodoOk (ren 1 [(1, 1), (2, 2), (3, 3)]) oF_d0 oF_d0 ∧ pg = pg ∧ q = q ∧ hasI q hs = hasI q hs ∧ (0 : Int) = (0 : Int) ∧ (63 : TypeId) = (63 : TypeId) ∧ ps = ps ∧ IntKind.i64 = IntKind.i64 ∧ VK.i IntKind.u8 = VK.i IntKind.u8 ∧ hs = hs ∧ IntKind.i64 = IntKind.i64 ∧ VK.i IntKind.u8 = VK.i IntKind.u8 ∧ bs = bs ∧ True)) ∧ (decide (q < IntKind.wrap IntKind.i64 pg) = false → QoH ps hs bs ∧ CallKind.normal = CallKind.normal ∧ TodoOk (ren 1 [(1, 1), (2, 2), (3, 3)]) oH_d0 oH_d0 ∧ pg = pg ∧ (63 : TypeId) = (63 : TypeId) ∧ ps = ps ∧ IntKind.i64 = IntKind.i64 ∧ VK.i IntKind.u8 = VK.i IntKind.u8 ∧ hs = hs ∧ IntKind.i64 = IntKind.i64 ∧ VK.i IntKind.u8 = VK.i IntKind.u8 ∧ bs = bs ∧ True)) := by kernel_rfl
theorem pF_vc (cs : Array Value) (ty : TypeId) (pg : Int) (q : Int) (z : Bool) (j : Int) (ps : Array Value) (hs : List (Int × Int)) (bs : List (Int × Int)) (QoF : Int → Bool → Int → Array Value → List (Int × Int) → List (Int × Int) → Prop) (QoE : Int → Array Value → List (Int × Int) → List (Int × Int) → Prop) : (pF_t cs ty pg q z j ps hs bs).vc ((isB true)) (pF_x cs ty pg q z j ps hs bs QoF QoE) =
    (((decide (j < (32 : Int)) == true) = true → (z = true → (decide (ari BinOp.add IntKind.i64 (ari BinOp.mul IntKind.i64 q (32 : Int)) j < (0 : Int)) = true → false = true) ∧ (decide (ari BinOp.add IntKind.i64 (ari BinOp.mul IntKind.i64 q (32 : Int)) j < (0 : Int)) = false → ((decide (ari BinOp.quo IntKind.i64 (ari BinOp.add IntKind.i64 (ari BinOp.mul IntKind.i64 q (32 : Int)) j) (32 : Int) < (0 : Int)) == false) = true → (IsInt IntKind.i64 ps (0 : Nat) ∧ True) ∧ (decide (ari BinOp.quo IntKind.i64 (ari BinOp.add IntKind.i64 (ari BinOp.mul IntKind.i64 q (32 : Int)) j) (32 : Int) ≥ intAt ps (0 : Nat)) = true → false = true) ∧ (decide (ari BinOp.quo IntKind.i64 (ari BinOp.add IntKind.i64 (ari BinOp.mul IntKind.i64 q (32 : Int)) j) (32 : Int) ≥ intAt ps (0 : Nat)) = false → (IsInt IntKind.u64 ps (1 : Nat) ∧ True) ∧ (uw (wd (intAt ps (1 : Nat))) = intAt ps (1 : Nat) ∧ True) ∧ ((decide ((0 : Int) ≤ ari BinOp.quo IntKind.i64 (ari BinOp.add IntKind.i64 (ari BinOp.mul IntKind.i64 q (32 : Int)) j) (32 : Int)) && BitVec.getLsbD (wd (intAt ps (1 : Nat))) (Int.toNat (ari BinOp.quo IntKind.i64 (ari BinOp.add IntKind.i64 (ari BinOp.mul IntKind.i64 q (32 : Int)) j) (32 : Int)))) = true → false = true) ∧ ((decide ((0 : Int) ≤ ari BinOp.quo IntKind.i64 (ari BinOp.add IntKind.i64 (ari BinOp.mul IntKind.i64 q (32 : Int)) j) (32 : Int)) && BitVec.getLsbD (wd (intAt ps (1 : Nat))) (Int.toNat (ari BinOp.quo IntKind.i64 (ari BinOp.add IntKind.i64 (ari BinOp.mul IntKind.i64 q (32 : Int)) j) (32 : Int)))) = false → (((0 : Int) ≤ ari BinOp.quo IntKind.i64 (ari BinOp.add IntKind.i64 (ari BinOp.mul IntKind.i64 q (32 : Int)) j) (32 : Int) ∧ ari BinOp.quo IntKind.i64 (ari BinOp.add IntKind.i64 (ari BinOp.mul IntKind.i64 q (32 : Int)) j) (32 : Int) < (64 : Int)) ∧ True) ∧ (((0 : Int) ≤ ari BinOp.rem IntKind.i64 (ari BinOp.add IntKind.i64 (ari BinOp.mul IntKind.i64 q (32 : Int)) j) (32 : Int) ∧ ari BinOp.rem IntKind.i64 (ari BinOp.add IntKind.i64 (ari BinOp.mul IntKind.i64 q (32 : Int)) j) (32 : Int) < (32 : Int)) ∧ True) ∧ (IsInt IntKind.u8 ps ((2 : Nat) + Int.toNat (ari BinOp.quo IntKind.i64 (ari BinOp.add IntKind.i64 (ari BinOp.mul IntKind.i64 q (32 : Int)) j) (32 : Int)) * 32 + Int.toNat (ari BinOp.rem IntKind.i64 (ari BinOp.add IntKind.i64 (ari BinOp.mul IntKind.i64 q (32 : Int)) j) (32 : Int)) * 1) ∧ True) ∧ ((intAt ps ((2 : Nat) + Int.toNat (ari BinOp.quo IntKind.i64 (ari BinOp.add IntKind.i64 (ari BinOp.mul IntKind.i64 q (32 : Int)) j) (32 : Int)) * 32 + Int.toNat (ari BinOp.rem IntKind.i64 (ari BinOp.add IntKind.i64 (ari BinOp.mul IntKind.i64 q (32 : Int)) j) (32 : Int)) * 1) != getI (ari BinOp.add IntKind.i64 (ari BinOp.mul IntKind.i64 q (32 : Int)) j) bs) = true → false = true) ∧ ((intAt ps ((2 : Nat) + Int.toNat (ari BinOp.quo IntKind.i64 (ari BinOp.add IntKind.i64 (ari BinOp.mul IntKind.i64 q (32 : Int)) j) (32 : Int)) * 32 + Int.toNat (ari BinOp.rem IntKind.i64 (ari BinOp.add IntKind.i64 (ari BinOp.mul IntKind.i64 q (32 : Int)) j) (32 : Int)) * 1) != getI (ari BinOp.add IntKind.i64 (ari BinOp.mul IntKind.i64 q (32 : Int)) j) bs) = false → QoF q z (ari BinOp.add IntKind.i64 j (1 : Int)) ps hs bs ∧ CallKind.normal = CallKind.normal ∧ TodoOk (ren 1 [(1, 1), (2, 2), (3, 3)]) oF_d0 oF_d0 ∧ pg = pg ∧ q = q ∧ z = z ∧ ari BinOp.add IntKind.i64 j (1 : Int) = ari BinOp.add IntKind.i64 j (1 : Int) ∧ (63 : TypeId) = (63 : TypeId) ∧ ps = ps ∧ IntKind.i64 = IntKind.i64 ∧ VK.i IntKind.u8 = VK.i IntKind.u8 ∧ hs = hs ∧ IntKind.i64 = IntKind.i64 ∧ VK.i IntKind.u8 = VK.i IntKind.u8 ∧ bs = bs ∧ True)))) ∧ ((decide (ari BinOp.quo IntKind.i64 (ari BinOp.add IntKind.i64 (ari BinOp.mul IntKind.i64 q (32 : Int)) j) (32 : Int) < (0 : Int)) == false) = false → false = true))) ∧ (z = false → ((z == true) = true → ((decide (q < (0 : Int)) == false) = true → (IsInt IntKind.i64 ps (0 : Nat) ∧ True) ∧ (decide (q ≥ intAt ps (0 : Nat)) = true → false = true) ∧ (decide (q ≥ intAt ps (0 : Nat)) = false → (IsInt IntKind.u64 ps (1 : Nat) ∧ True) ∧ (uw (wd (intAt ps (1 : Nat))) = intAt ps (1 : Nat) ∧ True) ∧ ((decide ((0 : Int) ≤ q) && BitVec.getLsbD (wd (intAt ps (1 : Nat))) (Int.toNat q)) = true → false = true) ∧ ((decide ((0 : Int) ≤ q) && BitVec.getLsbD (wd (intAt ps (1 : Nat))) (Int.toNat q)) = false → (IsInt IntKind.u64 ps (1 : Nat) ∧ True) ∧ (uw (wd (intAt ps (1 : Nat))) = intAt ps (1 : Nat) ∧ True) ∧ ((1 : Nat) < Array.size ps ∧ True) ∧ QoE (ari BinOp.add IntKind.i64 q (1 : Int)) (Array.setIfInBounds ps (1 : Nat) (Value.int IntKind.u64 (uw (giveW (wd (intAt ps (1 : Nat))) q (1 : Int))))) hs bs ∧ CallKind.normal = CallKind.normal ∧ TodoOk (ren 1 [(1, 1), (2, 2), (3, 3)]) oE_d0 oE_d0 ∧ pg = pg ∧ ari BinOp.add IntKind.i64 q (1 : Int) = ari BinOp.add IntKind.i64 q (1 : Int) ∧ (63 : TypeId) = (63 : TypeId) ∧ Array.setIfInBounds ps (1 : Nat) (Value.int IntKind.u64 (uw (giveW (wd (intAt ps (1 : Nat))) q (1 : Int)))) = Array.setIfInBounds ps (1 : Nat) (Value.int IntKind.u64 (uw (giveW (wd (intAt ps (1 : Nat))) q (1 : Int)))) ∧ IntKind.i64 = IntKind.i64 ∧ VK.i IntKind.u8 = VK.i IntKind.u8 ∧ hs = hs ∧ IntKind.i64 = IntKind.i64 ∧ VK.i IntKind.u8 = VK.i IntKind.u8 ∧ bs = bs ∧ True))) ∧ ((decide (q < (0 : Int)) == false) = false → false = true)) ∧ ((z == true) = false → QoE (ari BinOp.add IntKind.i64 q (1 : Int)) ps hs bs ∧ CallKind.normal = CallKind.normal ∧ TodoOk (ren 1 [(1, 1), (2, 2), (3, 3)]) oE_d0 oE_d0 ∧ pg = pg ∧ ari BinOp.add IntKind.i64 q (1 : Int) = ari BinOp.add IntKind.i64 q (1 : Int) ∧ (63 : TypeId) = (63 : TypeId) ∧ ps = ps ∧ IntKind.i64 = IntKind.i64 ∧ VK.i IntKind.u8 = VK.i IntKind.u8 ∧ hs = hs ∧ IntKind.i64 = IntKind.i64 ∧ VK.i IntKind.u8 = VK.i IntKind.u8 ∧ bs = bs ∧ True))) ∧ ((decide (j < (32 : Int)) == true) = false → ((z == true) = true → ((decide (q < (0 : Int)) == false) = true → (IsInt IntKind.i64 ps (0 : Nat) ∧ True) ∧ (decide (q ≥ intAt ps (0 : Nat)) = true → false = true) ∧ (decide (q ≥ intAt ps (0 : Nat)) = false → (IsInt IntKind.u64 ps (1 : Nat) ∧ True) ∧ (uw (wd (intAt ps (1 : Nat))) = intAt ps (1 : Nat) ∧ True) ∧ ((decide ((0 : Int) ≤ q) && BitVec.getLsbD (wd (intAt ps (1 : Nat))) (Int.toNat q)) = true → false = true) ∧ ((decide ((0 : Int) ≤ q) && BitVec.getLsbD (wd (intAt ps (1 : Nat))) (Int.toNat q)) = false → (IsInt IntKind.u64 ps (1 : Nat) ∧ True) ∧ (uw (wd (intAt ps (1 : Nat))) = intAt ps (1 : Nat) ∧ True) ∧ ((1 : Nat) < Array.size ps ∧ True) ∧ QoE (ari BinOp.add IntKind.i64 q (1 : Int)) (Array.setIfInBounds ps (1 : Nat) (Value.int IntKind.u64 (uw (giveW (wd (intAt ps (1 : Nat))) q (1 : Int))))) hs bs ∧ CallKind.normal = CallKind.normal ∧ TodoOk (ren 1 [(1, 1), (2, 2), (3, 3)]) oE_d0 oE_d0 ∧ pg = pg ∧ ari BinOp.add IntKind.i64 q (1 : Int) = ari BinOp.add IntKind.i64 q (1 : Int) ∧ (63 : TypeId) = (63 : TypeId) ∧ Array.setIfInBounds ps (1 : Nat) (Value.int IntKind.u64 (uw (giveW (wd (intAt ps (1 : Nat))) q (1 : Int)))) = Array.setIfInBounds ps (1 : Nat) (Value.int IntKind.u64 (uw (giveW (wd (intAt ps (1 : Nat))) q (1 : Int)))) ∧ IntKind.i64 = IntKind.i64 ∧ VK.i IntKind.u8 = VK.i IntKind.u8 ∧ hs = hs ∧ IntKind.i64 = IntKind.i64 ∧ VK.i IntKind.u8 = VK.i IntKind.u8 ∧ bs = bs ∧ True))) ∧ ((decide (q < (0 : Int)) == false) = false → false = true)) ∧ ((z == true) = false → QoE (ari BinOp.add IntKind.i64 q (1 : Int)) ps hs bs ∧ CallKind.normal = CallKind.normal ∧ TodoOk (ren 1 [(1, 1), (2, 2), (3, 3)]) oE_d0 oE_d0 ∧ pg = pg ∧ ari BinOp.add IntKind.i64 q (1 : Int) = ari BinOp.add IntKind.i64 q (1 : Int) ∧ (63 : TypeId) = (63 : TypeId) ∧ ps = ps ∧ IntKind.i64 = IntKind.i64 ∧ VK.i IntKind.u8 = VK.i IntKind.u8 ∧ hs = hs ∧ IntKind.i64 = IntKind.i64 ∧ VK.i IntKind.u8 = VK.i IntKind.u8 ∧ bs = bs ∧ True))) := by kernel_rfl
theorem pH_vc (cs : Array Value) (ty : TypeId) (pg : Int) (ps : Array Value) (hs : List (Int × Int)) (bs : List (Int × Int)) : (pH_t cs ty pg ps hs bs).vc ((isB true)) (pH_x cs ty pg ps hs bs ) =
    ((IsInt IntKind.u64 ps (1 : Nat) ∧ True) ∧ (uw (wd (intAt ps (1 : Nat))) = intAt ps (1 : Nat) ∧ wd (intAt ps (1 : Nat)) ≠ BitVec.ofNat (64 : Nat) (0 : Nat) ∧ True) ∧ ((((↑(runsN (wd (intAt ps (1 : Nat)))) : Int) == (1 : Int)) == true) = true → (((0 : Int) ≤ (0 : Int) ∧ (0 : Int) < (↑(runsN (wd (intAt ps (1 : Nat)))) : Int)) ∧ True) ∧ (IsInt IntKind.i64 (runsC (wd (intAt ps (1 : Nat)))) (0 : Nat) ∧ True) ∧ (((intAt (runsC (wd (intAt ps (1 : Nat)))) (0 : Nat) == (0 : Int)) == true) = true → (((0 : Int) ≤ (0 : Int) ∧ (0 : Int) < (↑(runsN (wd (intAt ps (1 : Nat)))) : Int)) ∧ True) ∧ (IsInt IntKind.i64 (runsC (wd (intAt ps (1 : Nat)))) (1 : Nat) ∧ True) ∧ (((intAt (runsC (wd (intAt ps (1 : Nat)))) (1 : Nat) == IntKind.wrap IntKind.i64 pg) == true) = true → true = true) ∧ (((intAt (runsC (wd (intAt ps (1 : Nat)))) (1 : Nat) == IntKind.wrap IntKind.i64 pg) == true) = false → false = true)) ∧ (((intAt (runsC (wd (intAt ps (1 : Nat)))) (0 : Nat) == (0 : Int)) == true) = false → false = true)) ∧ ((((↑(runsN (wd (intAt ps (1 : Nat)))) : Int) == (1 : Int)) == true) = false → false = true)) := by kernel_rfl
end Go.Proofs.YtfgkainnkbbanaaDoor
