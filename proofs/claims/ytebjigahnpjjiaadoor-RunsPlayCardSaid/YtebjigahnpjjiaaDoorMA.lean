/- What a table of bytes that the program lays holds, for the symbolic machine; a call that is told of no block. No condition. -/
import Derived.Test.YtebjigahnpjjiaaDoorRows
import Derived.Test.YtebjigahnpjjiaaDoorE1
import Derived.ProofKit
import Derived.LaidMore
import Derived.OpenShut
import Derived.ChangeSame
import Derived.Deep.Slices
import Derived.Deep.Fields
import Derived.Stop.Joined
import Derived.Test.YtebjigahnpjjiaaDoorK15
import Derived.IntWalk
import Derived.Test.YtebjigahnpjjiaaDoorK1
import Derived.Lib.TrailingZeros
import Derived.Test.YtebjigahnpjjiaaDoorK2
import Derived.Test.YtebjigahnpjjiaaDoorK14b
namespace Go.Proofs.YtebjigahnpjjiaaDoor
open Go.ChangeShapes Go.WideShapes Go.ChangeAt Go.WideMaps Go.WideElems Go.RowKit

theorem own : ownKnob Tryd.prog.godebug = none := by kernel_rfl
theorem laidOut : laidOutB Tryd.prog = true := by kernel_rfl
theorem gTab : Tryd.prog.globalNamed "math/bits.deBruijn64tab" = some 0 := by kernel_rfl
theorem tTab : (Tryd.prog.globals[0]?).map (·.type) = some 64 := by kernel_rfl
def tabV : List Value := (glTab.headD (0, [])).2
def tabD {H : Type} : List (DataW H) := tabV.map fun | .int k n => .lit (.int k n) | _ => .nil
theorem tabD_eq {H : Type} : (Rows.laid_math_bits_deBruijn64tab : DataW H) = .agg tabD := rfl
theorem tab_byte : ∀ i : Nat, i < 64 → ∃ n, tabV[i]? = some (.int .u8 n) := by
  intro i hi
  have : ∀ i : Fin 64, (match tabV[i.val]? with | some (.int .u8 _) => true | _ => false) = true := by decide +kernel
  have := this ⟨i, hi⟩
  revert this
  generalize tabV[i]? = v
  intro h
  split at h
  · rename_i n; exact ⟨n, rfl⟩
  · cases h
def laidL : List (String × DataW Unit) := [("math/bits.deBruijn64tab", Rows.laid_math_bits_deBruijn64tab)]
/-- The table lies there. -/
theorem tab_lies {W : World} (h : laidMetH Tryd.prog laidL W) : ∃ cs ty fz, W.heap[0]? = some (.cells cs ty fz) ∧ ∀ i : Nat, i < tabV.length → cs[i]? = tabV[i]? := by
  rw [MakeChecks.laidMetH_plain _ _ _ (by kernel_rfl)] at h
  obtain ⟨ps, ⟨g0, t0, cs0, f0, p0, q0, hg0, ht0, hv0, hd0, _, _⟩, _, _⟩ := h
  obtain rfl := Option.some.inj (gTab.symm.trans hg0)
  obtain rfl := Option.some.inj (tTab.symm.trans ht0)
  have hv0' := hv0
  unfold World.var? at hv0
  rw [gTab] at hv0
  simp only [Option.bind_some] at hv0
  split at hv0
  · rename_i cs ty fz hb
    cases hv0
    refine ⟨cs0, ty, fz, hb, ?_⟩
    obtain ⟨xs, m1, rfl, hx1, hlen, hn3, hel⟩ := DataW.trod_array Tryd.underlying64 hd0
    have c5 : Tryd.prog.cellsOf 5 = 1 := by kernel_rfl
    have cT : Tryd.prog.cellsOf 64 = 64 := by kernel_rfl
    rw [cT] at hlen
    have hlen : cs0.size = 64 := by simpa using hlen
    simp only [Prod.mk.injEq, tabD_eq, DataW.agg.injEq] at hx1
    intro i hi
    have hi : i < 64 := hi
    obtain ⟨n, hn⟩ := tab_byte i hi
    have h0 := hel i hi
    have hxi : xs[i]? = some (xs[i]'(by omega)) := List.getElem?_eq_getElem (by omega)
    rw [c5, Nat.mul_one, hxi] at h0
    have hci : cs0.toList[i]? = some (cs0[i]'(by omega)) := by rw [Array.getElem?_toList, Array.getElem?_eq_getElem (by omega)]
    have hdrop : (cs0.toList.drop i).take 1 = [cs0[i]'(by omega)] := by
      rw [List.drop_eq_getElem_cons (by rw [Array.length_toList]; omega)]
      simp
    rw [hdrop] at h0
    obtain ⟨k, e1, e2, _⟩ := DataW.trod_int Tryd.underlying5 h0
    have e3 : (xs.map (·.1))[i]? = (tabD : List (DataW Unit))[i]? := by rw [hx1.1]
    rw [List.getElem?_map, hxi] at e3
    unfold tabD at e3
    rw [List.getElem?_map, hn] at e3
    rw [e2] at e3
    simp only [Option.map_some, Option.some.injEq, DataW.lit.injEq, Lit.int.injEq] at e3
    simp only [List.cons.injEq, and_true] at e1
    rw [← Array.getElem?_toList, hci, e1, hn, e3.2]
  · cases hv0
theorem tab_small {W : World} (h : laidMetH Tryd.prog laidL W) : 0 < W.heap.size := by
  obtain ⟨cs, ty, fz, hb, _⟩ := tab_lies h
  exact (Array.getElem?_eq_some_iff.1 hb).1
/-- The start of a call: no block is known. -/
theorem rel_start {W : World} (h : laidMetH Tryd.prog laidL W) (n : Nat) : Rel W.heap.size (fun _ => False) W (fun _ => none) ⟨n, .nil, []⟩ W :=
  ⟨fun _ _ _ _ _ _ h => by (cases h), fun _ _ h => by (cases h), fun _ _ h => by (cases h), fun i b h => by (have h : (Tr.nil : Tr SBlk).get i = some b := h; rw [Tr.get_nil] at h; cases h), Nat.le_refl _, BelowF.refl _ _ _, fun _ _ h => by (cases h), fun _ _ _ _ _ _ h => by (cases h), fun g cs hg => by
    have e : (g, cs) = (0, tabV) := by
      have : glTab = [(0, tabV)] := rfl
      rw [this] at hg
      simpa using hg
    cases e
    obtain ⟨cs', ty, fz, h1, h2⟩ := tab_lies h
    exact ⟨tab_small h, fun x => x, cs', ty, fz, h1, h2⟩⟩
theorem below_of {n0 : Nat} {w0 w : World} (h : BelowF n0 (fun _ => False) w0 w) : Below n0 w0 w := ⟨h.os, h.tape, h.output, h.size, fun k hk => h.block k hk fun x => x⟩
section
variable {H : Type} {enc : TypeId × Value → H} {P : Program}
theorem post_of_below {f : Func} {s : ChangeSpec} {apart fresh handsOn again : Bool} {W W' : World} {args : Array Value} {v : Value} {ds gs : List (DataW H)} {before pa pv : List MemPlace}
    (hW : DataW.Whole enc P f.params.toList s.vars apart W args.toList ds gs before)
    (hres : ∀ (b : Nat) (sp : Nat → Bool) (hd : Bool), DataW.TrodAll enc P W' b sp hd f.resultTypes.toList (v.resultList f.resultTypes.size) (s.fn H (ds ++ gs)).results [])
    (hargs : ∀ sp : Nat → Bool, (∀ p ∈ before, sp p.block = true) → DataW.TrodAll enc P W' 0 sp true f.params.toList args.toList (s.fn H (ds ++ gs)).args pa)
    (hvars : ∀ sp : Nat → Bool, (∀ p ∈ before, sp p.block = true) → DataW.TrodVars enc P W' sp s.vars (s.fn H (ds ++ gs)).vars pv)
    (hps : before = pa ++ pv) (hb : Below W.heap.size W W')
    (hok : ∀ (j : Nat) (t : TypeId) (r : Value), f.resultTypes[j]? = some t → (v.resultList f.resultTypes.size)[j]? = some r → Value.okWide P W' .any 0 t r) :
    s.post enc P f apart fresh handsOn again W args v W' := by
  have hlt : ∀ p ∈ before, p.block < W.heap.size := fun p hp => hW.lt p hp
  have hold : ∀ p ∈ before, (fun b => decide (b < W.heap.size)) p.block = true := fun p hp => by simpa using hlt p hp
  refine ⟨ds, gs, before, [], pa, pv, hW, hres _ _ _, hargs _ hold, hvars _ hold, World.keptBut_mono (fun p hp => ⟨hp, ?_⟩) (hb.frame (· ∈ before)), fun _ => ?_⟩
  · rw [hps, List.mem_append] at hp
    exact Or.inr hp
  · obtain ⟨_, _, _, _, _, hz, hn⟩ := hW
    refine ⟨hok, _, _, ([] ++ pa) ++ pv, ⟨[] ++ pa, pv, trodAll_append (hargs _ (fun _ _ => rfl)) (hres _ _ _), hvars _ (fun _ _ => rfl), rfl, ?_, ?_⟩, ?_⟩
    · intro b off hp
      have hin : MemPlace.cell b off ∈ before := by rw [hps]; simpa using hp
      rw [hb.frozen (hlt _ hin)]
      exact hz b off hin
    · intro ha
      have := hn ha
      rw [hps] at this
      simpa using this
    · intro p hp _
      rw [hps]
      simpa using hp
end
end Go.Proofs.YtebjigahnpjjiaaDoor
/- Blocks that came in, told to the symbolic machine one by one; slices that came in. No condition. -/
namespace Go.Proofs.YtebjigahnpjjiaaDoor
noncomputable section
open Go.ChangeShapes Go.WideShapes Go.ChangeAt Go.RowKit Go.Deep
theorem sub_get {l : List Value} {a b o : Nat} {v : Value} (h : ((l.drop a).take b)[o]? = some v) : l[a + o]? = some v := by
  rw [List.getElem?_take] at h
  split at h
  · rw [List.getElem?_drop] at h; exact h
  · cases h
theorem sub_one {l : List Value} {a b : Nat} {v : Value} (h : (l.drop a).take b = [v]) : l[a]? = some v := by
  have : ((l.drop a).take b)[0]? = some v := by rw [h]; rfl
  exact sub_get this
section
variable {H : Type} {enc : TypeId × Value → H} {P : Program} {w : World} {base : Nat} {spare : Nat → Bool} {held : Bool}
theorem field_of {t : TypeId} {fs : Array Field} {fuel : Nat} {cs : List Value} {x : DataW H × List MemPlace} (ht : P.underlying t = some (.struct fs)) (h : DataW.trod enc P w base spare held fuel t cs = some x)
    (i : Nat) {f : Field} (hf : fs[i]? = some f) : ∃ n y, DataW.trod enc P w base spare held n f.type ((cs.drop f.offset).take (P.cellsOf f.type)) = some y := by
  obtain ⟨ys, n, _, _, _, hyl, hg⟩ := DataW.trod_struct ht h
  have hlt : i < fs.size := (Array.getElem?_eq_some_iff.1 hf).1
  have hys : ys[i]? = some (ys[i]'(by omega)) := List.getElem?_eq_getElem (by omega)
  exact ⟨n, _, (hg i f hf).trans hys⟩
theorem add_none (b off n : Nat) : (⟨b, off, none⟩ : Addr).add n = ⟨b, off + n, none⟩ := by
  unfold Addr.add
  split
  · rename_i e; subst e; rfl
  · rfl
/-- A slice that came in: where it lies, and each element as it reads. -/
theorem slice_cells {t e : TypeId} {base' C : Nat} {fuel : Nat} {A : Option Addr} {len cap : Nat} {x : DataW H × List MemPlace} (ht : P.underlying t = some (.slice e)) (hC : P.cellsOf e = C)
    (hok : Value.okWide P w .any base t (.slice A len cap)) (h : DataW.trod enc P w base' (fun _ => true) held fuel t [.slice A len cap] = some x) :
    (A = none ∧ len = 0 ∧ cap = 0) ∨ ∃ b off cs ty fz, A = some ⟨b, off, none⟩ ∧ len ≤ cap ∧ cap ≤ maxLen ∧ w.heap[b]? = some (.cells cs ty fz) ∧
      ∀ j, j < len → ∃ n y, DataW.trod enc P w base' (fun _ => true) held n e ((cs.toList.drop (off + j * C)).take C) = some y := by
  rcases open_slice ht h with ⟨hcs, hx⟩ | ⟨a, len', cap', m, n, D, Pl, hcs, _, hl, hmx, hm, hx, hi⟩
  · simp at hcs
    exact .inl hcs
  · simp at hcs
    obtain ⟨rfl, rfl, rfl⟩ := hcs
    simp at hm
    subst hm
    obtain ⟨b, off, spot⟩ := a
    simp only [Value.okWide, ht, Cell.okWide, Cell.ok] at hok
    obtain ⟨_, _, _, hs, _, _, hsh, _⟩ := hok
    have hs : spot = none := hs
    subst hs
    cases ho : w.heap[b]? with
    | none => simp [World.shape?, ho] at hsh
    | some o =>
      have hcells : ∃ cs ty fz, o = .cells cs ty fz := by
        cases o <;> first | exact ⟨_, _, _, rfl⟩ | simp [World.shape?, ho] at hsh
      obtain ⟨cs, ty, fz, rfl⟩ := hcells
      refine .inr ⟨b, off, cs, ty, fz, rfl, hl, hmx, ho, fun j hj => ?_⟩
      obtain ⟨cs', hc, ht'⟩ := hi j (by omega)
      rw [hC] at hc
      obtain ⟨_, hcl, hat⟩ := World.cells?_some hc
      refine ⟨n, (D j, Pl j), ?_⟩
      rw [← ht']
      congr 1
      apply List.ext_getElem?
      intro i
      rw [List.getElem?_take]
      by_cases hi' : i < C
      · rw [if_pos hi', ← hat i hi', add_none, add_none]
        simp [World.cell?, ho, Nat.add_assoc]
      · rw [if_neg hi', List.getElem?_eq_none (by omega)]
end

/-- Nothing of what is known may be written. -/
def OnlyRead (m : SMem) : Prop := m.xs = [] ∧ ∀ i b, getB m.bl i = some b → b.wr = false
theorem rel_add {W : World} {R : Ren} {m : SMem} (hR : Rel W.heap.size (fun _ => False) W R m W) (ho : OnlyRead m) {i b : Nat} {cs : Array Value} {ty : TypeId} {fz : Nat × Nat} (hi : i < m.next) (hn : R i = none) (hb : W.heap[b]? = some (.cells cs ty fz)) :
    Rel W.heap.size (fun _ => False) W (fun j => if j = i then some ⟨b, cs.size⟩ else R j) ⟨m.next, m.bl.set i (some ⟨.raw cs, ty, false⟩), m.xs⟩ W ∧ OnlyRead ⟨m.next, m.bl.set i (some ⟨.raw cs, ty, false⟩), m.xs⟩ := by
  have ho' : OnlyRead ⟨m.next, m.bl.set i (some ⟨.raw cs, ty, false⟩), m.xs⟩ := by
    refine ⟨ho.1, fun j c hc => ?_⟩
    have hc : (m.bl.set i (some ⟨.raw cs, ty, false⟩)).get j = some c := hc
    rw [Tr.get_set] at hc
    split at hc
    · cases hc; rfl
    · exact ho.2 j c hc
  have hlt : b < W.heap.size := (Array.getElem?_eq_some_iff.1 hb).1
  refine ⟨⟨fun j k g h x y h1 h2 h3 h4 h5 h6 => ?_, fun j g h => ?_, fun j g h => ?_, fun j c hc => ?_, Nat.le_refl _, BelowF.refl _ _ _, fun j x hx => ?_, fun j k g h x y _ _ _ h4 => ?_, fun g cs hg => ?_⟩, ho'⟩
  · have e1 := ho'.2 _ _ h4
    have e2 := ho'.2 _ _ h5
    rw [e1, e2] at h6
    rcases h6 with h6 | h6 <;> cases h6
  · split at h
    · cases h; exact hlt
    · exact hR.lt j g h
  · split at h
    · rename_i e; rw [e]; exact hi
    · exact hR.nx j g h
  · have hc : (m.bl.set i (some ⟨.raw cs, ty, false⟩)).get j = some c := hc
    rw [Tr.get_set] at hc
    split at hc
    · rename_i e
      cases hc
      exact ⟨⟨b, cs.size⟩, cs, fz, by simp [e], hb, rfl, rfl, fun h => by cases h⟩
    · rename_i e
      obtain ⟨g, cs', fz', k1, k2, k3, k4, k5⟩ := hR.blk j c hc
      refine ⟨g, cs', fz', by simp [e, k1], k2, k3, SA.monoM (fun l g hl => ?_) k4, k5⟩
      by_cases el : l = i
      · rw [el, hn] at hl; cases hl
      · rw [if_neg el]; exact hl
  · have hx : getX m.xs j = some x := hx
    rw [ho.1] at hx; cases hx
  · have h4 : getX m.xs j = some x := h4
    rw [ho.1] at h4; cases h4
  · exact hR.gl g cs hg
theorem onlyRead_nil (n : Nat) : OnlyRead ⟨n, .nil, []⟩ := ⟨rfl, fun i b h => by
  have h : (Tr.nil : Tr SBlk).get i = some b := h
  rw [Tr.get_nil] at h; cases h⟩
theorem isInt_of {k : IntKind} {cs : Array Value} {i : Nat} {n : Int} (h : cs.toList[i]? = some (.int k n)) : IsInt k cs i := by
  rw [Array.getElem?_toList] at h
  unfold IsInt intAt
  rw [h]
end
end Go.Proofs.YtebjigahnpjjiaaDoor
/- Of runs: the closed test. No condition. -/
namespace Go.Proofs.YtebjigahnpjjiaaDoor
theorem wakes_true : (run E0 100000 0 [callFr 5 Tryd.f5.ntmps [] (Tryd.f5.body.getD .skip)] ⟨0, .nil, []⟩).allTrue = true := by kernel_rfl
theorem wakes_fn : E0.fn 5 = some Tryd.f5 := by kernel_rfl
theorem wakes_body : Tryd.f5.body = some (Tryd.f5.body.getD .skip) := by kernel_rfl
theorem wakes_con (m : SMem) : Con E0 5 [] m (needs [] (.ret (sB (.l true)) m)) :=
  Con.pure E0_ok wakes_fn wakes_body (by kernel_rfl) (by kernel_rfl) fun _ => good_true E0_ok wakes_true
end Go.Proofs.YtebjigahnpjjiaaDoor
/- Of runs: contracts of the functions of numbers. No condition. -/
namespace Go.Proofs.YtebjigahnpjjiaaDoor
section
variable (p n : Int)
def mayB : Bool := decide (1 ≤ n ∧ 0 ≤ p ∧ p < 64 ∧ n ≤ 64 - p)
theorem may_run (b : Bool) : (run E0 1000 0 [callFr 19 Tryd.f19.ntmps [i64 (.o p), i64 (.o n)] (Tryd.f19.body.getD .skip)] ⟨0, .nil, []⟩).vc (retOk 0 [] (sB (.o b)) ⟨0, .nil, []⟩) (fun _ _ => False) =
    (((decide (n ≥ 1) == true) = true →
        ((decide (p ≥ 0) == true) = true →
            ((decide (p < 64) == true) = true → b = decide (n ≤ IntKind.i64.wrap (64 - p)) ∧ True) ∧
              ((decide (p < 64) == true) = false → b = false ∧ True)) ∧
          ((decide (p ≥ 0) == true) = false → b = false ∧ True)) ∧
      ((decide (n ≥ 1) == true) = false → b = false ∧ True)) := by kernel_rfl
theorem may_fn : E0.fn 19 = some Tryd.f19 := by kernel_rfl
theorem may_body : Tryd.f19.body = some (Tryd.f19.body.getD .skip) := by kernel_rfl
theorem may_con (m : SMem) : Con E0 19 [i64 (.o p), i64 (.o n)] m (needs [] (.ret (sB (.o (mayB p n))) m)) := by
  refine Con.pure E0_ok may_fn may_body (by kernel_rfl) (by kernel_rfl) fun _ => ?_
  have hw : 0 ≤ p → p < 64 → IntKind.i64.wrap (64 - p) = 64 - p := fun h1 h2 => by
    exact Go.IntWalk.i64_in _ (by omega)
  refine (Good.ret [] (run_vc E0_ok 1000 (may_run p n (mayB p n)) ?_ (fun s m h => h) fun _ _ h => h.elim)).mono fun _ _ h => h.1
  unfold mayB
  by_cases h1 : n ≥ 1 <;> by_cases h2 : p ≥ 0 <;> by_cases h3 : p < 64 <;> simp [h1, h2, h3] <;> first | (rw [hw h2 h3]; omega) | omega | skip
def spanI : Int := IntKind.u64.wrap (Int.fdiv 18446744073709551615 (2 ^ min (IntKind.i64.wrap (64 - n)).toNat 64) * 2 ^ min p.toNat 64)
theorem span_run (x : Int) : (run E0 1000 0 [callFr 22 Tryd.f22.ntmps [i64 (.o p), i64 (.o n)] (Tryd.f22.body.getD .skip)] ⟨0, .nil, []⟩).vc (retOk 0 [] (.s (.c (.f (.int .u64 (.o x))))) ⟨0, .nil, []⟩) (fun _ _ => False) =
    ((0 ≤ IntKind.i64.wrap (64 - n) ∧ True) ∧ (0 ≤ p ∧ True) ∧ x = spanI p n ∧ True) := by kernel_rfl
theorem span_fn : E0.fn 22 = some Tryd.f22 := by kernel_rfl
theorem span_body : Tryd.f22.body = some (Tryd.f22.body.getD .skip) := by kernel_rfl
theorem span_con (m : SMem) : Con E0 22 [i64 (.o p), i64 (.o n)] m (needs [0 ≤ IntKind.i64.wrap (64 - n), 0 ≤ p] (.ret (.s (.c (.f (.int .u64 (.o (spanI p n)))))) m)) := by
  refine Con.pure E0_ok span_fn span_body (by kernel_rfl) (by kernel_rfl) fun hq => ?_
  refine (Good.ret [] (run_vc E0_ok 1000 (span_run p n (spanI p n)) ?_ (fun s m h => h) fun _ _ h => h.elim)).mono fun _ _ h => h.1
  exact ⟨⟨hq _ (by simp), trivial⟩, ⟨hq _ (by simp), trivial⟩, rfl, trivial⟩
end
end Go.Proofs.YtebjigahnpjjiaaDoor
/- Of runs: the functions of math/bits, as propositions. No condition. -/
namespace Go.Proofs.YtebjigahnpjjiaaDoor
set_option maxRecDepth 100000
theorem tz_run (p x : Int) : (run E0 1000 0 [callFr 29 Tryd.f29.ntmps [.s (.c (.f (.int .u64 (.o p))))] (Tryd.f29.body.getD .skip)] ⟨0, .nil, []⟩).vc (retOk 0 [] (i64 (.o x)) ⟨0, .nil, []⟩) (fun _ _ => False) =
    (((p == (0 : Int)) = true → x = (64 : Int) ∧ True) ∧ ((p == (0 : Int)) = false → (((0 : Int) ≤ ari BinOp.shr IntKind.u64 (ari BinOp.mul IntKind.u64 (ari BinOp.and IntKind.u64 p (ari BinOp.sub IntKind.u64 (0 : Int) p)) (285870213051353865 : Int)) (58 : Int) ∧ ari BinOp.shr IntKind.u64 (ari BinOp.mul IntKind.u64 (ari BinOp.and IntKind.u64 p (ari BinOp.sub IntKind.u64 (0 : Int) p)) (285870213051353865 : Int)) (58 : Int) < (64 : Int)) ∧ True) ∧ (IsInt IntKind.u8 #[Value.int IntKind.u8 (0 : Int), Value.int IntKind.u8 (1 : Int), Value.int IntKind.u8 (56 : Int), Value.int IntKind.u8 (2 : Int), Value.int IntKind.u8 (57 : Int), Value.int IntKind.u8 (49 : Int), Value.int IntKind.u8 (28 : Int), Value.int IntKind.u8 (3 : Int), Value.int IntKind.u8 (61 : Int), Value.int IntKind.u8 (58 : Int), Value.int IntKind.u8 (42 : Int), Value.int IntKind.u8 (50 : Int), Value.int IntKind.u8 (38 : Int), Value.int IntKind.u8 (29 : Int), Value.int IntKind.u8 (17 : Int), Value.int IntKind.u8 (4 : Int), Value.int IntKind.u8 (62 : Int), Value.int IntKind.u8 (47 : Int), Value.int IntKind.u8 (59 : Int), Value.int IntKind.u8 (36 : Int), Value.int IntKind.u8 (45 : Int), Value.int IntKind.u8 (43 : Int), Value.int IntKind.u8 (51 : Int), Value.int IntKind.u8 (22 : Int), Value.int IntKind.u8 (53 : Int), Value.int IntKind.u8 (39 : Int), Value.int IntKind.u8 (33 : Int), Value.int IntKind.u8 (30 : Int), Value.int IntKind.u8 (24 : Int), Value.int IntKind.u8 (18 : Int), Value.int IntKind.u8 (12 : Int), Value.int IntKind.u8 (5 : Int), Value.int IntKind.u8 (63 : Int), Value.int IntKind.u8 (55 : Int), Value.int IntKind.u8 (48 : Int), Value.int IntKind.u8 (27 : Int), Value.int IntKind.u8 (60 : Int), Value.int IntKind.u8 (41 : Int), Value.int IntKind.u8 (37 : Int), Value.int IntKind.u8 (16 : Int), Value.int IntKind.u8 (46 : Int), Value.int IntKind.u8 (35 : Int), Value.int IntKind.u8 (44 : Int), Value.int IntKind.u8 (21 : Int), Value.int IntKind.u8 (52 : Int), Value.int IntKind.u8 (32 : Int), Value.int IntKind.u8 (23 : Int), Value.int IntKind.u8 (11 : Int), Value.int IntKind.u8 (54 : Int), Value.int IntKind.u8 (26 : Int), Value.int IntKind.u8 (40 : Int), Value.int IntKind.u8 (15 : Int), Value.int IntKind.u8 (34 : Int), Value.int IntKind.u8 (20 : Int), Value.int IntKind.u8 (31 : Int), Value.int IntKind.u8 (10 : Int), Value.int IntKind.u8 (25 : Int), Value.int IntKind.u8 (14 : Int), Value.int IntKind.u8 (19 : Int), Value.int IntKind.u8 (9 : Int), Value.int IntKind.u8 (13 : Int), Value.int IntKind.u8 (8 : Int), Value.int IntKind.u8 (7 : Int), Value.int IntKind.u8 (6 : Int)] ((0 : Nat) + Int.toNat (ari BinOp.shr IntKind.u64 (ari BinOp.mul IntKind.u64 (ari BinOp.and IntKind.u64 p (ari BinOp.sub IntKind.u64 (0 : Int) p)) (285870213051353865 : Int)) (58 : Int)) * 1) ∧ True) ∧ x = IntKind.wrap IntKind.i64 (intAt #[Value.int IntKind.u8 (0 : Int), Value.int IntKind.u8 (1 : Int), Value.int IntKind.u8 (56 : Int), Value.int IntKind.u8 (2 : Int), Value.int IntKind.u8 (57 : Int), Value.int IntKind.u8 (49 : Int), Value.int IntKind.u8 (28 : Int), Value.int IntKind.u8 (3 : Int), Value.int IntKind.u8 (61 : Int), Value.int IntKind.u8 (58 : Int), Value.int IntKind.u8 (42 : Int), Value.int IntKind.u8 (50 : Int), Value.int IntKind.u8 (38 : Int), Value.int IntKind.u8 (29 : Int), Value.int IntKind.u8 (17 : Int), Value.int IntKind.u8 (4 : Int), Value.int IntKind.u8 (62 : Int), Value.int IntKind.u8 (47 : Int), Value.int IntKind.u8 (59 : Int), Value.int IntKind.u8 (36 : Int), Value.int IntKind.u8 (45 : Int), Value.int IntKind.u8 (43 : Int), Value.int IntKind.u8 (51 : Int), Value.int IntKind.u8 (22 : Int), Value.int IntKind.u8 (53 : Int), Value.int IntKind.u8 (39 : Int), Value.int IntKind.u8 (33 : Int), Value.int IntKind.u8 (30 : Int), Value.int IntKind.u8 (24 : Int), Value.int IntKind.u8 (18 : Int), Value.int IntKind.u8 (12 : Int), Value.int IntKind.u8 (5 : Int), Value.int IntKind.u8 (63 : Int), Value.int IntKind.u8 (55 : Int), Value.int IntKind.u8 (48 : Int), Value.int IntKind.u8 (27 : Int), Value.int IntKind.u8 (60 : Int), Value.int IntKind.u8 (41 : Int), Value.int IntKind.u8 (37 : Int), Value.int IntKind.u8 (16 : Int), Value.int IntKind.u8 (46 : Int), Value.int IntKind.u8 (35 : Int), Value.int IntKind.u8 (44 : Int), Value.int IntKind.u8 (21 : Int), Value.int IntKind.u8 (52 : Int), Value.int IntKind.u8 (32 : Int), Value.int IntKind.u8 (23 : Int), Value.int IntKind.u8 (11 : Int), Value.int IntKind.u8 (54 : Int), Value.int IntKind.u8 (26 : Int), Value.int IntKind.u8 (40 : Int), Value.int IntKind.u8 (15 : Int), Value.int IntKind.u8 (34 : Int), Value.int IntKind.u8 (20 : Int), Value.int IntKind.u8 (31 : Int), Value.int IntKind.u8 (10 : Int), Value.int IntKind.u8 (25 : Int), Value.int IntKind.u8 (14 : Int), Value.int IntKind.u8 (19 : Int), Value.int IntKind.u8 (9 : Int), Value.int IntKind.u8 (13 : Int), Value.int IntKind.u8 (8 : Int), Value.int IntKind.u8 (7 : Int), Value.int IntKind.u8 (6 : Int)] ((0 : Nat) + Int.toNat (ari BinOp.shr IntKind.u64 (ari BinOp.mul IntKind.u64 (ari BinOp.and IntKind.u64 p (ari BinOp.sub IntKind.u64 (0 : Int) p)) (285870213051353865 : Int)) (58 : Int)) * 1)) ∧ True)) := by kernel_rfl
end Go.Proofs.YtebjigahnpjjiaaDoor
/- Numbers of 64 bits: what the operations of whole numbers make of them. No condition. -/
namespace Go.Proofs.YtebjigahnpjjiaaDoor
/-- A word, as a whole number. -/
def uw (X : BitVec 64) : Int := (X.toNat : Int)
theorem wrap_u64 (n : Int) : IntKind.u64.wrap n = n % 18446744073709551616 := rfl
theorem uw_range (X : BitVec 64) : 0 ≤ uw X ∧ uw X < 18446744073709551616 := by
  have := X.isLt
  unfold uw
  omega
theorem ofInt_uw (X : BitVec 64) : BitVec.ofInt 64 (uw X) = X := by
  unfold uw
  rw [BitVec.ofInt_natCast, BitVec.ofNat_toNat, BitVec.setWidth_eq]
theorem wrap_uw (X : BitVec 64) : IntKind.u64.wrap (uw X) = uw X := by
  rw [wrap_u64]
  have := uw_range X
  omega
theorem wrap_toNat (X : BitVec 64) : IntKind.u64.wrap (X.toNat : Int) = uw X := wrap_uw X
theorem wrap_ofInt (n : Int) : IntKind.u64.wrap n = uw (BitVec.ofInt 64 n) := by
  unfold uw
  rw [wrap_u64, BitVec.toNat_ofInt]
  have : 0 ≤ n % (2 ^ 64 : Nat) := Int.emod_nonneg _ (by decide)
  rw [Int.toNat_of_nonneg this]
  rfl
theorem uw_inj {X Y : BitVec 64} : uw X = uw Y ↔ X = Y := by
  unfold uw
  constructor
  · intro h
    exact BitVec.eq_of_toNat_eq (by omega)
  · intro h; rw [h]
theorem uw_and (X Y : BitVec 64) : IntKind.u64.wrap ((BitVec.ofInt 64 (uw X) &&& BitVec.ofInt 64 (uw Y)).toNat : Int) = uw (X &&& Y) := by rw [ofInt_uw, ofInt_uw, wrap_toNat]
theorem uw_or (X Y : BitVec 64) : IntKind.u64.wrap ((BitVec.ofInt 64 (uw X) ||| BitVec.ofInt 64 (uw Y)).toNat : Int) = uw (X ||| Y) := by rw [ofInt_uw, ofInt_uw, wrap_toNat]
theorem uw_andNot (X Y : BitVec 64) : IntKind.u64.wrap ((BitVec.ofInt 64 (uw X) &&& ~~~ BitVec.ofInt 64 (uw Y)).toNat : Int) = uw (X &&& ~~~ Y) := by rw [ofInt_uw, ofInt_uw, wrap_toNat]
theorem uw_not (X : BitVec 64) : IntKind.u64.wrap ((BitVec.ofInt 64 18446744073709551615 ^^^ BitVec.ofInt 64 (uw X)).toNat : Int) = uw (~~~ X) := by
  rw [ofInt_uw, wrap_toNat]
  have : BitVec.ofInt 64 18446744073709551615 = BitVec.allOnes 64 := by decide
  rw [this, BitVec.allOnes_xor]
theorem uw_mul (X Y : BitVec 64) : IntKind.u64.wrap (uw X * uw Y) = uw (X * Y) := by
  unfold uw
  rw [wrap_u64, BitVec.toNat_mul]
  omega
theorem uw_neg (X : BitVec 64) : IntKind.u64.wrap (0 - uw X) = uw (- X) := by
  have h := X.isLt
  unfold uw
  rw [wrap_u64, BitVec.toNat_neg]
  omega
theorem uw_shl (X : BitVec 64) (p : Nat) : IntKind.u64.wrap (uw X * 2 ^ min p 64) = uw (X <<< p) := by
  unfold uw
  rw [wrap_u64, BitVec.toNat_shiftLeft, Nat.shiftLeft_eq]
  by_cases h : p ≤ 64
  · rw [Nat.min_eq_left h]
    rw [Int.natCast_emod, Int.natCast_mul, Int.natCast_pow]
    rfl
  · rw [Nat.min_eq_right (by omega)]
    have e : 2 ^ p = 2 ^ 64 * 2 ^ (p - 64) := by rw [← Nat.pow_add]; congr 1; omega
    rw [e, ← Nat.mul_assoc, Nat.mul_comm X.toNat, Nat.mul_assoc, Nat.mul_mod_right]
    have : ((2 : Int) ^ 64) = 18446744073709551616 := by decide
    rw [this]
    simp
theorem uw_shr (X : BitVec 64) (p : Nat) : Int.fdiv (uw X) (2 ^ min p 64) = uw (X >>> p) := by
  unfold uw
  rw [BitVec.toNat_ushiftRight, Nat.shiftRight_eq_div_pow]
  have e2 : ∀ k : Nat, ((2 : Int) ^ k) = ((2 ^ k : Nat) : Int) := fun k => by rw [Int.natCast_pow]; rfl
  rw [e2, Int.fdiv_eq_ediv_of_nonneg _ (Int.natCast_nonneg _), ← Int.natCast_ediv]
  by_cases h : p ≤ 64
  · rw [Nat.min_eq_left h]
  · rw [Nat.min_eq_right (by omega)]
    have h1 : X.toNat / 2 ^ 64 = 0 := Nat.div_eq_of_lt X.isLt
    have h2 : X.toNat / 2 ^ p = 0 := Nat.div_eq_of_lt (Nat.lt_of_lt_of_le X.isLt (Nat.pow_le_pow_right (by decide) (by omega)))
    rw [h1, h2]
theorem uw_zero_iff (X : BitVec 64) : (uw X == 0) = decide (X = 0#64) := by
  have : (uw X = 0) ↔ X = 0#64 := by rw [← uw_inj]; rfl
  rw [Bool.eq_iff_iff, beq_iff_eq, decide_eq_true_eq, this]
/-- A known number. -/
theorem uw_lit (n : Nat) (h : n < 18446744073709551616) : (n : Int) = uw (BitVec.ofNat 64 n) := by
  unfold uw
  rw [BitVec.toNat_ofNat]
  omega
end Go.Proofs.YtebjigahnpjjiaaDoor
/- The lowest bit of a word, as math/bits finds it. No condition. -/
namespace Go.Proofs.YtebjigahnpjjiaaDoor
/-- The lowest bit's place; 64: there is none. -/
def tz (X : BitVec 64) : Nat := X.ctz.toNat
theorem tz_zero : tz 0#64 = 64 := by decide +kernel
theorem tz_lt {X : BitVec 64} (h : X ≠ 0#64) : tz X < 64 := by
  rcases Nat.lt_or_ge (tz X) 64 with h1 | h1
  · exact h1
  · have : X.getLsbD (tz X) = true := BitVec.getLsbD_true_ctz_of_ne_zero h
    rw [BitVec.getLsbD_of_ge _ _ h1] at this
    cases this
theorem tz_le (X : BitVec 64) : tz X ≤ 64 := by
  by_cases h : X = 0#64
  · subst h; rw [tz_zero]; exact Nat.le_refl _
  · exact Nat.le_of_lt (tz_lt h)
theorem tz_bit {X : BitVec 64} (h : X ≠ 0#64) : X.getLsbD (tz X) = true := BitVec.getLsbD_true_ctz_of_ne_zero h
theorem tz_below {X : BitVec 64} {i : Nat} (h : i < tz X) : X.getLsbD i = false := BitVec.getLsbD_false_of_lt_ctz h
theorem tz_unique {X : BitVec 64} {k : Nat} (h1 : X.getLsbD k = true) (h2 : ∀ i, i < k → X.getLsbD i = false) : tz X = k := by
  have hne : X ≠ 0#64 := by
    intro h; subst h; simp at h1
  rcases Nat.lt_trichotomy (tz X) k with h | h | h
  · have := h2 _ h
    rw [tz_bit hne] at this
    cases this
  · exact h
  · have := tz_below h
    rw [h1] at this
    cases this
theorem low_bit {X : BitVec 64} (h : X ≠ 0#64) : X &&& (-X) = BitVec.twoPow 64 (tz X) := by
  have h0 : X.toNat ≠ 0 := fun e => h (BitVec.eq_of_toNat_eq (by simpa using e))
  obtain ⟨h1, h2⟩ := Go.Lib.lowest_bit 64 X.toNat h0 X.isLt
  have e : X &&& (-X) = BitVec.twoPow 64 (Go.Lib.ctz 64 X.toNat) := by
    apply BitVec.eq_of_toNat_eq
    have e1 : (-X).toNat = 2 ^ 64 - X.toNat := by
      rw [BitVec.toNat_neg, Nat.mod_eq_of_lt]
      have := X.isLt
      omega
    rw [BitVec.toNat_and, e1, h1, BitVec.toNat_twoPow, Nat.mod_eq_of_lt]
    exact Nat.pow_lt_pow_right (by decide) h2
  have key : ∀ i, (X &&& (-X)).getLsbD i = decide (i = Go.Lib.ctz 64 X.toNat) := by
    intro i
    rw [e, BitVec.getLsbD_twoPow]
    by_cases hi : i = Go.Lib.ctz 64 X.toNat
    · subst hi; simp [h2]
    · have : ¬ Go.Lib.ctz 64 X.toNat = i := fun x => hi x.symm
      simp [hi, this]
  obtain ⟨m, hm, _⟩ := Go.Lib.ctzFrom_spec 64 X.toNat (by omega) X.isLt
  have hc : Go.Lib.ctz 64 X.toNat = Go.Lib.ctzFrom 64 X.toNat := by simp [Go.Lib.ctz, h0]
  rw [e]
  congr 1
  refine (tz_unique ?_ fun i hi => ?_).symm
  · have := key (Go.Lib.ctz 64 X.toNat)
    rw [BitVec.getLsbD_and] at this
    simp at this
    exact this.1
  · unfold BitVec.getLsbD
    rw [hc] at hi
    rw [hm, Nat.mul_comm, Nat.testBit_mul_two_pow]
    simp
    omega
/-- The table's answer. -/
def deB : List Nat := Go.Lib.deBruijn64tab
theorem deB_at (k : Nat) (h : k < 64) : ((BitVec.twoPow 64 k * 285870213051353865#64) >>> 58).toNat < 64 ∧ deB.getD ((BitVec.twoPow 64 k * 285870213051353865#64) >>> 58).toNat 0 = k := by
  have := Go.Lib.deBruijn64_at k h
  have e : ((BitVec.twoPow 64 k * 285870213051353865#64) >>> 58).toNat = 2 ^ k * 285870213051353865 % 18446744073709551616 / 288230376151711744 := by
    rw [BitVec.toNat_ushiftRight, BitVec.toNat_mul, BitVec.toNat_twoPow, Nat.shiftRight_eq_div_pow, Nat.mod_eq_of_lt (Nat.pow_lt_pow_right (by decide) h)]
    rfl
  rw [e]
  exact this
theorem tz_at {X : BitVec 64} (h : X ≠ 0#64) : (((X &&& (-X)) * 285870213051353865#64) >>> 58).toNat < 64 ∧ deB.getD (((X &&& (-X)) * 285870213051353865#64) >>> 58).toNat 0 = tz X := by
  rw [low_bit h]
  exact deB_at _ (tz_lt h)
end Go.Proofs.YtebjigahnpjjiaaDoor
/- Operations of words, as the conditions name them. No condition. -/
namespace Go.Proofs.YtebjigahnpjjiaaDoor
theorem ari_uw_and (X Y : BitVec 64) : ari .and .u64 (uw X) (uw Y) = uw (X &&& Y) := uw_and X Y
theorem ari_uw_or (X Y : BitVec 64) : ari .or .u64 (uw X) (uw Y) = uw (X ||| Y) := uw_or X Y
theorem ari_uw_andNot (X Y : BitVec 64) : ari .andNot .u64 (uw X) (uw Y) = uw (X &&& ~~~ Y) := uw_andNot X Y
theorem ari_uw_mul (X Y : BitVec 64) : ari .mul .u64 (uw X) (uw Y) = uw (X * Y) := uw_mul X Y
theorem ari_uw_neg (X : BitVec 64) : ari .sub .u64 0 (uw X) = uw (- X) := uw_neg X
theorem ari_uw_not (X : BitVec 64) : ari .xor .u64 18446744073709551615 (uw X) = uw (~~~ X) := uw_not X
theorem ari_uw_add (X Y : BitVec 64) : ari .add .u64 (uw X) (uw Y) = uw (X + Y) := by
  rw [ari_add, wrap_u64]
  unfold uw
  rw [BitVec.toNat_add]
  omega
theorem ari_uw_shl (X : BitVec 64) (p : Int) : ari .shl .u64 (uw X) p = uw (X <<< p.toNat) := uw_shl X p.toNat
theorem ari_uw_shr (X : BitVec 64) (p : Int) : ari .shr .u64 (uw X) p = uw (X >>> p.toNat) := uw_shr X p.toNat
theorem uw_toNat (X : BitVec 64) : (uw X).toNat = X.toNat := Int.toNat_natCast _
def tabL : List Value := (glTab.headD (0, [])).2
def tabOk (i : Nat) : Bool := match tabL[i]? with | some (.int .u8 n) => n == (deB.getD i 0 : Nat) | _ => false
theorem tab_all : ∀ i : Fin 64, tabOk i.val = true := by decide +kernel
theorem tab_at {i : Nat} (h : i < 64) : IsInt .u8 tabL.toArray i ∧ intAt tabL.toArray i = (deB.getD i 0 : Nat) := by
  have := tab_all ⟨i, h⟩
  unfold tabOk at this
  dsimp only at this
  split at this
  · rename_i n hn
    have e : intAt tabL.toArray i = n := by
      unfold intAt
      rw [List.getElem?_toArray, hn]
    have hn' : n = (deB.getD i 0 : Nat) := by simpa using this
    refine ⟨?_, e.trans hn'⟩
    unfold IsInt
    rw [e, List.getElem?_toArray, hn]
  · cases this
end Go.Proofs.YtebjigahnpjjiaaDoor
/- Of runs: the lowest bit: its contract. No condition. -/
namespace Go.Proofs.YtebjigahnpjjiaaDoor
def u64S (p : Int) : SV := .s (.c (.f (.int .u64 (.o p))))
theorem tz_fn : E0.fn 29 = some Tryd.f29 := by kernel_rfl
theorem tz_body : Tryd.f29.body = some (Tryd.f29.body.getD .skip) := by kernel_rfl
def tzI (p : Int) : Int := (tz (BitVec.ofInt 64 p) : Nat)
theorem tzI_uw (X : BitVec 64) : tzI (uw X) = (tz X : Nat) := by unfold tzI; rw [ofInt_uw]
theorem tz_good (X : BitVec 64) : Good Tryd.prog (retOk 0 [] (i64 (.o (tzI (uw X)))) ⟨0, .nil, []⟩) 0 [callFr 29 Tryd.f29.ntmps [u64S (uw X)] (Tryd.f29.body.getD .skip)] ⟨0, .nil, []⟩ := by
  refine run_vc E0_ok 1000 (tz_run (uw X) (tzI (uw X))) ?_ (fun s m h => h) fun _ _ h => h.elim
  rw [tzI_uw]
  refine ⟨fun h => ⟨?_, trivial⟩, fun h => ?_⟩
  · rw [uw_zero_iff, decide_eq_true_eq] at h
    rw [h, tz_zero]
    rfl
  · rw [uw_zero_iff, decide_eq_false_iff_not] at h
    obtain ⟨h1, h2⟩ := tz_at h
    have ec : (285870213051353865 : Int) = uw 285870213051353865#64 := rfl
    have e58 : (58 : Int).toNat = 58 := rfl
    rw [ari_uw_neg, ari_uw_and, ec, ari_uw_mul, ari_uw_shr, e58]
    generalize hY : (((X &&& (-X)) * 285870213051353865#64) >>> 58) = Y at h1 h2
    have hr := uw_range Y
    obtain ⟨k1, k2⟩ := tab_at h1
    have hlt : Y.toNat < 64 := h1
    have e0 : 0 + (uw Y).toNat * 1 = Y.toNat := by rw [uw_toNat]; omega
    rw [e0]
    refine ⟨⟨⟨hr.1, ?_⟩, trivial⟩, ⟨k1, trivial⟩, ?_, trivial⟩
    · unfold uw; omega
    · refine Eq.trans ?_ (congrArg (IntKind.wrap .i64) k2).symm
      rw [h2]
      have := tz_le X
      exact (Go.IntWalk.i64_in _ (by omega)).symm
theorem tz_con (p : Int) (m : SMem) : Con E0 29 [u64S p] m (needs [uw (BitVec.ofInt 64 p) = p] (.ret (i64 (.o (tzI p))) m)) := by
  refine Con.pure E0_ok tz_fn tz_body (by kernel_rfl) (by kernel_rfl) fun hq => ?_
  have hp : uw (BitVec.ofInt 64 p) = p := hq _ (by simp)
  have := tz_good (BitVec.ofInt 64 p)
  rw [hp] at this
  exact (Good.ret [] this).mono fun _ _ h => h.1
end Go.Proofs.YtebjigahnpjjiaaDoor
/- Of runs: the functions of math/bits, as propositions. No condition. -/
namespace Go.Proofs.YtebjigahnpjjiaaDoor
set_option maxRecDepth 100000
theorem oc_run (p x : Int) : (run E0 1000 0 [callFr 26 Tryd.f26.ntmps [.s (.c (.f (.int .u64 (.o p))))] (Tryd.f26.body.getD .skip)] ⟨0, .nil, []⟩).vc (retOk 0 [] (i64 (.o x)) ⟨0, .nil, []⟩) (fun _ _ => False) =
    (x = ari BinOp.and IntKind.i64 (IntKind.wrap IntKind.i64 (ari BinOp.add IntKind.u64 (ari BinOp.add IntKind.u64 (ari BinOp.add IntKind.u64 (ari BinOp.and IntKind.u64 (ari BinOp.add IntKind.u64 (ari BinOp.shr IntKind.u64 (ari BinOp.add IntKind.u64 (ari BinOp.and IntKind.u64 (ari BinOp.shr IntKind.u64 (ari BinOp.add IntKind.u64 (ari BinOp.and IntKind.u64 (ari BinOp.shr IntKind.u64 p (1 : Int)) (6148914691236517205 : Int)) (ari BinOp.and IntKind.u64 p (6148914691236517205 : Int))) (2 : Int)) (3689348814741910323 : Int)) (ari BinOp.and IntKind.u64 (ari BinOp.add IntKind.u64 (ari BinOp.and IntKind.u64 (ari BinOp.shr IntKind.u64 p (1 : Int)) (6148914691236517205 : Int)) (ari BinOp.and IntKind.u64 p (6148914691236517205 : Int))) (3689348814741910323 : Int))) (4 : Int)) (ari BinOp.add IntKind.u64 (ari BinOp.and IntKind.u64 (ari BinOp.shr IntKind.u64 (ari BinOp.add IntKind.u64 (ari BinOp.and IntKind.u64 (ari BinOp.shr IntKind.u64 p (1 : Int)) (6148914691236517205 : Int)) (ari BinOp.and IntKind.u64 p (6148914691236517205 : Int))) (2 : Int)) (3689348814741910323 : Int)) (ari BinOp.and IntKind.u64 (ari BinOp.add IntKind.u64 (ari BinOp.and IntKind.u64 (ari BinOp.shr IntKind.u64 p (1 : Int)) (6148914691236517205 : Int)) (ari BinOp.and IntKind.u64 p (6148914691236517205 : Int))) (3689348814741910323 : Int)))) (1085102592571150095 : Int)) (ari BinOp.shr IntKind.u64 (ari BinOp.and IntKind.u64 (ari BinOp.add IntKind.u64 (ari BinOp.shr IntKind.u64 (ari BinOp.add IntKind.u64 (ari BinOp.and IntKind.u64 (ari BinOp.shr IntKind.u64 (ari BinOp.add IntKind.u64 (ari BinOp.and IntKind.u64 (ari BinOp.shr IntKind.u64 p (1 : Int)) (6148914691236517205 : Int)) (ari BinOp.and IntKind.u64 p (6148914691236517205 : Int))) (2 : Int)) (3689348814741910323 : Int)) (ari BinOp.and IntKind.u64 (ari BinOp.add IntKind.u64 (ari BinOp.and IntKind.u64 (ari BinOp.shr IntKind.u64 p (1 : Int)) (6148914691236517205 : Int)) (ari BinOp.and IntKind.u64 p (6148914691236517205 : Int))) (3689348814741910323 : Int))) (4 : Int)) (ari BinOp.add IntKind.u64 (ari BinOp.and IntKind.u64 (ari BinOp.shr IntKind.u64 (ari BinOp.add IntKind.u64 (ari BinOp.and IntKind.u64 (ari BinOp.shr IntKind.u64 p (1 : Int)) (6148914691236517205 : Int)) (ari BinOp.and IntKind.u64 p (6148914691236517205 : Int))) (2 : Int)) (3689348814741910323 : Int)) (ari BinOp.and IntKind.u64 (ari BinOp.add IntKind.u64 (ari BinOp.and IntKind.u64 (ari BinOp.shr IntKind.u64 p (1 : Int)) (6148914691236517205 : Int)) (ari BinOp.and IntKind.u64 p (6148914691236517205 : Int))) (3689348814741910323 : Int)))) (1085102592571150095 : Int)) (8 : Int))) (ari BinOp.shr IntKind.u64 (ari BinOp.add IntKind.u64 (ari BinOp.and IntKind.u64 (ari BinOp.add IntKind.u64 (ari BinOp.shr IntKind.u64 (ari BinOp.add IntKind.u64 (ari BinOp.and IntKind.u64 (ari BinOp.shr IntKind.u64 (ari BinOp.add IntKind.u64 (ari BinOp.and IntKind.u64 (ari BinOp.shr IntKind.u64 p (1 : Int)) (6148914691236517205 : Int)) (ari BinOp.and IntKind.u64 p (6148914691236517205 : Int))) (2 : Int)) (3689348814741910323 : Int)) (ari BinOp.and IntKind.u64 (ari BinOp.add IntKind.u64 (ari BinOp.and IntKind.u64 (ari BinOp.shr IntKind.u64 p (1 : Int)) (6148914691236517205 : Int)) (ari BinOp.and IntKind.u64 p (6148914691236517205 : Int))) (3689348814741910323 : Int))) (4 : Int)) (ari BinOp.add IntKind.u64 (ari BinOp.and IntKind.u64 (ari BinOp.shr IntKind.u64 (ari BinOp.add IntKind.u64 (ari BinOp.and IntKind.u64 (ari BinOp.shr IntKind.u64 p (1 : Int)) (6148914691236517205 : Int)) (ari BinOp.and IntKind.u64 p (6148914691236517205 : Int))) (2 : Int)) (3689348814741910323 : Int)) (ari BinOp.and IntKind.u64 (ari BinOp.add IntKind.u64 (ari BinOp.and IntKind.u64 (ari BinOp.shr IntKind.u64 p (1 : Int)) (6148914691236517205 : Int)) (ari BinOp.and IntKind.u64 p (6148914691236517205 : Int))) (3689348814741910323 : Int)))) (1085102592571150095 : Int)) (ari BinOp.shr IntKind.u64 (ari BinOp.and IntKind.u64 (ari BinOp.add IntKind.u64 (ari BinOp.shr IntKind.u64 (ari BinOp.add IntKind.u64 (ari BinOp.and IntKind.u64 (ari BinOp.shr IntKind.u64 (ari BinOp.add IntKind.u64 (ari BinOp.and IntKind.u64 (ari BinOp.shr IntKind.u64 p (1 : Int)) (6148914691236517205 : Int)) (ari BinOp.and IntKind.u64 p (6148914691236517205 : Int))) (2 : Int)) (3689348814741910323 : Int)) (ari BinOp.and IntKind.u64 (ari BinOp.add IntKind.u64 (ari BinOp.and IntKind.u64 (ari BinOp.shr IntKind.u64 p (1 : Int)) (6148914691236517205 : Int)) (ari BinOp.and IntKind.u64 p (6148914691236517205 : Int))) (3689348814741910323 : Int))) (4 : Int)) (ari BinOp.add IntKind.u64 (ari BinOp.and IntKind.u64 (ari BinOp.shr IntKind.u64 (ari BinOp.add IntKind.u64 (ari BinOp.and IntKind.u64 (ari BinOp.shr IntKind.u64 p (1 : Int)) (6148914691236517205 : Int)) (ari BinOp.and IntKind.u64 p (6148914691236517205 : Int))) (2 : Int)) (3689348814741910323 : Int)) (ari BinOp.and IntKind.u64 (ari BinOp.add IntKind.u64 (ari BinOp.and IntKind.u64 (ari BinOp.shr IntKind.u64 p (1 : Int)) (6148914691236517205 : Int)) (ari BinOp.and IntKind.u64 p (6148914691236517205 : Int))) (3689348814741910323 : Int)))) (1085102592571150095 : Int)) (8 : Int))) (16 : Int))) (ari BinOp.shr IntKind.u64 (ari BinOp.add IntKind.u64 (ari BinOp.add IntKind.u64 (ari BinOp.and IntKind.u64 (ari BinOp.add IntKind.u64 (ari BinOp.shr IntKind.u64 (ari BinOp.add IntKind.u64 (ari BinOp.and IntKind.u64 (ari BinOp.shr IntKind.u64 (ari BinOp.add IntKind.u64 (ari BinOp.and IntKind.u64 (ari BinOp.shr IntKind.u64 p (1 : Int)) (6148914691236517205 : Int)) (ari BinOp.and IntKind.u64 p (6148914691236517205 : Int))) (2 : Int)) (3689348814741910323 : Int)) (ari BinOp.and IntKind.u64 (ari BinOp.add IntKind.u64 (ari BinOp.and IntKind.u64 (ari BinOp.shr IntKind.u64 p (1 : Int)) (6148914691236517205 : Int)) (ari BinOp.and IntKind.u64 p (6148914691236517205 : Int))) (3689348814741910323 : Int))) (4 : Int)) (ari BinOp.add IntKind.u64 (ari BinOp.and IntKind.u64 (ari BinOp.shr IntKind.u64 (ari BinOp.add IntKind.u64 (ari BinOp.and IntKind.u64 (ari BinOp.shr IntKind.u64 p (1 : Int)) (6148914691236517205 : Int)) (ari BinOp.and IntKind.u64 p (6148914691236517205 : Int))) (2 : Int)) (3689348814741910323 : Int)) (ari BinOp.and IntKind.u64 (ari BinOp.add IntKind.u64 (ari BinOp.and IntKind.u64 (ari BinOp.shr IntKind.u64 p (1 : Int)) (6148914691236517205 : Int)) (ari BinOp.and IntKind.u64 p (6148914691236517205 : Int))) (3689348814741910323 : Int)))) (1085102592571150095 : Int)) (ari BinOp.shr IntKind.u64 (ari BinOp.and IntKind.u64 (ari BinOp.add IntKind.u64 (ari BinOp.shr IntKind.u64 (ari BinOp.add IntKind.u64 (ari BinOp.and IntKind.u64 (ari BinOp.shr IntKind.u64 (ari BinOp.add IntKind.u64 (ari BinOp.and IntKind.u64 (ari BinOp.shr IntKind.u64 p (1 : Int)) (6148914691236517205 : Int)) (ari BinOp.and IntKind.u64 p (6148914691236517205 : Int))) (2 : Int)) (3689348814741910323 : Int)) (ari BinOp.and IntKind.u64 (ari BinOp.add IntKind.u64 (ari BinOp.and IntKind.u64 (ari BinOp.shr IntKind.u64 p (1 : Int)) (6148914691236517205 : Int)) (ari BinOp.and IntKind.u64 p (6148914691236517205 : Int))) (3689348814741910323 : Int))) (4 : Int)) (ari BinOp.add IntKind.u64 (ari BinOp.and IntKind.u64 (ari BinOp.shr IntKind.u64 (ari BinOp.add IntKind.u64 (ari BinOp.and IntKind.u64 (ari BinOp.shr IntKind.u64 p (1 : Int)) (6148914691236517205 : Int)) (ari BinOp.and IntKind.u64 p (6148914691236517205 : Int))) (2 : Int)) (3689348814741910323 : Int)) (ari BinOp.and IntKind.u64 (ari BinOp.add IntKind.u64 (ari BinOp.and IntKind.u64 (ari BinOp.shr IntKind.u64 p (1 : Int)) (6148914691236517205 : Int)) (ari BinOp.and IntKind.u64 p (6148914691236517205 : Int))) (3689348814741910323 : Int)))) (1085102592571150095 : Int)) (8 : Int))) (ari BinOp.shr IntKind.u64 (ari BinOp.add IntKind.u64 (ari BinOp.and IntKind.u64 (ari BinOp.add IntKind.u64 (ari BinOp.shr IntKind.u64 (ari BinOp.add IntKind.u64 (ari BinOp.and IntKind.u64 (ari BinOp.shr IntKind.u64 (ari BinOp.add IntKind.u64 (ari BinOp.and IntKind.u64 (ari BinOp.shr IntKind.u64 p (1 : Int)) (6148914691236517205 : Int)) (ari BinOp.and IntKind.u64 p (6148914691236517205 : Int))) (2 : Int)) (3689348814741910323 : Int)) (ari BinOp.and IntKind.u64 (ari BinOp.add IntKind.u64 (ari BinOp.and IntKind.u64 (ari BinOp.shr IntKind.u64 p (1 : Int)) (6148914691236517205 : Int)) (ari BinOp.and IntKind.u64 p (6148914691236517205 : Int))) (3689348814741910323 : Int))) (4 : Int)) (ari BinOp.add IntKind.u64 (ari BinOp.and IntKind.u64 (ari BinOp.shr IntKind.u64 (ari BinOp.add IntKind.u64 (ari BinOp.and IntKind.u64 (ari BinOp.shr IntKind.u64 p (1 : Int)) (6148914691236517205 : Int)) (ari BinOp.and IntKind.u64 p (6148914691236517205 : Int))) (2 : Int)) (3689348814741910323 : Int)) (ari BinOp.and IntKind.u64 (ari BinOp.add IntKind.u64 (ari BinOp.and IntKind.u64 (ari BinOp.shr IntKind.u64 p (1 : Int)) (6148914691236517205 : Int)) (ari BinOp.and IntKind.u64 p (6148914691236517205 : Int))) (3689348814741910323 : Int)))) (1085102592571150095 : Int)) (ari BinOp.shr IntKind.u64 (ari BinOp.and IntKind.u64 (ari BinOp.add IntKind.u64 (ari BinOp.shr IntKind.u64 (ari BinOp.add IntKind.u64 (ari BinOp.and IntKind.u64 (ari BinOp.shr IntKind.u64 (ari BinOp.add IntKind.u64 (ari BinOp.and IntKind.u64 (ari BinOp.shr IntKind.u64 p (1 : Int)) (6148914691236517205 : Int)) (ari BinOp.and IntKind.u64 p (6148914691236517205 : Int))) (2 : Int)) (3689348814741910323 : Int)) (ari BinOp.and IntKind.u64 (ari BinOp.add IntKind.u64 (ari BinOp.and IntKind.u64 (ari BinOp.shr IntKind.u64 p (1 : Int)) (6148914691236517205 : Int)) (ari BinOp.and IntKind.u64 p (6148914691236517205 : Int))) (3689348814741910323 : Int))) (4 : Int)) (ari BinOp.add IntKind.u64 (ari BinOp.and IntKind.u64 (ari BinOp.shr IntKind.u64 (ari BinOp.add IntKind.u64 (ari BinOp.and IntKind.u64 (ari BinOp.shr IntKind.u64 p (1 : Int)) (6148914691236517205 : Int)) (ari BinOp.and IntKind.u64 p (6148914691236517205 : Int))) (2 : Int)) (3689348814741910323 : Int)) (ari BinOp.and IntKind.u64 (ari BinOp.add IntKind.u64 (ari BinOp.and IntKind.u64 (ari BinOp.shr IntKind.u64 p (1 : Int)) (6148914691236517205 : Int)) (ari BinOp.and IntKind.u64 p (6148914691236517205 : Int))) (3689348814741910323 : Int)))) (1085102592571150095 : Int)) (8 : Int))) (16 : Int))) (32 : Int)))) (127 : Int) ∧ True) := by kernel_rfl
theorem of_run (p x : Int) : (run E0 1000 0 [callFr 6 Tryd.f6.ntmps [i64 (.o p)] (Tryd.f6.body.getD .skip)] ⟨0, .nil, []⟩).vc (retOk 0 [] (.s (.agg (.ls [.f (.int .u64 (.o x))]))) ⟨0, .nil, []⟩) (fun _ _ => False) =
    ((((if (64 : Int) < if (0 : Int) > p then (0 : Int) else p then (64 : Int) else if (0 : Int) > p then (0 : Int) else p) == (0 : Int)) = true → x = (0 : Int) ∧ True) ∧ (((if (64 : Int) < if (0 : Int) > p then (0 : Int) else p then (64 : Int) else if (0 : Int) > p then (0 : Int) else p) == (0 : Int)) = false → ((0 : Int) ≤ ari BinOp.sub IntKind.i64 (64 : Int) (if (64 : Int) < if (0 : Int) > p then (0 : Int) else p then (64 : Int) else if (0 : Int) > p then (0 : Int) else p) ∧ True) ∧ x = ari BinOp.shr IntKind.u64 (18446744073709551615 : Int) (ari BinOp.sub IntKind.i64 (64 : Int) (if (64 : Int) < if (0 : Int) > p then (0 : Int) else p then (64 : Int) else if (0 : Int) > p then (0 : Int) else p)) ∧ True)) := by kernel_rfl
theorem has_run (mk p : Int) (b : Bool) : (run E0 1000 0 [callFr 17 Tryd.f17.ntmps [.s (.agg (.ls [.f (.int .u64 (.o mk))])), i64 (.o p)] (Tryd.f17.body.getD .skip)] ⟨0, .nil, []⟩).vc (retOk 0 [] (sB (.o b)) ⟨0, .nil, []⟩) (fun _ _ => False) =
    (((decide (p ≥ (0 : Int)) == true) = true → ((decide (p < (64 : Int)) == true) = true → ((0 : Int) ≤ p ∧ True) ∧ b = (ari BinOp.and IntKind.u64 (ari BinOp.shr IntKind.u64 mk p) (1 : Int) == (1 : Int)) ∧ True) ∧ ((decide (p < (64 : Int)) == true) = false → b = false ∧ True)) ∧ ((decide (p ≥ (0 : Int)) == true) = false → b = false ∧ True)) := by kernel_rfl
end Go.Proofs.YtebjigahnpjjiaaDoor
/- How many bits of a word are set, as math/bits counts them: byte by byte. No condition. -/
namespace Go.Proofs.YtebjigahnpjjiaaDoor
def byN : List Nat → Nat
  | [] => 0
  | b :: l => b + 256 * byN l
def Small (l : List Nat) : Prop := ∀ b ∈ l, b < 256
theorem byN_lt : ∀ {l : List Nat}, Small l → byN l < 256 ^ l.length
  | [], _ => by simp [byN]
  | b :: l, h => by
    have h1 := byN_lt (l := l) fun x hx => h x (List.mem_cons_of_mem _ hx)
    have h2 := h b (List.mem_cons_self ..)
    rw [List.length_cons, Nat.pow_succ]
    unfold byN
    omega
theorem byN_add : ∀ {l m : List Nat}, l.length = m.length → byN l + byN m = byN (List.zipWith (· + ·) l m)
  | [], [], _ => rfl
  | a :: l, b :: m, h => by
    have := byN_add (l := l) (m := m) (by simpa using h)
    simp only [byN, List.zipWith_cons_cons]
    omega
  | [], _ :: _, h => by simp at h
  | _ :: _, [], h => by simp at h
theorem and_byte (h l H L : Nat) (hl : l < 256) (hL : L < 256) : (l + 256 * h) &&& (L + 256 * H) = (l &&& L) + 256 * (h &&& H) := by
  have e1 : ((l + 256 * h) &&& (L + 256 * H)) / 2 ^ 8 = (h &&& H) := by
    rw [Nat.and_div_two_pow]
    congr 1 <;> omega
  have e2 : ((l + 256 * h) &&& (L + 256 * H)) % 2 ^ 8 = (l &&& L) := by
    rw [Nat.and_mod_two_pow]
    congr 1 <;> omega
  omega
theorem byN_and : ∀ {l m : List Nat}, Small l → Small m → l.length = m.length → byN l &&& byN m = byN (List.zipWith (· &&& ·) l m)
  | [], [], _, _, _ => rfl
  | a :: l, b :: m, h1, h2, h => by
    have := byN_and (l := l) (m := m) (fun x hx => h1 x (List.mem_cons_of_mem _ hx)) (fun x hx => h2 x (List.mem_cons_of_mem _ hx)) (by simpa using h)
    simp only [byN, List.zipWith_cons_cons]
    rw [and_byte _ _ _ _ (h1 a (List.mem_cons_self ..)) (h2 b (List.mem_cons_self ..)), this]
  | [], _ :: _, _, _, h => by simp at h
  | _ :: _, [], _, _, h => by simp at h
def shL1 : List Nat → List Nat
  | [] => []
  | b :: l => (b / 2 + (l.headD 0 % 2) * 128) :: shL1 l
def shL2 : List Nat → List Nat
  | [] => []
  | b :: l => (b / 4 + (l.headD 0 % 4) * 64) :: shL2 l
def shL4 : List Nat → List Nat
  | [] => []
  | b :: l => (b / 16 + (l.headD 0 % 16) * 16) :: shL4 l
theorem byN_sh1 : ∀ (l : List Nat), byN l / 2 = byN (shL1 l)
  | [] => rfl
  | b :: l => by
    have := byN_sh1 l
    have hm : byN l % 2 = l.headD 0 % 2 := by cases l <;> simp [byN]; omega
    simp only [byN, shL1]
    omega
theorem byN_sh2 : ∀ (l : List Nat), byN l / 4 = byN (shL2 l)
  | [] => rfl
  | b :: l => by
    have := byN_sh2 l
    have hm : byN l % 4 = l.headD 0 % 4 := by cases l <;> simp [byN]; omega
    simp only [byN, shL2]
    omega
theorem byN_sh4 : ∀ (l : List Nat), byN l / 16 = byN (shL4 l)
  | [] => rfl
  | b :: l => by
    have := byN_sh4 l
    have hm : byN l % 16 = l.headD 0 % 16 := by cases l <;> simp [byN]; omega
    simp only [byN, shL4]
    omega
/-- The bytes of a number. -/
def bysOf : Nat → Nat → List Nat
  | 0, _ => []
  | n + 1, x => x % 256 :: bysOf n (x / 256)
theorem byN_bysOf : ∀ (n x : Nat), x < 256 ^ n → byN (bysOf n x) = x
  | 0, x, h => by simp at h; simp [bysOf, byN, h]
  | n + 1, x, h => by
    rw [Nat.pow_succ] at h
    simp only [bysOf, byN]
    rw [byN_bysOf n (x / 256) (by omega)]
    omega
theorem bysOf_small : ∀ (n x : Nat), Small (bysOf n x)
  | 0, _ => fun b hb => by simp [bysOf] at hb
  | n + 1, x => fun b hb => by
    simp only [bysOf, List.mem_cons] at hb
    rcases hb with rfl | hb
    · omega
    · exact bysOf_small n _ b hb
theorem bysOf_len : ∀ (n x : Nat), (bysOf n x).length = n
  | 0, _ => rfl
  | n + 1, x => by simp [bysOf, bysOf_len n]
end Go.Proofs.YtebjigahnpjjiaaDoor
/- How many bits of a word are set: the steps. No condition. -/
namespace Go.Proofs.YtebjigahnpjjiaaDoor
def f1 (b : Nat) : Nat := ((b / 2) &&& 85) + (b &&& 85)
def f2 (b : Nat) : Nat := ((b / 4) &&& 51) + (b &&& 51)
def f3 (b : Nat) : Nat := b / 16 + b % 16
/-- A byte's bits. -/
def pcB (b : Nat) : Nat := b % 2 + b / 2 % 2 + b / 4 % 2 + b / 8 % 2 + b / 16 % 2 + b / 32 % 2 + b / 64 % 2 + b / 128 % 2
theorem byte1 : ∀ b : Fin 256, ∀ e : Fin 2, ((b.val / 2 + e.val * 128) &&& 85) = ((b.val / 2) &&& 85) := by decide +kernel
theorem byte2 : ∀ b : Fin 256, ∀ e : Fin 4, ((b.val / 4 + e.val * 64) &&& 51) = ((b.val / 4) &&& 51) := by decide +kernel
theorem byte1s : ∀ b : Fin 256, f1 b.val < 256 := by decide +kernel
theorem byte2s : ∀ b : Fin 256, f2 b.val < 256 := by decide +kernel
theorem byte3 : ∀ b : Fin 256, f2 (f1 b.val) / 16 ≤ 4 ∧ f2 (f1 b.val) % 16 ≤ 4 ∧ f3 (f2 (f1 b.val)) = pcB b.val := by decide +kernel
theorem zip_rep (k : Nat) : ∀ l : List Nat, List.zipWith (· &&& ·) l (List.replicate l.length k) = l.map (· &&& k)
  | [] => rfl
  | a :: l => by simp only [List.length_cons, List.replicate_succ, List.zipWith_cons_cons, List.map_cons]; rw [zip_rep k l]
theorem zip_map (f g : Nat → Nat) : ∀ l : List Nat, List.zipWith (· + ·) (l.map f) (l.map g) = l.map fun b => f b + g b
  | [] => rfl
  | a :: l => by simp only [List.map_cons, List.zipWith_cons_cons]; rw [zip_map f g l]
theorem Small.rep (k n : Nat) (h : k < 256) : Small (List.replicate n k) := fun b hb => by
  rw [List.eq_of_mem_replicate hb]; exact h
theorem shL1_len : ∀ l, (shL1 l).length = l.length | [] => rfl | _ :: l => by simp [shL1, shL1_len l]
theorem shL2_len : ∀ l, (shL2 l).length = l.length | [] => rfl | _ :: l => by simp [shL2, shL2_len l]
theorem shL4_len : ∀ l, (shL4 l).length = l.length | [] => rfl | _ :: l => by simp [shL4, shL4_len l]
theorem shL1_small : ∀ l, Small l → Small (shL1 l)
  | [], _ => fun b hb => by simp [shL1] at hb
  | a :: l, h => fun b hb => by
    have ha := h a (List.mem_cons_self ..)
    simp only [shL1, List.mem_cons] at hb
    rcases hb with rfl | hb
    · omega
    · exact shL1_small l (fun x hx => h x (List.mem_cons_of_mem _ hx)) b hb
theorem shL2_small : ∀ l, Small l → Small (shL2 l)
  | [], _ => fun b hb => by simp [shL2] at hb
  | a :: l, h => fun b hb => by
    have ha := h a (List.mem_cons_self ..)
    simp only [shL2, List.mem_cons] at hb
    rcases hb with rfl | hb
    · omega
    · exact shL2_small l (fun x hx => h x (List.mem_cons_of_mem _ hx)) b hb
theorem shL1_and : ∀ l, Small l → (shL1 l).map (· &&& 85) = l.map fun b => (b / 2) &&& 85
  | [], _ => rfl
  | a :: l, h => by
    have ha := h a (List.mem_cons_self ..)
    simp only [shL1, List.map_cons]
    rw [shL1_and l fun x hx => h x (List.mem_cons_of_mem _ hx)]
    congr 1
    exact byte1 ⟨a, ha⟩ ⟨l.headD 0 % 2, by omega⟩
theorem shL2_and : ∀ l, Small l → (shL2 l).map (· &&& 51) = l.map fun b => (b / 4) &&& 51
  | [], _ => rfl
  | a :: l, h => by
    have ha := h a (List.mem_cons_self ..)
    simp only [shL2, List.map_cons]
    rw [shL2_and l fun x hx => h x (List.mem_cons_of_mem _ hx)]
    congr 1
    exact byte2 ⟨a, ha⟩ ⟨l.headD 0 % 4, by omega⟩
theorem step1 {l : List Nat} (h : Small l) : (byN l / 2 &&& byN (List.replicate l.length 85)) + (byN l &&& byN (List.replicate l.length 85)) = byN (l.map f1) := by
  rw [byN_sh1, byN_and (shL1_small l h) (Small.rep _ _ (by decide)) (by simp [shL1_len]), byN_and h (Small.rep _ _ (by decide)) (by simp)]
  have e := zip_rep 85 (shL1 l)
  rw [shL1_len] at e
  rw [e, zip_rep, shL1_and l h, byN_add (by simp), zip_map]
  rfl
theorem step2 {l : List Nat} (h : Small l) : (byN l / 4 &&& byN (List.replicate l.length 51)) + (byN l &&& byN (List.replicate l.length 51)) = byN (l.map f2) := by
  rw [byN_sh2, byN_and (shL2_small l h) (Small.rep _ _ (by decide)) (by simp [shL2_len]), byN_and h (Small.rep _ _ (by decide)) (by simp)]
  have e := zip_rep 51 (shL2 l)
  rw [shL2_len] at e
  rw [e, zip_rep, shL2_and l h, byN_add (by simp), zip_map]
  rfl
/-- Each half of each byte is four at most. -/
def Nib (l : List Nat) : Prop := ∀ b ∈ l, b / 16 ≤ 4 ∧ b % 16 ≤ 4
theorem nib_zip : ∀ l, Nib l → Small (List.zipWith (· + ·) (shL4 l) l) ∧ (List.zipWith (· + ·) (shL4 l) l).map (· &&& 15) = l.map f3
  | [], _ => ⟨fun b hb => by simp [shL4] at hb, rfl⟩
  | a :: l, h => by
    have ha := h a (List.mem_cons_self ..)
    obtain ⟨i1, i2⟩ := nib_zip l fun x hx => h x (List.mem_cons_of_mem _ hx)
    have hd : l.headD 0 % 16 ≤ 4 := by
      cases l with
      | nil => simp
      | cons c l => exact (h c (List.mem_cons_of_mem _ (List.mem_cons_self ..))).2
    simp only [shL4, List.zipWith_cons_cons, List.map_cons]
    refine ⟨fun b hb => ?_, ?_⟩
    · rcases List.mem_cons.1 hb with rfl | hb
      · omega
      · exact i1 b hb
    · rw [i2]
      congr 1
      have : ∀ n : Nat, n &&& 15 = n % 16 := fun n => Nat.and_two_pow_sub_one_eq_mod n 4
      rw [this]
      unfold f3
      omega
theorem step3 {l : List Nat} (h : Nib l) : (byN l / 16 + byN l) &&& byN (List.replicate l.length 15) = byN (l.map f3) := by
  obtain ⟨h1, h2⟩ := nib_zip l h
  have hl : (List.zipWith (· + ·) (shL4 l) l).length = l.length := by simp [shL4_len]
  rw [byN_sh4, byN_add (shL4_len l), byN_and h1 (Small.rep _ _ (by decide)) (by simp [shL4_len])]
  have e := zip_rep 15 (List.zipWith (· + ·) (shL4 l) l)
  rw [hl] at e
  rw [e, h2]
end Go.Proofs.YtebjigahnpjjiaaDoor
/- How many bits of a word are set: the count. No condition. -/
namespace Go.Proofs.YtebjigahnpjjiaaDoor
def P1 (X : BitVec 64) : BitVec 64 := ((X >>> 1) &&& 6148914691236517205#64) + (X &&& 6148914691236517205#64)
def P2 (X : BitVec 64) : BitVec 64 := ((X >>> 2) &&& 3689348814741910323#64) + (X &&& 3689348814741910323#64)
def P3 (X : BitVec 64) : BitVec 64 := ((X >>> 4) + X) &&& 1085102592571150095#64
def P4 (X : BitVec 64) : BitVec 64 := X + (X >>> 8)
def P5 (X : BitVec 64) : BitVec 64 := X + (X >>> 16)
def P6 (X : BitVec 64) : BitVec 64 := X + (X >>> 32)
theorem byN8 {l : List Nat} (h : Small l) (h8 : l.length = 8) : byN l < 2 ^ 64 := by
  have := byN_lt h
  rw [h8] at this
  exact this
theorem w1 {X : BitVec 64} {l : List Nat} (h : Small l) (h8 : l.length = 8) (hX : X.toNat = byN l) : (P1 X).toNat = byN (l.map f1) ∧ Small (l.map f1) := by
  have hs : Small (l.map f1) := fun b hb => by
    obtain ⟨a, ha, rfl⟩ := List.mem_map.1 hb
    exact byte1s ⟨a, h a ha⟩
  have e := step1 h
  rw [h8] at e
  have em : byN (List.replicate 8 85) = (6148914691236517205#64).toNat := by decide
  rw [em] at e
  refine ⟨?_, hs⟩
  unfold P1
  rw [BitVec.toNat_add, BitVec.toNat_and, BitVec.toNat_and, BitVec.toNat_ushiftRight, Nat.shiftRight_eq_div_pow, hX, Nat.pow_one, e]
  exact Nat.mod_eq_of_lt (byN8 hs (by simpa using h8))
theorem w2 {X : BitVec 64} {l : List Nat} (h : Small l) (h8 : l.length = 8) (hX : X.toNat = byN l) : (P2 X).toNat = byN (l.map f2) ∧ Small (l.map f2) := by
  have hs : Small (l.map f2) := fun b hb => by
    obtain ⟨a, ha, rfl⟩ := List.mem_map.1 hb
    exact byte2s ⟨a, h a ha⟩
  have e := step2 h
  rw [h8] at e
  have em : byN (List.replicate 8 51) = (3689348814741910323#64).toNat := by decide
  rw [em] at e
  refine ⟨?_, hs⟩
  unfold P2
  rw [BitVec.toNat_add, BitVec.toNat_and, BitVec.toNat_and, BitVec.toNat_ushiftRight, Nat.shiftRight_eq_div_pow, hX]
  have e4 : (2 : Nat) ^ 2 = 4 := rfl
  rw [e4, e]
  exact Nat.mod_eq_of_lt (byN8 hs (by simpa using h8))
theorem w3 {X : BitVec 64} {l : List Nat} (h : Nib l) (h8 : l.length = 8) (hX : X.toNat = byN l) : (P3 X).toNat = byN (l.map f3) := by
  obtain ⟨h1, h2⟩ := nib_zip l h
  have e := step3 h
  rw [h8] at e
  have em : byN (List.replicate 8 15) = (1085102592571150095#64).toNat := by decide
  rw [em] at e
  unfold P3
  rw [BitVec.toNat_and, BitVec.toNat_add, BitVec.toNat_ushiftRight, Nat.shiftRight_eq_div_pow, hX]
  have e4 : (2 : Nat) ^ 4 = 16 := rfl
  rw [e4, Nat.mod_eq_of_lt, e]
  rw [byN_sh4, byN_add (shL4_len l)]
  exact byN8 h1 (by simp [shL4_len, h8])
theorem drop2 (a b R : Nat) (ha : a < 256) (hb : b < 256) : (a + 256 * (b + 256 * R)) / 65536 = R := by omega
theorem drop4 (a b c d R : Nat) (ha : a < 256) (hb : b < 256) (hc : c < 256) (hd : d < 256) : (a + 256 * (b + 256 * (c + 256 * (d + 256 * R)))) / 4294967296 = R := by omega
/-- The bits of eight bytes, added up. -/
theorem w456 {X : BitVec 64} {c0 c1 c2 c3 c4 c5 c6 c7 : Nat} (h0 : c0 ≤ 8) (h1 : c1 ≤ 8) (h2 : c2 ≤ 8) (h3 : c3 ≤ 8) (h4 : c4 ≤ 8) (h5 : c5 ≤ 8) (h6 : c6 ≤ 8) (h7 : c7 ≤ 8)
    (hX : X.toNat = byN [c0, c1, c2, c3, c4, c5, c6, c7]) : (P6 (P5 (P4 X))).toNat % 128 = c0 + c1 + c2 + c3 + c4 + c5 + c6 + c7 := by
  have e4 : (P4 X).toNat = byN [c0 + c1, c1 + c2, c2 + c3, c3 + c4, c4 + c5, c5 + c6, c6 + c7, c7] := by
    unfold P4
    rw [BitVec.toNat_add, BitVec.toNat_ushiftRight, Nat.shiftRight_eq_div_pow, hX]
    simp only [byN]
    omega
  have e5 : (P5 (P4 X)).toNat = byN [c0 + c1 + c2 + c3, c1 + c2 + c3 + c4, c2 + c3 + c4 + c5, c3 + c4 + c5 + c6, c4 + c5 + c6 + c7, c5 + c6 + c7, c6 + c7, c7] := by
    unfold P5
    have k : (2 : Nat) ^ 16 = 65536 := rfl
    rw [BitVec.toNat_add, BitVec.toNat_ushiftRight, Nat.shiftRight_eq_div_pow, e4, k]
    simp only [byN]
    rw [drop2 _ _ _ (by omega) (by omega)]
    omega
  unfold P6
  have k : (2 : Nat) ^ 32 = 4294967296 := rfl
  rw [BitVec.toNat_add, BitVec.toNat_ushiftRight, Nat.shiftRight_eq_div_pow, e5, k]
  simp only [byN]
  rw [drop4 _ _ _ _ _ (by omega) (by omega) (by omega) (by omega)]
  omega
/-- How many bits of a word are set. -/
def cnt (X : BitVec 64) : Nat := pcB (X.toNat % 256) + pcB (X.toNat / 256 % 256) + pcB (X.toNat / 65536 % 256) + pcB (X.toNat / 16777216 % 256) + pcB (X.toNat / 4294967296 % 256) + pcB (X.toNat / 1099511627776 % 256) + pcB (X.toNat / 281474976710656 % 256) + pcB (X.toNat / 72057594037927936 % 256)
theorem pcB_le (b : Nat) : pcB b ≤ 8 := by unfold pcB; omega
theorem cnt_le (X : BitVec 64) : cnt X ≤ 64 := by
  unfold cnt
  have := pcB_le (X.toNat % 256)
  have := pcB_le (X.toNat / 256 % 256)
  have := pcB_le (X.toNat / 65536 % 256)
  have := pcB_le (X.toNat / 16777216 % 256)
  have := pcB_le (X.toNat / 4294967296 % 256)
  have := pcB_le (X.toNat / 1099511627776 % 256)
  have := pcB_le (X.toNat / 281474976710656 % 256)
  have := pcB_le (X.toNat / 72057594037927936 % 256)
  omega
theorem cnt_eq (X : BitVec 64) : (P6 (P5 (P4 (P3 (P2 (P1 X)))))).toNat % 128 = cnt X := by
  have h := bysOf_small 8 X.toNat
  have h8 := bysOf_len 8 X.toNat
  have hX : X.toNat = byN (bysOf 8 X.toNat) := (byN_bysOf 8 X.toNat X.isLt).symm
  obtain ⟨a1, a2⟩ := w1 h h8 hX
  obtain ⟨b1, b2⟩ := w2 a2 (by simpa using h8) a1
  have hn : Nib ((bysOf 8 X.toNat).map f1 |>.map f2) := fun b hb => by
    obtain ⟨a, ha, rfl⟩ := List.mem_map.1 hb
    obtain ⟨c, hc, rfl⟩ := List.mem_map.1 ha
    have := byte3 ⟨c, h c hc⟩
    exact ⟨this.1, this.2.1⟩
  have c1 := w3 hn (by simpa using h8) b1
  have e : (((bysOf 8 X.toNat).map f1).map f2).map f3 = (bysOf 8 X.toNat).map pcB := by
    rw [List.map_map, List.map_map]
    apply List.map_congr_left
    intro b hb
    exact (byte3 ⟨b, h b hb⟩).2.2
  rw [e] at c1
  simp only [bysOf, List.map_cons, List.map_nil] at c1
  rw [w456 (pcB_le _) (pcB_le _) (pcB_le _) (pcB_le _) (pcB_le _) (pcB_le _) (pcB_le _) (pcB_le _) c1]
  unfold cnt
  simp only [Nat.div_div_eq_div_mul]
end Go.Proofs.YtebjigahnpjjiaaDoor
/- Of runs: contracts: the count of bits, Has, Of. No condition. -/
namespace Go.Proofs.YtebjigahnpjjiaaDoor
set_option maxRecDepth 100000
def o1 (x : Int) : Int := ari .add .u64 (ari .and .u64 (ari .shr .u64 x 1) 6148914691236517205) (ari .and .u64 x 6148914691236517205)
def o2 (x : Int) : Int := ari .add .u64 (ari .and .u64 (ari .shr .u64 x 2) 3689348814741910323) (ari .and .u64 x 3689348814741910323)
def o3 (x : Int) : Int := ari .and .u64 (ari .add .u64 (ari .shr .u64 x 4) x) 1085102592571150095
def o4 (x : Int) : Int := ari .add .u64 x (ari .shr .u64 x 8)
def o5 (x : Int) : Int := ari .add .u64 x (ari .shr .u64 x 16)
def o6 (x : Int) : Int := ari .add .u64 x (ari .shr .u64 x 32)
def ocI (p : Int) : Int := ari .and .i64 (IntKind.i64.wrap (o6 (o5 (o4 (o3 (o2 (o1 p))))))) 127
theorem oc_run' (p x : Int) : (run E0 1000 0 [callFr 26 Tryd.f26.ntmps [u64S p] (Tryd.f26.body.getD .skip)] ⟨0, .nil, []⟩).vc (retOk 0 [] (i64 (.o x)) ⟨0, .nil, []⟩) (fun _ _ => False) = (x = ocI p ∧ True) := oc_run p x
theorem o1_uw (X : BitVec 64) : o1 (uw X) = uw (P1 X) := by
  unfold o1 P1
  have e : (6148914691236517205 : Int) = uw 6148914691236517205#64 := rfl
  rw [e, ari_uw_shr, ari_uw_and, ari_uw_and, ari_uw_add]
  rfl
theorem o2_uw (X : BitVec 64) : o2 (uw X) = uw (P2 X) := by
  unfold o2 P2
  have e : (3689348814741910323 : Int) = uw 3689348814741910323#64 := rfl
  rw [e, ari_uw_shr, ari_uw_and, ari_uw_and, ari_uw_add]
  rfl
theorem o3_uw (X : BitVec 64) : o3 (uw X) = uw (P3 X) := by
  unfold o3 P3
  have e : (1085102592571150095 : Int) = uw 1085102592571150095#64 := rfl
  rw [e, ari_uw_shr, ari_uw_add, ari_uw_and]
  rfl
theorem o4_uw (X : BitVec 64) : o4 (uw X) = uw (P4 X) := by
  unfold o4 P4; rw [ari_uw_shr, ari_uw_add]; rfl
theorem o5_uw (X : BitVec 64) : o5 (uw X) = uw (P5 X) := by
  unfold o5 P5; rw [ari_uw_shr, ari_uw_add]; rfl
theorem o6_uw (X : BitVec 64) : o6 (uw X) = uw (P6 X) := by
  unfold o6 P6; rw [ari_uw_shr, ari_uw_add]; rfl
theorem ofInt_wrap (n : Int) : BitVec.ofInt 64 (IntKind.i64.wrap n) = BitVec.ofInt 64 n := by
  apply BitVec.eq_of_toNat_eq
  rw [BitVec.toNat_ofInt, BitVec.toNat_ofInt]
  have h : IntKind.i64.wrap n = if n % 18446744073709551616 ≥ 9223372036854775808 then n % 18446744073709551616 - 18446744073709551616 else n % 18446744073709551616 := by
    unfold IntKind.wrap
    simp [IntKind.signed, IntKind.bits]
  rw [h]
  split <;> omega
theorem ocI_uw (X : BitVec 64) : ocI (uw X) = (cnt X : Nat) := by
  unfold ocI
  rw [o1_uw, o2_uw, o3_uw, o4_uw, o5_uw, o6_uw]
  have hc := cnt_eq X
  generalize P6 (P5 (P4 (P3 (P2 (P1 X))))) = Z at hc
  have e : ari .and .i64 (IntKind.i64.wrap (uw Z)) 127 = IntKind.i64.wrap (((Z &&& 127#64).toNat : Nat) : Int) := by
    show IntKind.i64.wrap (((BitVec.ofInt 64 (IntKind.i64.wrap (uw Z)) &&& BitVec.ofInt 64 127).toNat : Nat) : Int) = _
    rw [ofInt_wrap, ofInt_uw]
    rfl
  rw [e, BitVec.toNat_and]
  have e7 : (127#64).toNat = 2 ^ 7 - 1 := rfl
  rw [e7, Nat.and_two_pow_sub_one_eq_mod]
  have e8 : (2 : Nat) ^ 7 = 128 := rfl
  rw [e8, hc]
  have := cnt_le X
  exact Go.IntWalk.i64_in _ (by omega)
theorem oc_fn : E0.fn 26 = some Tryd.f26 := by kernel_rfl
theorem oc_body : Tryd.f26.body = some (Tryd.f26.body.getD .skip) := by kernel_rfl
theorem oc_con (p : Int) (m : SMem) : Con E0 26 [u64S p] m (needs [] (.ret (i64 (.o (ocI p))) m)) := by
  refine Con.pure E0_ok oc_fn oc_body (by kernel_rfl) (by kernel_rfl) fun _ => ?_
  exact (Good.ret [] (run_vc E0_ok 1000 (oc_run' p (ocI p)) ⟨rfl, trivial⟩ (fun s m h => h) fun _ _ h => h.elim)).mono fun _ _ h => h.1
/-- So many first pages. -/
def lowW (k : Nat) : BitVec 64 := BitVec.allOnes 64 >>> (64 - k)
theorem lowW_bit (k i : Nat) (hk : k ≤ 64) : (lowW k).getLsbD i = decide (i < k) := by
  unfold lowW
  rw [BitVec.getLsbD_ushiftRight, BitVec.getLsbD_allOnes]
  by_cases h : i < k
  · rw [decide_eq_true h, decide_eq_true (by omega)]
  · rw [decide_eq_false h, decide_eq_false (by omega)]
def clampN (p : Int) : Nat := if p < 0 then 0 else if 64 < p then 64 else p.toNat
theorem of_con (p : Int) (m : SMem) : Con E0 6 [i64 (.o p)] m (needs [] (.ret (.s (.agg (.ls [.f (.int .u64 (.o (uw (lowW (clampN p)))))]))) m)) := by
  refine Con.pure E0_ok (by kernel_rfl : E0.fn 6 = some Tryd.f6) (by kernel_rfl : Tryd.f6.body = some (Tryd.f6.body.getD .skip)) (by kernel_rfl) (by kernel_rfl) fun _ => ?_
  refine (Good.ret [] (run_vc E0_ok 1000 (of_run p (uw (lowW (clampN p)))) ?_ (fun s m h => h) fun _ _ h => h.elim)).mono fun _ _ h => h.1
  have hc : (if (64 : Int) < if (0 : Int) > p then (0 : Int) else p then (64 : Int) else if (0 : Int) > p then (0 : Int) else p) = (clampN p : Nat) := by
    unfold clampN
    split <;> split <;> first | omega | (split <;> omega)
  have hk : clampN p ≤ 64 := by unfold clampN; split <;> first | omega | (split <;> omega)
  rw [hc]
  have e64 : ari .sub .i64 64 (clampN p : Nat) = (64 - clampN p : Nat) := by
    rw [ari_sub]
    have := Go.IntWalk.i64_in (64 - (clampN p : Nat) : Int) (by omega)
    rw [this]
    omega
  rw [e64]
  have eA : (18446744073709551615 : Int) = uw (BitVec.allOnes 64) := rfl
  refine ⟨fun h => ?_, fun h => ⟨⟨by omega, trivial⟩, ?_, trivial⟩⟩
  · have h0 : clampN p = 0 := by
      have := eq_of_beq h
      omega
    rw [h0]
    exact ⟨rfl, trivial⟩
  · rw [eA, ari_uw_shr, Int.toNat_natCast]
    rfl
theorem has_con (X : BitVec 64) (p : Int) (m : SMem) : Con E0 17 [.s (.agg (.ls [.f (.int .u64 (.o (uw X)))])), i64 (.o p)] m (needs [] (.ret (sB (.o (decide (0 ≤ p) && X.getLsbD p.toNat))) m)) := by
  refine Con.pure E0_ok (by kernel_rfl : E0.fn 17 = some Tryd.f17) (by kernel_rfl : Tryd.f17.body = some (Tryd.f17.body.getD .skip)) (by kernel_rfl) (by kernel_rfl) fun _ => ?_
  refine (Good.ret [] (run_vc E0_ok 1000 (has_run (uw X) p (decide (0 ≤ p) && X.getLsbD p.toNat)) ?_ (fun s m h => h) fun _ _ h => h.elim)).mono fun _ _ h => h.1
  have hb : (ari .and .u64 (ari .shr .u64 (uw X) p) 1 == (1 : Int)) = X.getLsbD p.toNat := by
    have e1 : (1 : Int) = uw 1#64 := rfl
    rw [e1, ari_uw_shr, ari_uw_and, Bool.eq_iff_iff, beq_iff_eq, uw_inj]
    constructor
    · intro h
      have := congrArg (BitVec.getLsbD · 0) h
      simpa using this
    · intro h
      apply BitVec.eq_of_getLsbD_eq
      intro i hi
      rw [BitVec.getLsbD_and, BitVec.getLsbD_ushiftRight]
      by_cases h0 : i = 0
      · subst h0; simp [h]
      · have : (1#64).getLsbD i = false := by
          rw [BitVec.getLsbD_one]; simp [h0]
        rw [this]; simp
  rw [hb]
  refine ⟨fun h1 => ⟨fun h2 => ?_, fun h2 => ?_⟩, fun h1 => ?_⟩
  · have h1 : 0 ≤ p := by simpa using h1
    refine ⟨⟨h1, trivial⟩, ?_, trivial⟩
    rw [decide_eq_true h1, Bool.true_and]
  · have h1 : 0 ≤ p := by simpa using h1
    have h2 : ¬ p < 64 := by simpa using h2
    rw [BitVec.getLsbD_of_ge _ _ (by omega)]
    simp
  · have h1 : ¬ 0 ≤ p := by simpa using h1
    rw [decide_eq_false h1]
    exact ⟨rfl, trivial⟩
end Go.Proofs.YtebjigahnpjjiaaDoor
/- Of runs: the environment of its functions. No condition. -/
namespace Go.Proofs.YtebjigahnpjjiaaDoor
theorem has_con' (mk p : Int) (m : SMem) : Con E0 17 [.s (.agg (.ls [.f (.int .u64 (.o mk))])), i64 (.o p)] m (needs [uw (BitVec.ofInt 64 mk) = mk] (.ret (sB (.o (decide (0 ≤ p) && (BitVec.ofInt 64 mk).getLsbD p.toNat))) m)) := by
  intro A hs
  obtain ⟨hq, hA⟩ := Tree.sat_needs hs
  have hp : uw (BitVec.ofInt 64 mk) = mk := hq _ (by simp)
  have h := has_con (BitVec.ofInt 64 mk) p m
  rw [hp] at h
  exact h A hA
def conC (g : FuncId) (l : List SV) (m : SMem) : Option Tree :=
  match g, l with
  | 5, [] => some (.ret (sB (.l true)) m)
  | 19, [.s (.c (.f (.int .i64 (.o p)))), .s (.c (.f (.int .i64 (.o n))))] => some (.ret (sB (.o (mayB p n))) m)
  | 22, [.s (.c (.f (.int .i64 (.o p)))), .s (.c (.f (.int .i64 (.o n))))] => some (.need [0 ≤ IntKind.i64.wrap (64 - n), 0 ≤ p] (.ret (.s (.c (.f (.int .u64 (.o (spanI p n)))))) m))
  | 29, [.s (.c (.f (.int .u64 (.o p))))] => some (.need [uw (BitVec.ofInt 64 p) = p] (.ret (i64 (.o (tzI p))) m))
  | 26, [.s (.c (.f (.int .u64 (.o p))))] => some (.ret (i64 (.o (ocI p))) m)
  | _, _ => none
theorem conC_ok : ∀ g l m t, conC g l m = some t → Con E0 g l m t := by
  intro g l m t h
  unfold conC at h
  split at h
  · cases h; exact wakes_con m
  · cases h; exact may_con _ _ m
  · cases h; exact span_con _ _ m
  · cases h; exact tz_con _ m
  · cases h; exact oc_con _ m
  · cases h
/-- One stops at the loop of each. -/
noncomputable def EC : Env := ⟨Tryd.prog, fnOf, conC, fun _ f x => Nat.beq f 28 && isLoop x⟩
theorem EC_ok : EnvOk EC := EnvOk.with E0_ok _ _ conC_ok
end Go.Proofs.YtebjigahnpjjiaaDoor
/- Of runs: the loop of each below Give, Take, Find and All: its states. No condition. -/
namespace Go.Proofs.YtebjigahnpjjiaaDoor
noncomputable section
/-- What a run stops at, when no test is met. -/
def Tree.fsE : Tree → List SFr
  | .stop fs _ => fs
  | .need _ t => t.fsE
  | .br _ t e => match t.fsE with
    | [] => e.fsE
    | l => l
  | _ => []
def Tree.memE : Tree → SMem
  | .stop _ m => m
  | .need _ t => t.memE
  | .br _ t e => match t.fsE with
    | [] => e.memE
    | _ => t.memE
  | _ => ⟨0, .nil, []⟩
/-- The first frame with a slot set. -/
def setTop (d : Nat) (v : SV) : List SFr → List SFr
  | ⟨fn, tm, td, dfs, md, kind, rnd⟩ :: cs => ⟨fn, tm.set d (some v), td, dfs, md, kind, rnd⟩ :: cs
  | [] => []
/-- What is left to do in a frame. -/
def tdAt (k : Nat) (l : List SFr) : List SIt := match nth l k with
  | some f => f.todo
  | none => []
def loopAt (k : Nat) (m : SMem) : Option LoopP := match nth m.xs k with
  | some ⟨_, .loop st pe fn _ ps ag bd _⟩ => some ⟨st, pe, fn, ps, ag, bd⟩
  | _ => none
def getLp (o : Option LoopP) : LoopP := match o with
  | some l => l
  | none => ⟨.ready, none, 0, #[], .skip, .skip⟩
def setIs (x : Int) : SV := .s (.agg (.ls [.f (.int .u64 (.o x))]))
/-- What was never told is left out. -/
def Tm.bare : Tm → Tm
  | ⟨n, _, t⟩ => ⟨n, none, t⟩
def SFr.bare : SFr → SFr
  | ⟨fn, tm, td, dfs, md, kind, rnd⟩ => ⟨fn, tm.bare, td, dfs, md, kind, rnd⟩
def XB.bare : XB → XB
  | ⟨id, .loop st pe fn tm ps ag bd dl⟩ => ⟨id, .loop st pe fn tm.bare ps ag bd dl⟩
  | b => b
def SMem.bare : SMem → SMem
  | ⟨n, bl, xs⟩ => ⟨n, bl, xs.map XB.bare⟩
def idπ : Nat → List (Nat × Nat)
  | 0 => []
  | k + 1 => idπ k ++ [(k, k)]
def svInt : Option SV → Option Int
  | some (.s (.c (.f (.int _ x)))) => some x.den
  | _ => none
def topInt (d : Nat) : List SFr → Option Int
  | f :: _ => svInt (f.tm.get d)
  | [] => none
def opR (c : List SFr) : Tree := run EC 1000 0 c ⟨0, .nil, []⟩
def opF (c : List SFr) (left : Int) : List SFr := setTop 3 (u64S left) ((opR c).fsE.map SFr.bare)
def opM (c : List SFr) : SMem := (opR c).memE.bare
def opH (c : List SFr) (left : Int) : List SFr := headF (opF c left)
def opS (c : List SFr) (left : Int) : Tree := stepT EC.go (run EC 1000) 0 (opH c left) (opM c)
/-- The next round's state, as it is come to: what is left is so. -/
def opN0 (c : List SFr) (Q : Int → Prop) (fs : List SFr) (m : SMem) : Prop :=
  match topInt 3 fs with
  | some left => Q left ∧ subOk 0 (idπ (opM c).next) (opF c left) (opM c) fs m
  | none => False
def opN (c : List SFr) (Q : Int → Prop) (fs : List SFr) (m : SMem) : Prop :=
  match topInt 3 fs with
  | some left => Q left ∧ subOk 0 (idπ (opM c).next) (opH c left) (opM c) fs m
  | none => False
def giveC (x p n : Int) : List SFr := [callFr 9 Tryd.f9.ntmps [setIs x, i64 (.o p), i64 (.o n)] (Tryd.f9.body.getD .skip)]
def takeC (x p n : Int) : List SFr := [callFr 10 Tryd.f10.ntmps [setIs x, i64 (.o p), i64 (.o n)] (Tryd.f10.body.getD .skip)]
def findC (x n : Int) : List SFr := [callFr 12 Tryd.f12.ntmps [setIs x, i64 (.o n)] (Tryd.f12.body.getD .skip)]
def giveT0 : List SIt := tdAt 0 (opF (giveC 0 0 0) 0)
def giveH0 : List SIt := tdAt 0 (opH (giveC 0 0 0) 0)
def giveT1 : List SIt := tdAt 1 (opF (giveC 0 0 0) 0)
def giveH1 : List SIt := tdAt 1 (opH (giveC 0 0 0) 0)
def giveT2 : List SIt := tdAt 2 (opF (giveC 0 0 0) 0)
def giveH2 : List SIt := tdAt 2 (opH (giveC 0 0 0) 0)
def takeT0 : List SIt := tdAt 0 (opF (takeC 0 0 0) 0)
def takeH0 : List SIt := tdAt 0 (opH (takeC 0 0 0) 0)
def takeT1 : List SIt := tdAt 1 (opF (takeC 0 0 0) 0)
def takeH1 : List SIt := tdAt 1 (opH (takeC 0 0 0) 0)
def takeT2 : List SIt := tdAt 2 (opF (takeC 0 0 0) 0)
def takeH2 : List SIt := tdAt 2 (opH (takeC 0 0 0) 0)
def findT0 : List SIt := tdAt 0 (opF (findC 0 0) 0)
def findH0 : List SIt := tdAt 0 (opH (findC 0 0) 0)
def findT1 : List SIt := tdAt 1 (opF (findC 0 0) 0)
def findH1 : List SIt := tdAt 1 (opH (findC 0 0) 0)
def findT2 : List SIt := tdAt 2 (opF (findC 0 0) 0)
def findH2 : List SIt := tdAt 2 (opH (findC 0 0) 0)
def giveLp : LoopP := getLp (loopAt 0 (opM (giveC 0 0 0)))
def takeLp : LoopP := getLp (loopAt 0 (opM (takeC 0 0 0)))
def findLp : LoopP := getLp (loopAt 0 (opM (findC 0 0)))
def setB (x : Int) (b : Bool) : SV := .tup [.agg (.ls [.f (.int .u64 (.o x))]), .c (.f (.bool (.o b)))]
def intB (x : Int) (b : Bool) : SV := .tup [.c (.f (.int .i64 (.o x))), .c (.f (.bool (.o b)))]
def opA (v : SV) : SV → SMem → Prop := retOk 0 [] v ⟨0, .nil, []⟩
end
end Go.Proofs.YtebjigahnpjjiaaDoor
/- Of runs: the loop of each below Give, Take and Find, as propositions. No condition. -/
namespace Go.Proofs.YtebjigahnpjjiaaDoor
set_option maxRecDepth 100000
theorem give_start (x p n y : Int) (b : Bool) (Q : Int → Prop) : (opR (giveC x p n)).vc (opA (setB y b)) (opN0 (giveC x p n) Q) =
    (((!mayB p n) = true → y = x ∧ b = false ∧ True) ∧ ((!mayB p n) = false → Q x ∧ CallKind.normal = CallKind.normal ∧ TodoOk (ren 0 [(0, 0), (1, 1), (2, 2), (3, 3), (4, 4), (5, 5), (6, 6), (7, 7), (8, 8), (9, 9)]) giveT0 giveT0 ∧ x = x ∧ x = x ∧ CallKind.normal = CallKind.normal ∧ TodoOk (ren 0 [(0, 0), (1, 1), (2, 2), (3, 3), (4, 4), (5, 5), (6, 6), (7, 7), (8, 8), (9, 9)]) giveT1 giveT1 ∧ x = x ∧ Fn.func (21 : Nat) = Fn.func (21 : Nat) ∧ Fn.func (28 : Nat) = Fn.func (28 : Nat) ∧ x = x ∧ CallKind.normal = CallKind.normal ∧ TodoOk (ren 0 [(0, 0), (1, 1), (2, 2), (3, 3), (4, 4), (5, 5), (6, 6), (7, 7), (8, 8), (9, 9)]) giveT2 giveT2 ∧ x = x ∧ p = p ∧ Fn.func (21 : Nat) = Fn.func (21 : Nat) ∧ mayB p n = mayB p n ∧ p = p ∧ n = n ∧ n = n ∧ x = x ∧ (26 : Nat) = (26 : Nat) ∧ x = x ∧ (3 : Nat) = (3 : Nat) ∧ p = p ∧ (26 : Nat) = (26 : Nat) ∧ (26 : Nat) = (26 : Nat) ∧ x = x ∧ (54 : Nat) = (54 : Nat) ∧ Fn.func (21 : Nat) = Fn.func (21 : Nat) ∧ (3 : Nat) = (3 : Nat) ∧ n = n ∧ (26 : Nat) = (26 : Nat) ∧ x = x ∧ (50 : Nat) = (50 : Nat) ∧ EqL giveLp giveLp ∧ x = x ∧ Fn.func (21 : Nat) = Fn.func (21 : Nat) ∧ Fn.func (28 : Nat) = Fn.func (28 : Nat) ∧ x = x ∧ True)) := by kernel_rfl
theorem give_step (x p n left y : Int) (b : Bool) (Q : Int → Prop) : (opS (giveC x p n) left).vc (opA (setB y b)) (opN (giveC x p n) Q) =
    (((left != (0 : Int)) = true → (uw (BitVec.ofInt (64 : Nat) left) = left ∧ True) ∧ ((0 : Int) ≤ tzI left ∧ True) ∧ (uw (BitVec.ofInt (64 : Nat) (ari BinOp.xor IntKind.u64 (18446744073709551615 : Int) (ari BinOp.shr IntKind.u64 left (tzI left)))) = ari BinOp.xor IntKind.u64 (18446744073709551615 : Int) (ari BinOp.shr IntKind.u64 left (tzI left)) ∧ True) ∧ ((decide (tzI left < ari BinOp.add IntKind.i64 p n) == true) = true → (decide (p < ari BinOp.add IntKind.i64 (tzI left) (tzI (ari BinOp.xor IntKind.u64 (18446744073709551615 : Int) (ari BinOp.shr IntKind.u64 left (tzI left))))) = true → ((!(tzI left == (0 : Int) && tzI (ari BinOp.xor IntKind.u64 (18446744073709551615 : Int) (ari BinOp.shr IntKind.u64 left (tzI left))) == (0 : Int))) = true → y = x ∧ b = false ∧ True) ∧ ((!(tzI left == (0 : Int) && tzI (ari BinOp.xor IntKind.u64 (18446744073709551615 : Int) (ari BinOp.shr IntKind.u64 left (tzI left))) == (0 : Int))) = false → ((0 : Int) ≤ IntKind.wrap IntKind.i64 ((64 : Int) - n) ∧ (0 : Int) ≤ p ∧ True) ∧ y = ari BinOp.or IntKind.u64 x (spanI p n) ∧ b = true ∧ True)) ∧ (decide (p < ari BinOp.add IntKind.i64 (tzI left) (tzI (ari BinOp.xor IntKind.u64 (18446744073709551615 : Int) (ari BinOp.shr IntKind.u64 left (tzI left))))) = false → ((0 : Int) ≤ IntKind.wrap IntKind.i64 ((64 : Int) - tzI (ari BinOp.xor IntKind.u64 (18446744073709551615 : Int) (ari BinOp.shr IntKind.u64 left (tzI left)))) ∧ (0 : Int) ≤ tzI left ∧ True) ∧ Q (ari BinOp.andNot IntKind.u64 left (spanI (tzI left) (tzI (ari BinOp.xor IntKind.u64 (18446744073709551615 : Int) (ari BinOp.shr IntKind.u64 left (tzI left)))))) ∧ CallKind.normal = CallKind.normal ∧ TodoOk (ren 0 [(0, 0), (1, 1), (2, 2), (3, 3), (4, 4), (5, 5), (6, 6), (7, 7), (8, 8), (9, 9)]) giveH0 giveH0 ∧ ari BinOp.andNot IntKind.u64 left (spanI (tzI left) (tzI (ari BinOp.xor IntKind.u64 (18446744073709551615 : Int) (ari BinOp.shr IntKind.u64 left (tzI left))))) = ari BinOp.andNot IntKind.u64 left (spanI (tzI left) (tzI (ari BinOp.xor IntKind.u64 (18446744073709551615 : Int) (ari BinOp.shr IntKind.u64 left (tzI left))))) ∧ x = x ∧ CallKind.normal = CallKind.normal ∧ TodoOk (ren 0 [(0, 0), (1, 1), (2, 2), (3, 3), (4, 4), (5, 5), (6, 6), (7, 7), (8, 8), (9, 9)]) giveH1 giveH1 ∧ x = x ∧ Fn.func (21 : Nat) = Fn.func (21 : Nat) ∧ Fn.func (28 : Nat) = Fn.func (28 : Nat) ∧ x = x ∧ CallKind.normal = CallKind.normal ∧ TodoOk (ren 0 [(0, 0), (1, 1), (2, 2), (3, 3), (4, 4), (5, 5), (6, 6), (7, 7), (8, 8), (9, 9)]) giveH2 giveH2 ∧ x = x ∧ p = p ∧ Fn.func (21 : Nat) = Fn.func (21 : Nat) ∧ mayB p n = mayB p n ∧ p = p ∧ n = n ∧ n = n ∧ x = x ∧ (26 : Nat) = (26 : Nat) ∧ x = x ∧ (3 : Nat) = (3 : Nat) ∧ p = p ∧ (26 : Nat) = (26 : Nat) ∧ (26 : Nat) = (26 : Nat) ∧ x = x ∧ (54 : Nat) = (54 : Nat) ∧ Fn.func (21 : Nat) = Fn.func (21 : Nat) ∧ (3 : Nat) = (3 : Nat) ∧ n = n ∧ (26 : Nat) = (26 : Nat) ∧ x = x ∧ (50 : Nat) = (50 : Nat) ∧ EqL giveLp giveLp ∧ x = x ∧ Fn.func (21 : Nat) = Fn.func (21 : Nat) ∧ Fn.func (28 : Nat) = Fn.func (28 : Nat) ∧ x = x ∧ True)) ∧ ((decide (tzI left < ari BinOp.add IntKind.i64 p n) == true) = false → ((0 : Int) ≤ IntKind.wrap IntKind.i64 ((64 : Int) - tzI (ari BinOp.xor IntKind.u64 (18446744073709551615 : Int) (ari BinOp.shr IntKind.u64 left (tzI left)))) ∧ (0 : Int) ≤ tzI left ∧ True) ∧ Q (ari BinOp.andNot IntKind.u64 left (spanI (tzI left) (tzI (ari BinOp.xor IntKind.u64 (18446744073709551615 : Int) (ari BinOp.shr IntKind.u64 left (tzI left)))))) ∧ CallKind.normal = CallKind.normal ∧ TodoOk (ren 0 [(0, 0), (1, 1), (2, 2), (3, 3), (4, 4), (5, 5), (6, 6), (7, 7), (8, 8), (9, 9)]) giveH0 giveH0 ∧ ari BinOp.andNot IntKind.u64 left (spanI (tzI left) (tzI (ari BinOp.xor IntKind.u64 (18446744073709551615 : Int) (ari BinOp.shr IntKind.u64 left (tzI left))))) = ari BinOp.andNot IntKind.u64 left (spanI (tzI left) (tzI (ari BinOp.xor IntKind.u64 (18446744073709551615 : Int) (ari BinOp.shr IntKind.u64 left (tzI left))))) ∧ x = x ∧ CallKind.normal = CallKind.normal ∧ TodoOk (ren 0 [(0, 0), (1, 1), (2, 2), (3, 3), (4, 4), (5, 5), (6, 6), (7, 7), (8, 8), (9, 9)]) giveH1 giveH1 ∧ x = x ∧ Fn.func (21 : Nat) = Fn.func (21 : Nat) ∧ Fn.func (28 : Nat) = Fn.func (28 : Nat) ∧ x = x ∧ CallKind.normal = CallKind.normal ∧ TodoOk (ren 0 [(0, 0), (1, 1), (2, 2), (3, 3), (4, 4), (5, 5), (6, 6), (7, 7), (8, 8), (9, 9)]) giveH2 giveH2 ∧ x = x ∧ p = p ∧ Fn.func (21 : Nat) = Fn.func (21 : Nat) ∧ mayB p n = mayB p n ∧ p = p ∧ n = n ∧ n = n ∧ x = x ∧ (26 : Nat) = (26 : Nat) ∧ x = x ∧ (3 : Nat) = (3 : Nat) ∧ p = p ∧ (26 : Nat) = (26 : Nat) ∧ (26 : Nat) = (26 : Nat) ∧ x = x ∧ (54 : Nat) = (54 : Nat) ∧ Fn.func (21 : Nat) = Fn.func (21 : Nat) ∧ (3 : Nat) = (3 : Nat) ∧ n = n ∧ (26 : Nat) = (26 : Nat) ∧ x = x ∧ (50 : Nat) = (50 : Nat) ∧ EqL giveLp giveLp ∧ x = x ∧ Fn.func (21 : Nat) = Fn.func (21 : Nat) ∧ Fn.func (28 : Nat) = Fn.func (28 : Nat) ∧ x = x ∧ True)) ∧ ((left != (0 : Int)) = false → ((0 : Int) ≤ IntKind.wrap IntKind.i64 ((64 : Int) - n) ∧ (0 : Int) ≤ p ∧ True) ∧ y = ari BinOp.or IntKind.u64 x (spanI p n) ∧ b = true ∧ True)) := by kernel_rfl
theorem take_start (x p n y : Int) (b : Bool) (Q : Int → Prop) : (opR (takeC x p n)).vc (opA (setB y b)) (opN0 (takeC x p n) Q) =
    (((!mayB p n) = true → y = x ∧ b = false ∧ True) ∧ ((!mayB p n) = false → Q x ∧ CallKind.normal = CallKind.normal ∧ TodoOk (ren 0 [(0, 0), (1, 1), (2, 2), (3, 3), (4, 4), (5, 5), (6, 6), (7, 7), (8, 8), (9, 9)]) takeT0 takeT0 ∧ x = x ∧ x = x ∧ CallKind.normal = CallKind.normal ∧ TodoOk (ren 0 [(0, 0), (1, 1), (2, 2), (3, 3), (4, 4), (5, 5), (6, 6), (7, 7), (8, 8), (9, 9)]) takeT1 takeT1 ∧ x = x ∧ Fn.func (23 : Nat) = Fn.func (23 : Nat) ∧ Fn.func (28 : Nat) = Fn.func (28 : Nat) ∧ x = x ∧ CallKind.normal = CallKind.normal ∧ TodoOk (ren 0 [(0, 0), (1, 1), (2, 2), (3, 3), (4, 4), (5, 5), (6, 6), (7, 7), (8, 8), (9, 9)]) takeT2 takeT2 ∧ x = x ∧ p = p ∧ Fn.func (23 : Nat) = Fn.func (23 : Nat) ∧ mayB p n = mayB p n ∧ p = p ∧ n = n ∧ n = n ∧ x = x ∧ (26 : Nat) = (26 : Nat) ∧ x = x ∧ (3 : Nat) = (3 : Nat) ∧ p = p ∧ (26 : Nat) = (26 : Nat) ∧ (26 : Nat) = (26 : Nat) ∧ x = x ∧ (54 : Nat) = (54 : Nat) ∧ Fn.func (23 : Nat) = Fn.func (23 : Nat) ∧ (3 : Nat) = (3 : Nat) ∧ n = n ∧ (26 : Nat) = (26 : Nat) ∧ x = x ∧ (50 : Nat) = (50 : Nat) ∧ EqL takeLp takeLp ∧ x = x ∧ Fn.func (23 : Nat) = Fn.func (23 : Nat) ∧ Fn.func (28 : Nat) = Fn.func (28 : Nat) ∧ x = x ∧ True)) := by kernel_rfl
theorem take_step (x p n left y : Int) (b : Bool) (Q : Int → Prop) : (opS (takeC x p n) left).vc (opA (setB y b)) (opN (takeC x p n) Q) =
    (((left != (0 : Int)) = true → (uw (BitVec.ofInt (64 : Nat) left) = left ∧ True) ∧ ((0 : Int) ≤ tzI left ∧ True) ∧ (uw (BitVec.ofInt (64 : Nat) (ari BinOp.xor IntKind.u64 (18446744073709551615 : Int) (ari BinOp.shr IntKind.u64 left (tzI left)))) = ari BinOp.xor IntKind.u64 (18446744073709551615 : Int) (ari BinOp.shr IntKind.u64 left (tzI left)) ∧ True) ∧ ((decide (tzI left ≤ p) == true) = true → (decide (ari BinOp.add IntKind.i64 p n ≤ ari BinOp.add IntKind.i64 (tzI left) (tzI (ari BinOp.xor IntKind.u64 (18446744073709551615 : Int) (ari BinOp.shr IntKind.u64 left (tzI left))))) = true → ((tzI left == (0 : Int) && tzI (ari BinOp.xor IntKind.u64 (18446744073709551615 : Int) (ari BinOp.shr IntKind.u64 left (tzI left))) == (0 : Int)) = true → y = x ∧ b = false ∧ True) ∧ ((tzI left == (0 : Int) && tzI (ari BinOp.xor IntKind.u64 (18446744073709551615 : Int) (ari BinOp.shr IntKind.u64 left (tzI left))) == (0 : Int)) = false → ((0 : Int) ≤ IntKind.wrap IntKind.i64 ((64 : Int) - n) ∧ (0 : Int) ≤ p ∧ True) ∧ y = ari BinOp.andNot IntKind.u64 x (spanI p n) ∧ b = true ∧ True)) ∧ (decide (ari BinOp.add IntKind.i64 p n ≤ ari BinOp.add IntKind.i64 (tzI left) (tzI (ari BinOp.xor IntKind.u64 (18446744073709551615 : Int) (ari BinOp.shr IntKind.u64 left (tzI left))))) = false → ((0 : Int) ≤ IntKind.wrap IntKind.i64 ((64 : Int) - tzI (ari BinOp.xor IntKind.u64 (18446744073709551615 : Int) (ari BinOp.shr IntKind.u64 left (tzI left)))) ∧ (0 : Int) ≤ tzI left ∧ True) ∧ Q (ari BinOp.andNot IntKind.u64 left (spanI (tzI left) (tzI (ari BinOp.xor IntKind.u64 (18446744073709551615 : Int) (ari BinOp.shr IntKind.u64 left (tzI left)))))) ∧ CallKind.normal = CallKind.normal ∧ TodoOk (ren 0 [(0, 0), (1, 1), (2, 2), (3, 3), (4, 4), (5, 5), (6, 6), (7, 7), (8, 8), (9, 9)]) takeH0 takeH0 ∧ ari BinOp.andNot IntKind.u64 left (spanI (tzI left) (tzI (ari BinOp.xor IntKind.u64 (18446744073709551615 : Int) (ari BinOp.shr IntKind.u64 left (tzI left))))) = ari BinOp.andNot IntKind.u64 left (spanI (tzI left) (tzI (ari BinOp.xor IntKind.u64 (18446744073709551615 : Int) (ari BinOp.shr IntKind.u64 left (tzI left))))) ∧ x = x ∧ CallKind.normal = CallKind.normal ∧ TodoOk (ren 0 [(0, 0), (1, 1), (2, 2), (3, 3), (4, 4), (5, 5), (6, 6), (7, 7), (8, 8), (9, 9)]) takeH1 takeH1 ∧ x = x ∧ Fn.func (23 : Nat) = Fn.func (23 : Nat) ∧ Fn.func (28 : Nat) = Fn.func (28 : Nat) ∧ x = x ∧ CallKind.normal = CallKind.normal ∧ TodoOk (ren 0 [(0, 0), (1, 1), (2, 2), (3, 3), (4, 4), (5, 5), (6, 6), (7, 7), (8, 8), (9, 9)]) takeH2 takeH2 ∧ x = x ∧ p = p ∧ Fn.func (23 : Nat) = Fn.func (23 : Nat) ∧ mayB p n = mayB p n ∧ p = p ∧ n = n ∧ n = n ∧ x = x ∧ (26 : Nat) = (26 : Nat) ∧ x = x ∧ (3 : Nat) = (3 : Nat) ∧ p = p ∧ (26 : Nat) = (26 : Nat) ∧ (26 : Nat) = (26 : Nat) ∧ x = x ∧ (54 : Nat) = (54 : Nat) ∧ Fn.func (23 : Nat) = Fn.func (23 : Nat) ∧ (3 : Nat) = (3 : Nat) ∧ n = n ∧ (26 : Nat) = (26 : Nat) ∧ x = x ∧ (50 : Nat) = (50 : Nat) ∧ EqL takeLp takeLp ∧ x = x ∧ Fn.func (23 : Nat) = Fn.func (23 : Nat) ∧ Fn.func (28 : Nat) = Fn.func (28 : Nat) ∧ x = x ∧ True)) ∧ ((decide (tzI left ≤ p) == true) = false → ((0 : Int) ≤ IntKind.wrap IntKind.i64 ((64 : Int) - tzI (ari BinOp.xor IntKind.u64 (18446744073709551615 : Int) (ari BinOp.shr IntKind.u64 left (tzI left)))) ∧ (0 : Int) ≤ tzI left ∧ True) ∧ Q (ari BinOp.andNot IntKind.u64 left (spanI (tzI left) (tzI (ari BinOp.xor IntKind.u64 (18446744073709551615 : Int) (ari BinOp.shr IntKind.u64 left (tzI left)))))) ∧ CallKind.normal = CallKind.normal ∧ TodoOk (ren 0 [(0, 0), (1, 1), (2, 2), (3, 3), (4, 4), (5, 5), (6, 6), (7, 7), (8, 8), (9, 9)]) takeH0 takeH0 ∧ ari BinOp.andNot IntKind.u64 left (spanI (tzI left) (tzI (ari BinOp.xor IntKind.u64 (18446744073709551615 : Int) (ari BinOp.shr IntKind.u64 left (tzI left))))) = ari BinOp.andNot IntKind.u64 left (spanI (tzI left) (tzI (ari BinOp.xor IntKind.u64 (18446744073709551615 : Int) (ari BinOp.shr IntKind.u64 left (tzI left))))) ∧ x = x ∧ CallKind.normal = CallKind.normal ∧ TodoOk (ren 0 [(0, 0), (1, 1), (2, 2), (3, 3), (4, 4), (5, 5), (6, 6), (7, 7), (8, 8), (9, 9)]) takeH1 takeH1 ∧ x = x ∧ Fn.func (23 : Nat) = Fn.func (23 : Nat) ∧ Fn.func (28 : Nat) = Fn.func (28 : Nat) ∧ x = x ∧ CallKind.normal = CallKind.normal ∧ TodoOk (ren 0 [(0, 0), (1, 1), (2, 2), (3, 3), (4, 4), (5, 5), (6, 6), (7, 7), (8, 8), (9, 9)]) takeH2 takeH2 ∧ x = x ∧ p = p ∧ Fn.func (23 : Nat) = Fn.func (23 : Nat) ∧ mayB p n = mayB p n ∧ p = p ∧ n = n ∧ n = n ∧ x = x ∧ (26 : Nat) = (26 : Nat) ∧ x = x ∧ (3 : Nat) = (3 : Nat) ∧ p = p ∧ (26 : Nat) = (26 : Nat) ∧ (26 : Nat) = (26 : Nat) ∧ x = x ∧ (54 : Nat) = (54 : Nat) ∧ Fn.func (23 : Nat) = Fn.func (23 : Nat) ∧ (3 : Nat) = (3 : Nat) ∧ n = n ∧ (26 : Nat) = (26 : Nat) ∧ x = x ∧ (50 : Nat) = (50 : Nat) ∧ EqL takeLp takeLp ∧ x = x ∧ Fn.func (23 : Nat) = Fn.func (23 : Nat) ∧ Fn.func (28 : Nat) = Fn.func (28 : Nat) ∧ x = x ∧ True)) ∧ ((left != (0 : Int)) = false → y = x ∧ b = false ∧ True)) := by kernel_rfl
theorem find_start (x n y : Int) (b : Bool) (Q : Int → Prop) : (opR (findC x n)).vc (opA (intB y b)) (opN0 (findC x n) Q) =
    ((decide (n < (1 : Int)) = true → y = (0 : Int) ∧ b = false ∧ True) ∧ (decide (n < (1 : Int)) = false → Q x ∧ CallKind.normal = CallKind.normal ∧ TodoOk (ren 0 [(0, 0), (1, 1), (2, 2), (3, 3), (4, 4), (5, 5), (6, 6), (7, 7)]) findT0 findT0 ∧ x = x ∧ x = x ∧ CallKind.normal = CallKind.normal ∧ TodoOk (ren 0 [(0, 0), (1, 1), (2, 2), (3, 3), (4, 4), (5, 5), (6, 6), (7, 7)]) findT1 findT1 ∧ x = x ∧ Fn.func (24 : Nat) = Fn.func (24 : Nat) ∧ Fn.func (28 : Nat) = Fn.func (28 : Nat) ∧ x = x ∧ CallKind.normal = CallKind.normal ∧ TodoOk (ren 0 [(0, 0), (1, 1), (2, 2), (3, 3), (4, 4), (5, 5), (6, 6), (7, 7)]) findT2 findT2 ∧ x = x ∧ n = n ∧ n = n ∧ x = x ∧ Fn.func (24 : Nat) = Fn.func (24 : Nat) ∧ (26 : Nat) = (26 : Nat) ∧ x = x ∧ (3 : Nat) = (3 : Nat) ∧ n = n ∧ (54 : Nat) = (54 : Nat) ∧ Fn.func (24 : Nat) = Fn.func (24 : Nat) ∧ (26 : Nat) = (26 : Nat) ∧ x = x ∧ (26 : Nat) = (26 : Nat) ∧ x = x ∧ (50 : Nat) = (50 : Nat) ∧ EqL findLp findLp ∧ x = x ∧ Fn.func (24 : Nat) = Fn.func (24 : Nat) ∧ Fn.func (28 : Nat) = Fn.func (28 : Nat) ∧ x = x ∧ True)) := by kernel_rfl
theorem find_step (x n left y : Int) (b : Bool) (Q : Int → Prop) : (opS (findC x n) left).vc (opA (intB y b)) (opN (findC x n) Q) =
    (((left != (0 : Int)) = true → (uw (BitVec.ofInt (64 : Nat) left) = left ∧ True) ∧ ((0 : Int) ≤ tzI left ∧ True) ∧ (uw (BitVec.ofInt (64 : Nat) (ari BinOp.xor IntKind.u64 (18446744073709551615 : Int) (ari BinOp.shr IntKind.u64 left (tzI left)))) = ari BinOp.xor IntKind.u64 (18446744073709551615 : Int) (ari BinOp.shr IntKind.u64 left (tzI left)) ∧ True) ∧ (decide (tzI (ari BinOp.xor IntKind.u64 (18446744073709551615 : Int) (ari BinOp.shr IntKind.u64 left (tzI left))) ≥ n) = true → y = tzI left ∧ b = !(tzI left == (0 : Int) && tzI (ari BinOp.xor IntKind.u64 (18446744073709551615 : Int) (ari BinOp.shr IntKind.u64 left (tzI left))) == (0 : Int)) ∧ True) ∧ (decide (tzI (ari BinOp.xor IntKind.u64 (18446744073709551615 : Int) (ari BinOp.shr IntKind.u64 left (tzI left))) ≥ n) = false → ((0 : Int) ≤ IntKind.wrap IntKind.i64 ((64 : Int) - tzI (ari BinOp.xor IntKind.u64 (18446744073709551615 : Int) (ari BinOp.shr IntKind.u64 left (tzI left)))) ∧ (0 : Int) ≤ tzI left ∧ True) ∧ Q (ari BinOp.andNot IntKind.u64 left (spanI (tzI left) (tzI (ari BinOp.xor IntKind.u64 (18446744073709551615 : Int) (ari BinOp.shr IntKind.u64 left (tzI left)))))) ∧ CallKind.normal = CallKind.normal ∧ TodoOk (ren 0 [(0, 0), (1, 1), (2, 2), (3, 3), (4, 4), (5, 5), (6, 6), (7, 7)]) findH0 findH0 ∧ ari BinOp.andNot IntKind.u64 left (spanI (tzI left) (tzI (ari BinOp.xor IntKind.u64 (18446744073709551615 : Int) (ari BinOp.shr IntKind.u64 left (tzI left))))) = ari BinOp.andNot IntKind.u64 left (spanI (tzI left) (tzI (ari BinOp.xor IntKind.u64 (18446744073709551615 : Int) (ari BinOp.shr IntKind.u64 left (tzI left))))) ∧ x = x ∧ CallKind.normal = CallKind.normal ∧ TodoOk (ren 0 [(0, 0), (1, 1), (2, 2), (3, 3), (4, 4), (5, 5), (6, 6), (7, 7)]) findH1 findH1 ∧ x = x ∧ Fn.func (24 : Nat) = Fn.func (24 : Nat) ∧ Fn.func (28 : Nat) = Fn.func (28 : Nat) ∧ x = x ∧ CallKind.normal = CallKind.normal ∧ TodoOk (ren 0 [(0, 0), (1, 1), (2, 2), (3, 3), (4, 4), (5, 5), (6, 6), (7, 7)]) findH2 findH2 ∧ x = x ∧ n = n ∧ n = n ∧ x = x ∧ Fn.func (24 : Nat) = Fn.func (24 : Nat) ∧ (26 : Nat) = (26 : Nat) ∧ x = x ∧ (3 : Nat) = (3 : Nat) ∧ n = n ∧ (54 : Nat) = (54 : Nat) ∧ Fn.func (24 : Nat) = Fn.func (24 : Nat) ∧ (26 : Nat) = (26 : Nat) ∧ x = x ∧ (26 : Nat) = (26 : Nat) ∧ x = x ∧ (50 : Nat) = (50 : Nat) ∧ EqL findLp findLp ∧ x = x ∧ Fn.func (24 : Nat) = Fn.func (24 : Nat) ∧ Fn.func (28 : Nat) = Fn.func (28 : Nat) ∧ x = x ∧ True)) ∧ ((left != (0 : Int)) = false → y = (0 : Int) ∧ b = false ∧ True)) := by kernel_rfl
end Go.Proofs.YtebjigahnpjjiaaDoor
/- Runs of a word's bits, one behind the other. No condition. -/
namespace Go.Proofs.YtebjigahnpjjiaaDoor
/-- The bits of so many places from a place on. -/
def spanW (a n : Nat) : BitVec 64 := (BitVec.allOnes 64 >>> (64 - n)) <<< a
theorem spanW_bit (a n i : Nat) (h : a + n ≤ 64) : (spanW a n).getLsbD i = decide (a ≤ i ∧ i < a + n) := by
  unfold spanW
  rw [BitVec.getLsbD_shiftLeft, BitVec.getLsbD_ushiftRight, BitVec.getLsbD_allOnes]
  by_cases h1 : a ≤ i <;> by_cases h2 : i < a + n
  · rw [decide_eq_true (show a ≤ i ∧ i < a + n from ⟨h1, h2⟩), decide_eq_true (show i < 64 by omega), decide_eq_false (show ¬ i < a by omega), decide_eq_true (show 64 - n + (i - a) < 64 by omega)]
    rfl
  · rw [decide_eq_false (show ¬ (a ≤ i ∧ i < a + n) from fun x => h2 x.2), decide_eq_false (show ¬ 64 - n + (i - a) < 64 by omega)]
    simp
  · rw [decide_eq_false (show ¬ (a ≤ i ∧ i < a + n) from fun x => h1 x.1), decide_eq_true (show i < a by omega)]
    simp
  · rw [decide_eq_false (show ¬ (a ≤ i ∧ i < a + n) from fun x => h1 x.1), decide_eq_true (show i < a by omega)]
    simp
theorem spanI_uw (p n : Int) (hp : 0 ≤ p) (hn : 0 ≤ n) (h : p + n ≤ 64) : spanI p n = uw (spanW p.toNat n.toNat) := by
  have h1 : IntKind.i64.wrap (64 - n) = 64 - n := Go.IntWalk.i64_in _ (by omega)
  have eA : (18446744073709551615 : Int) = uw (BitVec.allOnes 64) := rfl
  unfold spanI
  rw [h1, eA, uw_shr, uw_shl]
  unfold spanW
  congr 3
  omega
/-- How long the lowest run is. -/
def tzn (L : BitVec 64) : Nat := tz (~~~ (L >>> tz L))
/-- What is left behind the lowest run. -/
def nextW (L : BitVec 64) : BitVec 64 := L &&& ~~~ spanW (tz L) (tzn L)
theorem nbit (L : BitVec 64) (i : Nat) : (~~~ (L >>> tz L)).getLsbD i = (decide (i < 64) && !L.getLsbD (tz L + i)) := by
  rw [BitVec.getLsbD_not, BitVec.getLsbD_ushiftRight]
theorem nne {L : BitVec 64} (h : L ≠ 0#64) (h1 : tzn L = 64) : tz L = 0 ∧ ∀ i, i < 64 → L.getLsbD i = true := by
  have hz := tz_lt h
  have hb : ∀ i, i < 64 → L.getLsbD (tz L + i) = true := by
    intro i hi
    have := tz_below (X := ~~~ (L >>> tz L)) (i := i) (by show i < tzn L; omega)
    rw [nbit, decide_eq_true hi] at this
    simpa using this
  have h0 : tz L = 0 := by
    rcases Nat.eq_zero_or_pos (tz L) with h | h
    · exact h
    · have := hb (64 - tz L) (by omega)
      rw [BitVec.getLsbD_of_ge _ _ (by omega)] at this
      cases this
  refine ⟨h0, fun i hi => ?_⟩
  have := hb i hi
  rwa [h0, Nat.zero_add] at this
/-- The lowest run. -/
theorem low_run {L : BitVec 64} (h : L ≠ 0#64) : 1 ≤ tzn L ∧ tz L + tzn L ≤ 64 ∧ (∀ i, i < tz L → L.getLsbD i = false) ∧ (∀ i, tz L ≤ i → i < tz L + tzn L → L.getLsbD i = true) ∧ L.getLsbD (tz L + tzn L) = false := by
  have hz := tz_lt h
  have hk : tzn L ≤ 64 := tz_le _
  have hone : ∀ i, i < tzn L → L.getLsbD (tz L + i) = true := by
    intro i hi
    have := tz_below (X := ~~~ (L >>> tz L)) (i := i) hi
    rw [nbit, decide_eq_true (show i < 64 by omega)] at this
    simpa using this
  refine ⟨?_, ?_, fun i hi => tz_below hi, fun i h1 h2 => ?_, ?_⟩
  · rcases Nat.eq_zero_or_pos (tzn L) with h0 | h0
    · have hne : ~~~ (L >>> tz L) ≠ 0#64 := by
        intro e
        have : tzn L = 64 := by unfold tzn; rw [e, tz_zero]
        omega
      have := tz_bit hne
      rw [show tz (~~~ (L >>> tz L)) = 0 from h0, nbit] at this
      rw [Nat.add_zero, tz_bit h] at this
      simp at this
    · exact h0
  · rcases Nat.lt_or_ge 64 (tz L + tzn L) with h1 | h1
    · have := hone (64 - tz L) (by omega)
      rw [BitVec.getLsbD_of_ge _ _ (by omega)] at this
      cases this
    · exact h1
  · have := hone (i - tz L) (by omega)
    rwa [show tz L + (i - tz L) = i by omega] at this
  · by_cases hne : ~~~ (L >>> tz L) = 0#64
    · have : tzn L = 64 := by unfold tzn; rw [hne, tz_zero]
      exact BitVec.getLsbD_of_ge _ _ (by omega)
    · have := tz_bit hne
      rw [nbit] at this
      simp at this
      exact this.2
theorem nextW_bit {L : BitVec 64} (h : L ≠ 0#64) (i : Nat) : (nextW L).getLsbD i = (decide (tz L + tzn L ≤ i) && L.getLsbD i) := by
  obtain ⟨h1, h2, h3, h4, h5⟩ := low_run h
  unfold nextW
  rw [BitVec.getLsbD_and, BitVec.getLsbD_not, spanW_bit _ _ _ h2]
  by_cases k1 : i < tz L
  · rw [h3 i k1]; simp
  · by_cases k2 : i < tz L + tzn L
    · rw [decide_eq_true (show tz L ≤ i ∧ i < tz L + tzn L by omega), decide_eq_false (show ¬ tz L + tzn L ≤ i by omega)]
      simp
    · rw [decide_eq_false (show ¬ (tz L ≤ i ∧ i < tz L + tzn L) by omega), decide_eq_true (show tz L + tzn L ≤ i by omega)]
      by_cases k3 : i < 64
      · rw [decide_eq_true k3]; simp
      · rw [BitVec.getLsbD_of_ge _ _ (by omega)]; simp
/-- What is left of X from the place p on; there is no page at p, unless it is the first one. -/
structure Part (X L : BitVec 64) (p : Nat) : Prop where
  le : p ≤ 64
  bits : ∀ i, L.getLsbD i = (decide (p ≤ i) && X.getLsbD i)
  at0 : p = 0 ∨ X.getLsbD p = false
theorem Part.start (X : BitVec 64) : Part X X 0 := ⟨Nat.zero_le _, fun i => by simp, .inl rfl⟩
/-- The next run of X. -/
structure NextRun (X : BitVec 64) (p a n : Nat) : Prop where
  pa : p ≤ a
  n1 : 1 ≤ n
  le : a + n ≤ 64
  gap : ∀ i, p ≤ i → i < a → X.getLsbD i = false
  all : ∀ i, a ≤ i → i < a + n → X.getLsbD i = true
  hi : X.getLsbD (a + n) = false
  lo : a = 0 ∨ X.getLsbD (a - 1) = false
theorem Part.next {X L : BitVec 64} {p : Nat} (hp : Part X L p) (h : L ≠ 0#64) : NextRun X p (tz L) (tzn L) ∧ Part X (nextW L) (tz L + tzn L) := by
  obtain ⟨h1, h2, h3, h4, h5⟩ := low_run h
  have hpa : p ≤ tz L := by
    have := hp.bits (tz L)
    rw [tz_bit h] at this
    simp at this
    exact this.1
  have hx : ∀ i, p ≤ i → X.getLsbD i = L.getLsbD i := fun i hi => by rw [hp.bits i, decide_eq_true hi, Bool.true_and]
  have hX5 : X.getLsbD (tz L + tzn L) = false := by rw [hx _ (by omega)]; exact h5
  refine ⟨⟨hpa, h1, h2, fun i k1 k2 => ?_, fun i k1 k2 => ?_, hX5, ?_⟩, ⟨h2, fun i => ?_, .inr hX5⟩⟩
  · rw [hx i k1]; exact h3 i k2
  · rw [hx i (by omega)]; exact h4 i k1 k2
  · rcases Nat.eq_zero_or_pos (tz L) with k | k
    · exact .inl k
    · refine .inr ?_
      by_cases k2 : p ≤ tz L - 1
      · rw [hx _ k2]; exact h3 _ (by omega)
      · have e : p = tz L := by omega
        rcases hp.at0 with k3 | k3
        · omega
        · have := hx p (Nat.le_refl _)
          rw [k3, e, tz_bit h] at this
          cases this
  · rw [nextW_bit h]
    by_cases k : tz L + tzn L ≤ i
    · rw [decide_eq_true k, hx i (by omega)]
    · rw [decide_eq_false k]; simp
theorem Part.done {X : BitVec 64} {p : Nat} (hp : Part X 0#64 p) (i : Nat) (h : p ≤ i) : X.getLsbD i = false := by
  have := hp.bits i
  rw [decide_eq_true h] at this
  simpa using this.symm
/-! As the program's operations make them. -/
theorem ari_n (L : BitVec 64) : ari .xor .u64 18446744073709551615 (ari .shr .u64 (uw L) (tz L : Nat)) = uw (~~~ (L >>> tz L)) := by
  rw [ari_uw_shr, ari_uw_not, Int.toNat_natCast]
theorem tzI_n (L : BitVec 64) : tzI (ari .xor .u64 18446744073709551615 (ari .shr .u64 (uw L) (tz L : Nat))) = (tzn L : Nat) := by
  rw [ari_n, tzI_uw]; rfl
theorem ari_next {L : BitVec 64} (h : L ≠ 0#64) : ari .andNot .u64 (uw L) (spanI (tz L : Nat) (tzn L : Nat)) = uw (nextW L) := by
  obtain ⟨h1, h2, _⟩ := low_run h
  rw [spanI_uw _ _ (by omega) (by omega) (by omega), ari_uw_andNot, Int.toNat_natCast, Int.toNat_natCast]
  rfl
end Go.Proofs.YtebjigahnpjjiaaDoor
/- Of runs: Give, Take and Find: what they answer. No condition. -/
namespace Go.Proofs.YtebjigahnpjjiaaDoor
set_option maxRecDepth 100000
theorem tzn_def (L : BitVec 64) : tz (~~~ (L >>> tz L)) = tzn L := rfl
theorem uw_ne_false (L : BitVec 64) (h : L = 0#64) : (uw L != 0) = false := by subst h; rfl
theorem uw_ne_true (L : BitVec 64) (h : L ≠ 0#64) : (uw L != 0) = true := by
  have := uw_zero_iff L
  rw [decide_eq_false h] at this
  unfold bne
  rw [this]; rfl
theorem opN_good {c : List SFr} {A : SV → SMem → Prop} {Q : Int → Prop} (hg : ∀ left, Q left → Good EC.P A 0 (opH c left) (opM c)) {fs : List SFr} {m : SMem} (h : opN c Q fs m) : Good EC.P A 0 fs m := by
  unfold opN at h
  split at h
  · exact Good.of_sub h.2 (hg _ h.1)
  · exact h.elim
theorem opN0_good {c : List SFr} {A : SV → SMem → Prop} {Q : Int → Prop} (hg : ∀ left, Q left → Good EC.P A 0 (opH c left) (opM c)) {fs : List SFr} {m : SMem} (h : opN0 c Q fs m) : Good EC.P A 0 fs m := by
  unfold opN0 at h
  split at h
  · exact Good.of_sub h.2 (Good.head (hg _ h.1))
  · exact h.elim
theorem mayB_iff {p n : Int} : mayB p n = true ↔ 1 ≤ n ∧ 0 ≤ p ∧ p < 64 ∧ n ≤ 64 - p := by unfold mayB; rw [decide_eq_true_eq]
/-- Are the pages of a run so? -/
def allIn (X : BitVec 64) (a n : Nat) (b : Bool) : Bool := decide (∀ i : Fin 64, a ≤ i.val → i.val < a + n → X.getLsbD i.val = b)
theorem allIn_iff {X : BitVec 64} {a n : Nat} {b : Bool} (h : a + n ≤ 64) : allIn X a n b = true ↔ ∀ i, a ≤ i → i < a + n → X.getLsbD i = b := by
  unfold allIn
  rw [decide_eq_true_eq]
  exact ⟨fun k i h1 h2 => k ⟨i, by omega⟩ h1 h2, fun k i h1 h2 => k i.val h1 h2⟩
def giveOk (X : BitVec 64) (p n : Int) : Bool := mayB p n && allIn X p.toNat n.toNat false
def giveW (X : BitVec 64) (p n : Int) : BitVec 64 := if giveOk X p n = true then X ||| spanW p.toNat n.toNat else X
def takeOk (X : BitVec 64) (p n : Int) : Bool := mayB p n && allIn X p.toNat n.toNat true
def takeW (X : BitVec 64) (p n : Int) : BitVec 64 := if takeOk X p n = true then X &&& ~~~ spanW p.toNat n.toNat else X
section
variable (X : BitVec 64) (p n : Int)
theorem give_no (h : giveOk X p n = false) : giveW X p n = X := by unfold giveW; rw [h]; rfl
theorem give_yes (h : giveOk X p n = true) : uw (giveW X p n) = ari .or .u64 (uw X) (spanI p n) := by
  have hm := mayB_iff.1 (show mayB p n = true by unfold giveOk at h; simp at h; exact h.1)
  unfold giveW
  rw [if_pos h, spanI_uw p n (by omega) (by omega) (by omega), ari_uw_or]
theorem take_no (h : takeOk X p n = false) : takeW X p n = X := by unfold takeW; rw [h]; rfl
theorem take_yes (h : takeOk X p n = true) : uw (takeW X p n) = ari .andNot .u64 (uw X) (spanI p n) := by
  have hm := mayB_iff.1 (show mayB p n = true by unfold takeOk at h; simp at h; exact h.1)
  unfold takeW
  rw [if_pos h, spanI_uw p n (by omega) (by omega) (by omega), ari_uw_andNot]
theorem nz_run {L : BitVec 64} (h : L ≠ 0#64) : ((tz L : Nat) == (0 : Int) && (tzn L : Nat) == (0 : Int)) = false := by
  have := (low_run h).1
  have : ((tzn L : Nat) == (0 : Int)) = false := by
    rw [beq_eq_false_iff_ne]; omega
  rw [this, Bool.and_false]
theorem give_good (hm : mayB p n = true) : ∀ (k : Nat) (L : BitVec 64) (q : Nat), 64 - q < k → Part X L q → (∀ i, p.toNat ≤ i → i < p.toNat + n.toNat → i < q → X.getLsbD i = false) →
    Good EC.P (opA (setB (uw (giveW X p n)) (giveOk X p n))) 0 (opH (giveC (uw X) p n) (uw L)) (opM (giveC (uw X) p n)) := by
  have hm' := mayB_iff.1 hm
  have hi64 : ∀ t : Int, 0 ≤ t → t ≤ 128 → IntKind.i64.wrap t = t := fun t h1 h2 => Go.IntWalk.i64_in _ (by omega)
  intro k
  induction k with
  | zero => intro L q h; omega
  | succ k ih =>
    intro L q hk hP hI
    refine past_vc EC_ok 1000 (give_step (uw X) p n (uw L) (uw (giveW X p n)) (giveOk X p n) (fun left => ∃ L' q', left = uw L' ∧ 64 - q' < k ∧ Part X L' q' ∧ (∀ i, p.toNat ≤ i → i < p.toNat + n.toNat → i < q' → X.getLsbD i = false))) ?_ (fun _ _ h => h)
      (fun fs m hb => opN_good (fun left ⟨L', q', e, k1, k2, k3⟩ => by rw [e]; exact ih L' q' k1 k2 k3) hb)
    by_cases hL : L = 0#64
    · subst hL
      have hok : giveOk X p n = true := by
        unfold giveOk
        rw [hm, Bool.true_and, allIn_iff (by omega)]
        intro i h1 h2
        by_cases h3 : i < q
        · exact hI i h1 h2 h3
        · exact hP.done i (by omega)
      refine ⟨fun h => ?_, fun _ => ?_⟩
      · cases h
      · exact ⟨⟨by rw [hi64 _ (by omega) (by omega)]; omega, by omega, trivial⟩, give_yes X p n hok, hok, trivial⟩
    · obtain ⟨hr, hP'⟩ := hP.next hL
      have ha := tz_lt hL
      rw [uw_ne_true L hL]
      simp only [tzI_uw, ari_n, tzn_def, ofInt_uw, ari_next hL, nz_run hL, Bool.not_false, ari_add]
      have e1 : IntKind.i64.wrap (p + n) = p + n := hi64 _ (by omega) (by omega)
      have e2 : IntKind.i64.wrap ((tz L : Nat) + (tzn L : Nat)) = ((tz L : Nat) + (tzn L : Nat) : Int) := hi64 _ (by omega) (by have := hr.le; omega)
      have e3 : IntKind.i64.wrap (64 - n) = 64 - n := hi64 _ (by omega) (by omega)
      have e4 : IntKind.i64.wrap (64 - (tzn L : Nat)) = 64 - (tzn L : Nat) := hi64 _ (by have := hr.le; omega) (by omega)
      rw [e1, e2, e3, e4]
      have hgo : (¬ ((tz L : Nat) < p + n) ∨ ¬ (p < (tz L : Nat) + (tzn L : Nat))) → ∃ L' q', uw (nextW L) = uw L' ∧ 64 - q' < k ∧ Part X L' q' ∧ (∀ i, p.toNat ≤ i → i < p.toNat + n.toNat → i < q' → X.getLsbD i = false) := by
        intro hc
        refine ⟨nextW L, tz L + tzn L, rfl, by have := hr.n1; have := hr.le; have := hr.pa; omega, hP', fun i h1 h2 h3 => ?_⟩
        by_cases h4 : i < q
        · exact hI i h1 h2 h4
        · by_cases h5 : i < tz L
          · exact hr.gap i (by omega) h5
          · omega
      have hno : ((tz L : Nat) < p + n) → (p < (tz L : Nat) + (tzn L : Nat)) → giveOk X p n = false := by
        intro c1 c2
        cases h : giveOk X p n with
        | false => rfl
        | true =>
          unfold giveOk at h
          rw [hm, Bool.true_and, allIn_iff (by omega)] at h
          have h1 := h (max p.toNat (tz L)) (by omega) (by omega)
          have h2 := hr.all (max p.toNat (tz L)) (by omega) (by have := hr.n1; omega)
          rw [h1] at h2
          cases h2
      have hle := hr.le
      refine ⟨fun _ => ⟨⟨trivial, trivial⟩, ⟨by omega, trivial⟩, ⟨trivial, trivial⟩, fun c1 => ⟨fun c2 => ⟨fun _ => ?_, fun h => ?_⟩, fun c2 => ⟨⟨by omega, by omega, trivial⟩, hgo (by simp at c2; omega), ?_⟩⟩, fun c1 => ⟨⟨by omega, by omega, trivial⟩, hgo (by simp at c1; omega), ?_⟩⟩, fun h => ?_⟩
      all_goals first | (cases h; done) | skip
      · have h0 := hno (by simpa using c1) (by simpa using c2)
        exact ⟨by rw [give_no X p n h0], h0, trivial⟩
      all_goals repeat' first | exact trivial | apply And.intro | exact rfl
theorem take_good (hm : mayB p n = true) : ∀ (k : Nat) (L : BitVec 64) (q : Nat), 64 - q < k → Part X L q → (q ≤ p.toNat ∨ ∃ i, p.toNat ≤ i ∧ i < p.toNat + n.toNat ∧ X.getLsbD i = false) →
    Good EC.P (opA (setB (uw (takeW X p n)) (takeOk X p n))) 0 (opH (takeC (uw X) p n) (uw L)) (opM (takeC (uw X) p n)) := by
  have hm' := mayB_iff.1 hm
  have hi64 : ∀ t : Int, 0 ≤ t → t ≤ 128 → IntKind.i64.wrap t = t := fun t h1 h2 => Go.IntWalk.i64_in _ (by omega)
  have hnot : (∃ i, p.toNat ≤ i ∧ i < p.toNat + n.toNat ∧ X.getLsbD i = false) → takeOk X p n = false := by
    rintro ⟨i, h1, h2, h3⟩
    cases h : takeOk X p n with
    | false => rfl
    | true =>
      unfold takeOk at h
      rw [hm, Bool.true_and, allIn_iff (by omega)] at h
      rw [h i h1 h2] at h3
      cases h3
  intro k
  induction k with
  | zero => intro L q h; omega
  | succ k ih =>
    intro L q hk hP hI
    refine past_vc EC_ok 1000 (take_step (uw X) p n (uw L) (uw (takeW X p n)) (takeOk X p n) (fun left => ∃ L' q', left = uw L' ∧ 64 - q' < k ∧ Part X L' q' ∧ (q' ≤ p.toNat ∨ ∃ i, p.toNat ≤ i ∧ i < p.toNat + n.toNat ∧ X.getLsbD i = false))) ?_ (fun _ _ h => h)
      (fun fs m hb => opN_good (fun left ⟨L', q', e, k1, k2, k3⟩ => by rw [e]; exact ih L' q' k1 k2 k3) hb)
    by_cases hL : L = 0#64
    · subst hL
      have hok : takeOk X p n = false := by
        rcases hI with h | h
        · exact hnot ⟨p.toNat, Nat.le_refl _, by omega, hP.done _ h⟩
        · exact hnot h
      refine ⟨fun h => ?_, fun _ => ?_⟩
      · cases h
      · exact ⟨by rw [take_no X p n hok], hok, trivial⟩
    · obtain ⟨hr, hP'⟩ := hP.next hL
      have ha := tz_lt hL
      rw [uw_ne_true L hL]
      simp only [tzI_uw, ari_n, tzn_def, ofInt_uw, ari_next hL, nz_run hL, ari_add]
      have hle := hr.le
      have hpa := hr.pa
      have hn1 := hr.n1
      have e1 : IntKind.i64.wrap (p + n) = p + n := hi64 _ (by omega) (by omega)
      have e2 : IntKind.i64.wrap ((tz L : Nat) + (tzn L : Nat)) = ((tz L : Nat) + (tzn L : Nat) : Int) := hi64 _ (by omega) (by omega)
      have e3 : IntKind.i64.wrap (64 - n) = 64 - n := hi64 _ (by omega) (by omega)
      have e4 : IntKind.i64.wrap (64 - (tzn L : Nat)) = 64 - (tzn L : Nat) := hi64 _ (by omega) (by omega)
      rw [e1, e2, e3, e4]
      have hlt : 64 - (tz L + tzn L) < k := by clear hI hnot; omega
      have hgo : (¬ ((tz L : Nat) ≤ p) ∨ ¬ (p + n ≤ (tz L : Nat) + (tzn L : Nat))) → ∃ L' q', uw (nextW L) = uw L' ∧ 64 - q' < k ∧ Part X L' q' ∧ (q' ≤ p.toNat ∨ ∃ i, p.toNat ≤ i ∧ i < p.toNat + n.toNat ∧ X.getLsbD i = false) := by
        intro hc
        refine ⟨nextW L, tz L + tzn L, rfl, hlt, hP', ?_⟩
        rcases hI with h | h
        · by_cases h1 : tz L + tzn L ≤ p.toNat
          · exact .inl h1
          · by_cases h2 : p.toNat < tz L
            · exact .inr ⟨p.toNat, Nat.le_refl _, by omega, hr.gap _ h h2⟩
            · exact .inr ⟨tz L + tzn L, by omega, by omega, hr.hi⟩
        · exact .inr h
      have hyes : ((tz L : Nat) ≤ p) → (p + n ≤ (tz L : Nat) + (tzn L : Nat)) → takeOk X p n = true := by
        intro c1 c2
        unfold takeOk
        rw [hm, Bool.true_and, allIn_iff (by omega)]
        exact fun i h1 h2 => hr.all i (by omega) (by omega)
      refine ⟨fun _ => ⟨⟨trivial, trivial⟩, ⟨by omega, trivial⟩, ⟨trivial, trivial⟩, fun c1 => ⟨fun c2 => ⟨fun h => ?_, fun _ => ?_⟩, fun c2 => ⟨⟨by omega, by omega, trivial⟩, hgo (by simp at c2; omega), ?_⟩⟩, fun c1 => ⟨⟨by omega, by omega, trivial⟩, hgo (by simp at c1; omega), ?_⟩⟩, fun h => ?_⟩
      all_goals first | (cases h; done) | skip
      · have h0 := hyes (by simpa using c1) (by simpa using c2)
        exact ⟨⟨by omega, by omega, trivial⟩, take_yes X p n h0, h0, trivial⟩
      all_goals repeat' first | exact trivial | apply And.intro | exact rfl
end
/-- The least place from one on that is so. -/
def seek (P : Nat → Bool) : Nat → Nat → Option Nat
  | 0, _ => none
  | k + 1, a => match P a with
    | true => some a
    | false => seek P k (a + 1)
theorem seek_some {P : Nat → Bool} : ∀ {k a b : Nat}, seek P k a = some b → a ≤ b ∧ b < a + k ∧ P b = true ∧ ∀ i, a ≤ i → i < b → P i = false
  | 0, _, _, h => by cases h
  | k + 1, a, b, h => by
    unfold seek at h
    split at h
    · rename_i e; cases h; exact ⟨Nat.le_refl _, by omega, e, fun i h1 h2 => by omega⟩
    · rename_i e
      obtain ⟨h1, h2, h3, h4⟩ := seek_some h
      refine ⟨by omega, by omega, h3, fun i k1 k2 => ?_⟩
      rcases Nat.lt_or_ge a i with k3 | k3
      · exact h4 i k3 k2
      · have : i = a := by omega
        subst this; exact e
theorem seek_none {P : Nat → Bool} : ∀ {k a : Nat}, (∀ i, a ≤ i → i < a + k → P i = false) → seek P k a = none
  | 0, _, _ => rfl
  | k + 1, a, h => by
    unfold seek
    rw [h a (Nat.le_refl _) (by omega)]
    exact seek_none fun i h1 h2 => h i (by omega) (by omega)
theorem seek_of {P : Nat → Bool} : ∀ {k a b : Nat}, a ≤ b → b < a + k → P b = true → (∀ i, a ≤ i → i < b → P i = false) → seek P k a = some b
  | 0, _, _, _, _, _, _ => by omega
  | k + 1, a, b, h1, h2, h3, h4 => by
    unfold seek
    rcases Nat.lt_or_ge a b with h | h
    · rw [h4 a (Nat.le_refl _) h]
      exact seek_of (by omega) (by omega) h3 fun i k1 k2 => h4 i (by omega) k2
    · have : a = b := by omega
      subst this
      rw [h3]
theorem seek_noneD {P : Nat → Bool} : ∀ {k a : Nat}, seek P k a = none → ∀ i, a ≤ i → i < a + k → P i = false
  | 0, _, _, _, _, _ => by omega
  | k + 1, a, h, i, h1, h2 => by
    unfold seek at h
    split at h
    · cases h
    · rename_i e
      rcases Nat.lt_or_ge a i with k3 | k3
      · exact seek_noneD h i k3 (by omega)
      · have : i = a := by omega
        subst this; exact e
/-- Does a run lie there? -/
def fitsAt (X : BitVec 64) (n : Int) (a : Nat) : Bool := decide (1 ≤ n ∧ n + (a : Int) ≤ 64) && allIn X a n.toNat true
theorem fitsAt_iff {X : BitVec 64} {n : Int} {a : Nat} : fitsAt X n a = true ↔ 1 ≤ n ∧ n + (a : Int) ≤ 64 ∧ ∀ i, a ≤ i → i < a + n.toNat → X.getLsbD i = true := by
  unfold fitsAt
  rw [Bool.and_eq_true, decide_eq_true_eq]
  constructor
  · rintro ⟨⟨h1, h2⟩, h3⟩
    exact ⟨h1, h2, (allIn_iff (by omega)).1 h3⟩
  · rintro ⟨h1, h2, h3⟩
    exact ⟨⟨h1, h2⟩, (allIn_iff (by omega)).2 h3⟩
def findN (X : BitVec 64) (n : Int) : Option Nat := seek (fitsAt X n) 64 0
def findI (X : BitVec 64) (n : Int) : Int := match findN X n with | some a => (a : Nat) | none => 0
def findOk (X : BitVec 64) (n : Int) : Bool := (findN X n).isSome
theorem find_none {X : BitVec 64} {n : Int} (h : findN X n = none) : findI X n = 0 ∧ findOk X n = false := by
  unfold findI findOk; rw [h]; exact ⟨rfl, rfl⟩
theorem find_some {X : BitVec 64} {n : Int} {a : Nat} (h : findN X n = some a) : findI X n = (a : Nat) ∧ findOk X n = true := by
  unfold findI findOk; rw [h]; exact ⟨rfl, rfl⟩
section
variable (X : BitVec 64) (n : Int)
theorem find_good (hn : 1 ≤ n) : ∀ (k : Nat) (L : BitVec 64) (q : Nat), 64 - q < k → Part X L q → (∀ i, i < q → fitsAt X n i = false) →
    Good EC.P (opA (intB (findI X n) (findOk X n))) 0 (opH (findC (uw X) n) (uw L)) (opM (findC (uw X) n)) := by
  have hi64 : ∀ t : Int, 0 ≤ t → t ≤ 128 → IntKind.i64.wrap t = t := fun t h1 h2 => Go.IntWalk.i64_in _ (by omega)
  intro k
  induction k with
  | zero => intro L q h; omega
  | succ k ih =>
    intro L q hk hP hI
    refine past_vc EC_ok 1000 (find_step (uw X) n (uw L) (findI X n) (findOk X n) (fun left => ∃ L' q', left = uw L' ∧ 64 - q' < k ∧ Part X L' q' ∧ (∀ i, i < q' → fitsAt X n i = false))) ?_ (fun _ _ h => h)
      (fun fs m hb => opN_good (fun left ⟨L', q', e, k1, k2, k3⟩ => by rw [e]; exact ih L' q' k1 k2 k3) hb)
    by_cases hL : L = 0#64
    · subst hL
      have h0 : findN X n = none := by
        refine seek_none fun i _ _ => ?_
        by_cases h : i < q
        · exact hI i h
        · cases h1 : fitsAt X n i with
          | false => rfl
          | true =>
            obtain ⟨_, _, h3⟩ := fitsAt_iff.1 h1
            have := h3 i (Nat.le_refl _) (by omega)
            rw [hP.done i (by omega)] at this
            cases this
      obtain ⟨e1, e2⟩ := find_none h0
      refine ⟨fun h => ?_, fun _ => ⟨e1, e2, trivial⟩⟩
      cases h
    · obtain ⟨hr, hP'⟩ := hP.next hL
      have ha := tz_lt hL
      rw [uw_ne_true L hL]
      simp only [tzI_uw, ari_n, tzn_def, ofInt_uw, ari_next hL, nz_run hL, Bool.not_false]
      have hle := hr.le
      have hpa := hr.pa
      have hn1 := hr.n1
      have e4 : IntKind.i64.wrap (64 - (tzn L : Nat)) = 64 - (tzn L : Nat) := hi64 _ (by omega) (by omega)
      rw [e4]
      have hgap : ∀ i, i < tz L → fitsAt X n i = false := by
        intro i h
        by_cases h1 : i < q
        · exact hI i h1
        · cases h2 : fitsAt X n i with
          | false => rfl
          | true =>
            obtain ⟨_, _, h3⟩ := fitsAt_iff.1 h2
            have := h3 i (Nat.le_refl _) (by omega)
            rw [hr.gap i (by omega) h] at this
            cases this
      refine ⟨fun _ => ⟨⟨trivial, trivial⟩, ⟨by omega, trivial⟩, ⟨trivial, trivial⟩, fun c => ?_, fun c => ⟨⟨by omega, by omega, trivial⟩, ⟨nextW L, tz L + tzn L, rfl, by omega, hP', fun i h => ?_⟩, ?_⟩⟩, fun h => ?_⟩
      · have c : n ≤ (tzn L : Nat) := by simpa using c
        obtain ⟨e1, e2⟩ := find_some (seek_of (Nat.zero_le _) (by omega) (fitsAt_iff.2 ⟨hn, by omega, fun i h1 h2 => hr.all i h1 (by omega)⟩) fun i _ h => hgap i h)
        exact ⟨e1, e2, trivial⟩
      · have c : (tzn L : Nat) < n := by simpa using c
        by_cases h1 : i < tz L
        · exact hgap i h1
        · cases h2 : fitsAt X n i with
          | false => rfl
          | true =>
            obtain ⟨_, h4, h3⟩ := fitsAt_iff.1 h2
            have := h3 (tz L + tzn L) (by omega) (by omega)
            rw [hr.hi] at this
            cases this
      · repeat' first | exact trivial | apply And.intro | exact rfl
      · cases h
end
end Go.Proofs.YtebjigahnpjjiaaDoor
/- Of runs: All: its states. No condition. -/
namespace Go.Proofs.YtebjigahnpjjiaaDoor
noncomputable section
def allC (x : Int) : List SFr := [callFr 18 Tryd.f18.ntmps [setIs x] (Tryd.f18.body.getD .skip)]
def sliceA (id k : Nat) : SV := .s (.c (.f (.slice id (.l 0) (.o k) .any)))
/-- The memory, when a slice is there. -/
def allM (c : List SFr) (k : Nat) (cs : Array Value) : SMem :=
  let m := opM c
  ⟨m.next + 1, (putB m.bl 1 (.ls [.f (.slice m.next (.l 0) (.o k) (.full 2))])).set m.next (some ⟨.pop cs, 50, true⟩), m.xs⟩
def allS (c : List SFr) (left : Int) (k : Nat) (cs : Array Value) : Tree := stepT EC.go (run EC 1000) 0 (opH c left) (allM c k cs)
/-- What lies in a row. -/
def rowOf (a : SA) : Option (Array Value) := match a with
  | .pop cs => some cs
  | .pre l => match plains l with
    | some vs => some vs.toArray
    | none => none
  | _ => none
def allN (c : List SFr) (Q : Int → Nat → Array Value → Prop) (fs : List SFr) (m : SMem) : Prop :=
  match topInt 3 fs, getB m.bl 1 with
  | some left, some ⟨.ls [.f (.slice sid _ k _)], _, _⟩ => match getB m.bl sid with
    | some ⟨a, _, _⟩ => match rowOf a with
      | some cs => Q left k.den cs ∧ subOk 0 (idπ (opM c).next ++ [((opM c).next, sid)]) (opH c left) (allM c k.den cs) fs m
      | none => False
    | none => False
  | _, _ => False
def rowM (cs : Array Value) : SMem := ⟨1, Tr.nil.set 0 (some ⟨.pop cs, 50, true⟩), []⟩
/-- A row in a block of its own. -/
def allA (k : Nat) (cs : Array Value) (s : SV) (m : SMem) : Prop :=
  match s with
  | .s (.c (.f (.slice sid _ _ _))) => retOk 0 [(0, sid)] (sliceA 0 k) (rowM cs) s m
  | _ => False
def nilA : SV → SMem → Prop := retOk 0 [] (.s (.c (.f (.lit (.slice none 0 0))))) ⟨0, .nil, []⟩
def allT0 : List SIt := tdAt 0 (opF (allC 0) 0)
def allT1 : List SIt := tdAt 1 (opF (allC 0) 0)
def allH0 : List SIt := tdAt 0 (opH (allC 0) 0)
def allH1 : List SIt := tdAt 1 (opH (allC 0) 0)
def allLp : LoopP := getLp (loopAt 0 (opM (allC 0)))
end
end Go.Proofs.YtebjigahnpjjiaaDoor
/- Of runs: the loop of each below All, as propositions. No condition. -/
namespace Go.Proofs.YtebjigahnpjjiaaDoor
set_option maxRecDepth 100000
theorem all_start (x : Int) (Q : Int → Prop) : (opR (allC x)).vc (fun _ _ => False) (opN0 (allC x) Q) =
    (Q x ∧ CallKind.normal = CallKind.normal ∧ TodoOk (ren 0 [(0, 0), (1, 1), (2, 2), (3, 3), (4, 4)]) allT0 allT0 ∧ x = x ∧ x = x ∧ CallKind.normal = CallKind.normal ∧ TodoOk (ren 0 [(0, 0), (1, 1), (2, 2), (3, 3), (4, 4)]) allT1 allT1 ∧ x = x ∧ x = x ∧ Value.slice none (0 : Nat) (0 : Nat) = Value.slice none (0 : Nat) (0 : Nat) ∧ Fn.func (28 : Nat) = Fn.func (28 : Nat) ∧ (26 : Nat) = (26 : Nat) ∧ x = x ∧ (47 : Nat) = (47 : Nat) ∧ Value.slice none (0 : Nat) (0 : Nat) = Value.slice none (0 : Nat) (0 : Nat) ∧ (26 : Nat) = (26 : Nat) ∧ x = x ∧ EqL allLp allLp ∧ x = x ∧ x = x ∧ Value.slice none (0 : Nat) (0 : Nat) = Value.slice none (0 : Nat) (0 : Nat) ∧ Fn.func (28 : Nat) = Fn.func (28 : Nat) ∧ True) := by kernel_rfl
theorem all_none (x : Int) (Q : Int → Nat → Array Value → Prop) : (opS (allC x) 0).vcE nilA (allN (allC x) Q) =
    (false = false ∧ Value.slice none (0 : Nat) (0 : Nat) = Value.slice none (0 : Nat) (0 : Nat) ∧ True) := by kernel_rfl
theorem all_first (x left : Int) (kF : Nat) (csF : Array Value) (Q : Int → Nat → Array Value → Prop) : (opS (allC x) left).vcT (allA kF csF) (allN (allC x) Q) =
    ((left != (0 : Int)) = true ∧ (uw (BitVec.ofInt (64 : Nat) left) = left ∧ True) ∧ ((0 : Int) ≤ tzI left ∧ True) ∧ (uw (BitVec.ofInt (64 : Nat) (ari BinOp.xor IntKind.u64 (18446744073709551615 : Int) (ari BinOp.shr IntKind.u64 left (tzI left)))) = ari BinOp.xor IntKind.u64 (18446744073709551615 : Int) (ari BinOp.shr IntKind.u64 left (tzI left)) ∧ True) ∧ ((0 : Int) ≤ IntKind.wrap IntKind.i64 ((64 : Int) - tzI (ari BinOp.xor IntKind.u64 (18446744073709551615 : Int) (ari BinOp.shr IntKind.u64 left (tzI left)))) ∧ (0 : Int) ≤ tzI left ∧ True) ∧ Q (ari BinOp.andNot IntKind.u64 left (spanI (tzI left) (tzI (ari BinOp.xor IntKind.u64 (18446744073709551615 : Int) (ari BinOp.shr IntKind.u64 left (tzI left)))))) (1 : Nat) #[Value.int IntKind.i64 (tzI left), Value.int IntKind.i64 (tzI (ari BinOp.xor IntKind.u64 (18446744073709551615 : Int) (ari BinOp.shr IntKind.u64 left (tzI left))))] ∧ CallKind.normal = CallKind.normal ∧ TodoOk (ren 0 [(0, 0), (1, 1), (2, 2), (3, 3), (4, 4), (5, 7)]) allH0 allH0 ∧ ari BinOp.andNot IntKind.u64 left (spanI (tzI left) (tzI (ari BinOp.xor IntKind.u64 (18446744073709551615 : Int) (ari BinOp.shr IntKind.u64 left (tzI left))))) = ari BinOp.andNot IntKind.u64 left (spanI (tzI left) (tzI (ari BinOp.xor IntKind.u64 (18446744073709551615 : Int) (ari BinOp.shr IntKind.u64 left (tzI left))))) ∧ x = x ∧ CallKind.normal = CallKind.normal ∧ TodoOk (ren 0 [(0, 0), (1, 1), (2, 2), (3, 3), (4, 4), (5, 7)]) allH1 allH1 ∧ x = x ∧ x = x ∧ Value.slice none (0 : Nat) (0 : Nat) = Value.slice none (0 : Nat) (0 : Nat) ∧ Fn.func (28 : Nat) = Fn.func (28 : Nat) ∧ (26 : Nat) = (26 : Nat) ∧ x = x ∧ (47 : Nat) = (47 : Nat) ∧ (1 : Nat) = (1 : Nat) ∧ (50 : TypeId) = (50 : Nat) ∧ #[Value.int IntKind.i64 (tzI left), Value.int IntKind.i64 (tzI (ari BinOp.xor IntKind.u64 (18446744073709551615 : Int) (ari BinOp.shr IntKind.u64 left (tzI left))))] = #[Value.int IntKind.i64 (tzI left), Value.int IntKind.i64 (tzI (ari BinOp.xor IntKind.u64 (18446744073709551615 : Int) (ari BinOp.shr IntKind.u64 left (tzI left))))] ∧ (26 : Nat) = (26 : Nat) ∧ x = x ∧ EqL allLp allLp ∧ x = x ∧ x = x ∧ Value.slice none (0 : Nat) (0 : Nat) = Value.slice none (0 : Nat) (0 : Nat) ∧ Fn.func (28 : Nat) = Fn.func (28 : Nat) ∧ True) := by kernel_rfl
theorem all_step (x left : Int) (k kF : Nat) (cs csF : Array Value) (Q : Int → Nat → Array Value → Prop) : (allS (allC x) left k cs).vc (allA kF csF) (allN (allC x) Q) =
    (((left != (0 : Int)) = true → (uw (BitVec.ofInt (64 : Nat) left) = left ∧ True) ∧ ((0 : Int) ≤ tzI left ∧ True) ∧ (uw (BitVec.ofInt (64 : Nat) (ari BinOp.xor IntKind.u64 (18446744073709551615 : Int) (ari BinOp.shr IntKind.u64 left (tzI left)))) = ari BinOp.xor IntKind.u64 (18446744073709551615 : Int) (ari BinOp.shr IntKind.u64 left (tzI left)) ∧ True) ∧ (((k + 1) * 16 ≤ (140737488355328 : Nat) ∧ k + 1 ≤ (140737488355328 : Nat)) ∧ k * 2 = Array.size cs ∧ True) ∧ ((0 : Int) ≤ IntKind.wrap IntKind.i64 ((64 : Int) - tzI (ari BinOp.xor IntKind.u64 (18446744073709551615 : Int) (ari BinOp.shr IntKind.u64 left (tzI left)))) ∧ (0 : Int) ≤ tzI left ∧ True) ∧ Q (ari BinOp.andNot IntKind.u64 left (spanI (tzI left) (tzI (ari BinOp.xor IntKind.u64 (18446744073709551615 : Int) (ari BinOp.shr IntKind.u64 left (tzI left)))))) (k + 1) (cs ++ #[Value.int IntKind.i64 (tzI left), Value.int IntKind.i64 (tzI (ari BinOp.xor IntKind.u64 (18446744073709551615 : Int) (ari BinOp.shr IntKind.u64 left (tzI left))))]) ∧ CallKind.normal = CallKind.normal ∧ TodoOk (ren 0 [(0, 0), (1, 1), (2, 2), (3, 3), (4, 4), (5, 8)]) allH0 allH0 ∧ ari BinOp.andNot IntKind.u64 left (spanI (tzI left) (tzI (ari BinOp.xor IntKind.u64 (18446744073709551615 : Int) (ari BinOp.shr IntKind.u64 left (tzI left))))) = ari BinOp.andNot IntKind.u64 left (spanI (tzI left) (tzI (ari BinOp.xor IntKind.u64 (18446744073709551615 : Int) (ari BinOp.shr IntKind.u64 left (tzI left))))) ∧ x = x ∧ CallKind.normal = CallKind.normal ∧ TodoOk (ren 0 [(0, 0), (1, 1), (2, 2), (3, 3), (4, 4), (5, 8)]) allH1 allH1 ∧ x = x ∧ x = x ∧ Value.slice none (0 : Nat) (0 : Nat) = Value.slice none (0 : Nat) (0 : Nat) ∧ Fn.func (28 : Nat) = Fn.func (28 : Nat) ∧ (26 : Nat) = (26 : Nat) ∧ x = x ∧ (47 : Nat) = (47 : Nat) ∧ k + 1 = k + 1 ∧ (50 : TypeId) = (50 : Nat) ∧ cs ++ #[Value.int IntKind.i64 (tzI left), Value.int IntKind.i64 (tzI (ari BinOp.xor IntKind.u64 (18446744073709551615 : Int) (ari BinOp.shr IntKind.u64 left (tzI left))))] = cs ++ #[Value.int IntKind.i64 (tzI left), Value.int IntKind.i64 (tzI (ari BinOp.xor IntKind.u64 (18446744073709551615 : Int) (ari BinOp.shr IntKind.u64 left (tzI left))))] ∧ (26 : Nat) = (26 : Nat) ∧ x = x ∧ EqL allLp allLp ∧ x = x ∧ x = x ∧ Value.slice none (0 : Nat) (0 : Nat) = Value.slice none (0 : Nat) (0 : Nat) ∧ Fn.func (28 : Nat) = Fn.func (28 : Nat) ∧ True) ∧ ((left != (0 : Int)) = false → kF = k ∧ (50 : TypeId) = (50 : TypeId) ∧ csF = cs ∧ True)) := by kernel_rfl
end Go.Proofs.YtebjigahnpjjiaaDoor
/- Of runs: contracts of Give, Take, Find and All. No condition. -/
namespace Go.Proofs.YtebjigahnpjjiaaDoor
set_option maxRecDepth 100000
theorem setIs_one (X : BitVec 64) : setIs (uw X) = .s (.agg (.ls [.f (.int .u64 (.o (uw X)))])) := rfl
section
variable (X : BitVec 64) (p n : Int) (m : SMem)
theorem give_con : Con E0 9 [setIs (uw X), i64 (.o p), i64 (.o n)] m (needs [] (.ret (setB (uw (giveW X p n)) (giveOk X p n)) m)) := by
  refine Con.pure E0_ok (by kernel_rfl : E0.fn 9 = some Tryd.f9) (by kernel_rfl : Tryd.f9.body = some (Tryd.f9.body.getD .skip)) (by kernel_rfl) (by kernel_rfl) fun _ => ?_
  refine (Good.ret (m := ⟨0, .nil, []⟩) (s0m := ⟨0, .nil, []⟩) (s0 := setB (uw (giveW X p n)) (giveOk X p n)) [] ?_).mono fun _ _ h => h.1
  show Good EC.P _ 0 (giveC (uw X) p n) _
  by_cases hm : mayB p n = true
  · have hq : ∀ left, left = uw X → Good EC.P (opA (setB (uw (giveW X p n)) (giveOk X p n))) 0 (opH (giveC (uw X) p n) left) (opM (giveC (uw X) p n)) := by
      rintro _ rfl
      exact give_good X p n hm 65 X 0 (by omega) (Part.start X) fun i _ _ h => by omega
    refine run_vc EC_ok 1000 (give_start (uw X) p n (uw (giveW X p n)) (giveOk X p n) (fun left => left = uw X)) ?_ (fun _ _ h => h) (fun fs m hb => opN0_good hq hb)
    rw [hm]
    refine ⟨fun h => (by cases h), fun _ => ⟨rfl, ?_⟩⟩
    repeat' first | exact trivial | apply And.intro | exact rfl
  · have hm : mayB p n = false := by simpa using hm
    have h0 : giveOk X p n = false := by unfold giveOk; rw [hm]; rfl
    refine run_vc EC_ok 1000 (give_start (uw X) p n (uw (giveW X p n)) (giveOk X p n) (fun _ => False)) ?_ (fun _ _ h => h) (fun fs m hb => opN0_good (fun _ h => h.elim) hb)
    rw [hm]
    exact ⟨fun _ => ⟨by rw [give_no X p n h0], h0, trivial⟩, fun h => by cases h⟩
theorem take_con : Con E0 10 [setIs (uw X), i64 (.o p), i64 (.o n)] m (needs [] (.ret (setB (uw (takeW X p n)) (takeOk X p n)) m)) := by
  refine Con.pure E0_ok (by kernel_rfl : E0.fn 10 = some Tryd.f10) (by kernel_rfl : Tryd.f10.body = some (Tryd.f10.body.getD .skip)) (by kernel_rfl) (by kernel_rfl) fun _ => ?_
  refine (Good.ret (m := ⟨0, .nil, []⟩) (s0m := ⟨0, .nil, []⟩) (s0 := setB (uw (takeW X p n)) (takeOk X p n)) [] ?_).mono fun _ _ h => h.1
  show Good EC.P _ 0 (takeC (uw X) p n) _
  by_cases hm : mayB p n = true
  · have hq : ∀ left, left = uw X → Good EC.P (opA (setB (uw (takeW X p n)) (takeOk X p n))) 0 (opH (takeC (uw X) p n) left) (opM (takeC (uw X) p n)) := by
      rintro _ rfl
      exact take_good X p n hm 65 X 0 (by omega) (Part.start X) (.inl (Nat.zero_le _))
    refine run_vc EC_ok 1000 (take_start (uw X) p n (uw (takeW X p n)) (takeOk X p n) (fun left => left = uw X)) ?_ (fun _ _ h => h) (fun fs m hb => opN0_good hq hb)
    rw [hm]
    refine ⟨fun h => (by cases h), fun _ => ⟨rfl, ?_⟩⟩
    repeat' first | exact trivial | apply And.intro | exact rfl
  · have hm : mayB p n = false := by simpa using hm
    have h0 : takeOk X p n = false := by unfold takeOk; rw [hm]; rfl
    refine run_vc EC_ok 1000 (take_start (uw X) p n (uw (takeW X p n)) (takeOk X p n) (fun _ => False)) ?_ (fun _ _ h => h) (fun fs m hb => opN0_good (fun _ h => h.elim) hb)
    rw [hm]
    exact ⟨fun _ => ⟨by rw [take_no X p n h0], h0, trivial⟩, fun h => by cases h⟩
theorem find_con : Con E0 12 [setIs (uw X), i64 (.o n)] m (needs [] (.ret (intB (findI X n) (findOk X n)) m)) := by
  refine Con.pure E0_ok (by kernel_rfl : E0.fn 12 = some Tryd.f12) (by kernel_rfl : Tryd.f12.body = some (Tryd.f12.body.getD .skip)) (by kernel_rfl) (by kernel_rfl) fun _ => ?_
  refine (Good.ret (m := ⟨0, .nil, []⟩) (s0m := ⟨0, .nil, []⟩) (s0 := intB (findI X n) (findOk X n)) [] ?_).mono fun _ _ h => h.1
  show Good EC.P _ 0 (findC (uw X) n) _
  by_cases hn : n < 1
  · have h0 : findN X n = none := seek_none fun i _ _ => by
      cases h : fitsAt X n i with
      | false => rfl
      | true => have := (fitsAt_iff.1 h).1; omega
    obtain ⟨e1, e2⟩ := find_none h0
    refine run_vc EC_ok 1000 (find_start (uw X) n (findI X n) (findOk X n) (fun _ => False)) ?_ (fun _ _ h => h) (fun fs m hb => opN0_good (fun _ h => h.elim) hb)
    rw [decide_eq_true hn]
    exact ⟨fun _ => ⟨e1, e2, trivial⟩, fun h => by cases h⟩
  · have hq : ∀ left, left = uw X → Good EC.P (opA (intB (findI X n) (findOk X n))) 0 (opH (findC (uw X) n) left) (opM (findC (uw X) n)) := by
      rintro _ rfl
      exact find_good X n (by omega) 65 X 0 (by omega) (Part.start X) fun i h => by omega
    refine run_vc EC_ok 1000 (find_start (uw X) n (findI X n) (findOk X n) (fun left => left = uw X)) ?_ (fun _ _ h => h) (fun fs m hb => opN0_good hq hb)
    rw [decide_eq_false hn]
    refine ⟨fun h => (by cases h), fun _ => ⟨rfl, ?_⟩⟩
    repeat' first | exact trivial | apply And.intro | exact rfl
end
/-- The runs that are left, at most so many. -/
def runsL : Nat → BitVec 64 → List (Nat × Nat)
  | 0, _ => []
  | k + 1, L => if L = 0#64 then [] else (tz L, tzn L) :: runsL k (nextW L)
theorem runsL_succ (k : Nat) (L : BitVec 64) : runsL (k + 1) L = if L = 0#64 then [] else (tz L, tzn L) :: runsL k (nextW L) := rfl
def runsOf (X : BitVec 64) : List (Nat × Nat) := runsL 65 X
def cellsOf : List (Nat × Nat) → List Value
  | [] => []
  | r :: l => .int .i64 (r.1 : Nat) :: .int .i64 (r.2 : Nat) :: cellsOf l
theorem cellsOf_app : ∀ l m : List (Nat × Nat), cellsOf (l ++ m) = cellsOf l ++ cellsOf m
  | [], _ => rfl
  | r :: l, m => by simp only [List.cons_append, cellsOf, cellsOf_app l m]
theorem cellsOf_len : ∀ l : List (Nat × Nat), (cellsOf l).length = l.length * 2
  | [] => rfl
  | r :: l => by simp only [cellsOf, List.length_cons, cellsOf_len l]; omega
def runsN (X : BitVec 64) : Nat := (runsOf X).length
def runsC (X : BitVec 64) : Array Value := (cellsOf (runsOf X)).toArray
theorem allN_good {c : List SFr} {A : SV → SMem → Prop} {Q : Int → Nat → Array Value → Prop} (hg : ∀ left k cs, Q left k cs → Good EC.P A 0 (opH c left) (allM c k cs)) {fs : List SFr} {m : SMem} (h : allN c Q fs m) : Good EC.P A 0 fs m := by
  unfold allN at h
  split at h
  · split at h
    · split at h
      · exact Good.of_sub h.2 (hg _ _ _ h.1)
      · exact h.elim
    · exact h.elim
  · exact h.elim
section
variable (X : BitVec 64)
def AllQ (j : Nat) (left : Int) (k : Nat) (cs : Array Value) : Prop := ∃ L q pre, left = uw L ∧ 64 - q < j ∧ Part X L q ∧ k = pre.length ∧ cs = (cellsOf pre).toArray ∧ pre.length + j ≤ 65 ∧ pre ++ runsL j L = runsOf X
theorem all_good : ∀ (j : Nat) (left : Int) (k : Nat) (cs : Array Value), AllQ X j left k cs →
    Good EC.P (allA (runsN X) (runsC X)) 0 (opH (allC (uw X)) left) (allM (allC (uw X)) k cs) := by
  have hi64 : ∀ t : Int, 0 ≤ t → t ≤ 128 → IntKind.i64.wrap t = t := fun t h1 h2 => Go.IntWalk.i64_in _ (by omega)
  intro j
  induction j with
  | zero => rintro left k cs ⟨L, q, pre, _, h, _⟩; omega
  | succ j ih =>
    rintro left k cs ⟨L, q, pre, rfl, hq, hP, rfl, rfl, hlen, hpre⟩
    refine past_vc EC_ok 1000 (all_step (uw X) (uw L) pre.length (runsN X) (cellsOf pre).toArray (runsC X) (AllQ X j)) ?_ (fun _ _ h => h) (fun fs m hb => allN_good (fun left k cs h => ih left k cs h) hb)
    by_cases hL : L = 0#64
    · subst hL
      refine ⟨fun h => ?_, fun _ => ?_⟩
      · cases h
      · have : runsOf X = pre := by rw [← hpre]; simp [runsL]
        exact ⟨by unfold runsN; rw [this], rfl, by unfold runsC; rw [this], trivial⟩
    · obtain ⟨hr, hP'⟩ := hP.next hL
      rw [uw_ne_true L hL]
      simp only [tzI_uw, ari_n, tzn_def, ofInt_uw, ari_next hL]
      have hle := hr.le
      have hpa := hr.pa
      have hn1 := hr.n1
      have e4 : IntKind.i64.wrap (64 - (tzn L : Nat)) = 64 - (tzn L : Nat) := hi64 _ (by omega) (by omega)
      rw [e4]
      refine ⟨fun _ => ⟨⟨trivial, trivial⟩, ⟨by omega, trivial⟩, ⟨trivial, trivial⟩, ⟨⟨by omega, by omega⟩, by rw [List.size_toArray, cellsOf_len], trivial⟩, ⟨by omega, by omega, trivial⟩, ?_, ?_⟩, fun h => by cases h⟩
      · refine ⟨nextW L, tz L + tzn L, pre ++ [(tz L, tzn L)], rfl, by omega, hP', by simp, ?_, by simp; omega, ?_⟩
        · rw [cellsOf_app]
          simp [cellsOf]
        · rw [List.append_assoc, ← hpre]
          rw [runsL_succ, if_neg hL]
          rfl
      · repeat' first | exact trivial | apply And.intro | exact rfl
/-- All of a set that has pages. -/
theorem all_con (h0 : X ≠ 0#64) (m : SMem) : Con E0 18 [setIs (uw X)] m (needs [] (.ret (sliceA m.next (runsN X)) (m.new (.pop (runsC X)) 50))) := by
  refine Con.fresh E0_ok (by kernel_rfl : E0.fn 18 = some Tryd.f18) (by kernel_rfl : Tryd.f18.body = some (Tryd.f18.body.getD .skip)) (by kernel_rfl) rfl fun _ => ?_
  show Good EC.P _ 0 (allC (uw X)) _
  refine Good.retX ((?_ : Good EC.P (allA (runsN X) (runsC X)) 0 (allC (uw X)) _).mono fun s m h => ?_)
  · refine run_vc EC_ok 1000 (all_start (uw X) (fun left => left = uw X)) ?_ (fun _ _ h => h.elim) (fun fs m hb => opN0_good (fun left e => ?_) hb)
    · refine ⟨rfl, ?_⟩
      repeat' first | exact trivial | apply And.intro | exact rfl
    · subst e
      refine past_T EC_ok 1000 (all_first (uw X) (uw X) (runsN X) (runsC X) (AllQ X 64)) ?_ (fun _ _ h => h) (fun fs m hb => allN_good (fun left k cs h => all_good X 64 left k cs h) hb)
      obtain ⟨hr, hP'⟩ := (Part.start X).next h0
      rw [uw_ne_true X h0]
      simp only [tzI_uw, ari_n, tzn_def, ofInt_uw, ari_next h0]
      have hle := hr.le
      have hn1 := hr.n1
      have e4 : IntKind.i64.wrap (64 - (tzn X : Nat)) = 64 - (tzn X : Nat) := Go.IntWalk.i64_in _ (by omega)
      rw [e4]
      refine ⟨trivial, ⟨trivial, trivial⟩, ⟨by omega, trivial⟩, ⟨trivial, trivial⟩, ⟨by omega, by omega, trivial⟩, ?_, ?_⟩
      · refine ⟨nextW X, tz X + tzn X, [(tz X, tzn X)], rfl, by omega, hP', rfl, rfl, by simp, ?_⟩
        unfold runsOf
        rw [runsL_succ 64, if_neg h0]
        rfl
      · repeat' first | exact trivial | apply And.intro | exact rfl
  · unfold allA at h
    split at h
    · exact ⟨_, h⟩
    · exact h.elim
/-- All of a set that has none. -/
theorem all_con0 (m : SMem) : Con E0 18 [setIs (uw 0#64)] m (needs [] (.ret (.s (.c (.f (.lit (.slice none 0 0))))) m)) := by
  refine Con.pure E0_ok (by kernel_rfl : E0.fn 18 = some Tryd.f18) (by kernel_rfl : Tryd.f18.body = some (Tryd.f18.body.getD .skip)) (by kernel_rfl) (by kernel_rfl) fun _ => ?_
  refine (Good.ret (m := ⟨0, .nil, []⟩) (s0m := ⟨0, .nil, []⟩) (s0 := .s (.c (.f (.lit (.slice none 0 0))))) [] ?_).mono fun _ _ h => h.1
  show Good EC.P _ 0 (allC (uw 0#64)) _
  refine run_vc EC_ok 1000 (all_start (uw 0#64) (fun left => left = uw 0#64)) ?_ (fun _ _ h => h.elim) (fun fs m hb => opN0_good (fun left e => ?_) hb)
  · refine ⟨rfl, ?_⟩
    repeat' first | exact trivial | apply And.intro | exact rfl
  · subst e
    refine past_E EC_ok 1000 (all_none (uw 0#64) (fun _ _ _ => False)) ⟨rfl, rfl, trivial⟩ (fun _ _ h => h) (fun fs m hb => allN_good (fun left k cs h => h.elim) hb)
end
end Go.Proofs.YtebjigahnpjjiaaDoor
/- Of runs: the environment of its laws. No condition. -/
namespace Go.Proofs.YtebjigahnpjjiaaDoor
noncomputable section
def wd (x : Int) : BitVec 64 := BitVec.ofInt 64 x
/-- The word behind a number is that number. -/
def isWd (x : Int) : Prop := uw (wd x) = x
theorem isWd_uw (X : BitVec 64) : isWd (uw X) := by unfold isWd wd; rw [ofInt_uw]
theorem wd_uw (X : BitVec 64) : wd (uw X) = X := by unfold wd; rw [ofInt_uw]
theorem Con.asked {E : Env} {g : FuncId} {l : List SV} {m : SMem} {q : List Prop} {t : Tree} (h : (∀ p ∈ q, p) → Con E g l m t) : Con E g l m (.need q t) := by
  intro A hs
  exact h hs.1 A hs.2
theorem Con.two {E : Env} {g : FuncId} {l : List SV} {m : SMem} {b : Bool} {t e : Tree} (ht : b = true → Con E g l m t) (he : b = false → Con E g l m e) : Con E g l m (.br b t e) := by
  intro A hs
  cases hb : b with
  | true => exact ht hb A (hs.1 hb)
  | false => exact he hb A (hs.2 hb)
theorem Con.plain {E : Env} {g : FuncId} {l : List SV} {m : SMem} {t : Tree} (h : Con E g l m (needs [] t)) : Con E g l m t := h
theorem Con.args {E : Env} {g : FuncId} {l l' : List SV} {m : SMem} {t : Tree} (h : ∀ R vs, All2 (SV.ok R) l vs → All2 (SV.ok R) l' vs) (hc : Con E g l' m t) : Con E g l m t := by
  intro A hs
  obtain ⟨fn, h1, h2, h3⟩ := hc A hs
  exact ⟨fn, h1, h2, fun n0 F w0 w R args hl hR => h3 n0 F w0 w R args (h R _ hl) hR⟩
theorem den_i {k : IntKind} {x : SI} {R : Ren} {v : Value} (h : (SV.s (.c (.f (.int k x)))).ok R v) : (SV.s (.c (.f (.int k (.o x.den))))).ok R v := h
theorem den_a {k : IntKind} {x : SI} {R : Ren} {v : Value} (h : (SV.s (.agg (.ls [.f (.int k x)]))).ok R v) : (SV.s (.agg (.ls [.f (.int k (.o x.den))]))).ok R v := by
  obtain ⟨cs, e, h⟩ := h
  refine ⟨cs, e, ?_⟩
  have h : All2 (SC.ok R) [.f (.int k x)] cs.toList := h
  show All2 (SC.ok R) [.f (.int k (.o x.den))] cs.toList
  revert h
  generalize cs.toList = l
  intro h
  match l, h with
  | [v], h => exact ⟨h.1, trivial⟩
theorem den1 {a a' : SV} (h : ∀ R v, a.ok R v → a'.ok R v) (R : Ren) (vs : List Value) (hv : All2 (SV.ok R) [a] vs) : All2 (SV.ok R) [a'] vs := by
  match vs, hv with
  | [v], hv => exact ⟨h R v hv.1, trivial⟩
theorem den2 {a a' b b' : SV} (h : ∀ R v, a.ok R v → a'.ok R v) (k : ∀ R v, b.ok R v → b'.ok R v) (R : Ren) (vs : List Value) (hv : All2 (SV.ok R) [a, b] vs) : All2 (SV.ok R) [a', b'] vs := by
  match vs, hv with
  | [v, w], hv => exact ⟨h R v hv.1, k R w hv.2.1, trivial⟩
theorem den3 {a a' b b' c c' : SV} (h : ∀ R v, a.ok R v → a'.ok R v) (k : ∀ R v, b.ok R v → b'.ok R v) (j : ∀ R v, c.ok R v → c'.ok R v) (R : Ren) (vs : List Value) (hv : All2 (SV.ok R) [a, b, c] vs) : All2 (SV.ok R) [a', b', c'] vs := by
  match vs, hv with
  | [v, w, u], hv => exact ⟨h R v hv.1, k R w hv.2.1, j R u hv.2.2.1, trivial⟩
def conL (g : FuncId) (l : List SV) (m : SMem) : Option Tree :=
  match g, l with
  | 5, [] => some (.ret (sB (.l true)) m)
  | 26, [.s (.c (.f (.int .u64 x)))] => some (.ret (i64 (.o (ocI x.den))) m)
  | 6, [.s (.c (.f (.int .i64 p)))] => some (.ret (setIs (uw (lowW (clampN p.den)))) m)
  | 17, [.s (.agg (.ls [.f (.int .u64 x)])), .s (.c (.f (.int .i64 p)))] => some (.need [isWd x.den] (.ret (sB (.o (decide (0 ≤ p.den) && (wd x.den).getLsbD p.den.toNat))) m))
  | 9, [.s (.agg (.ls [.f (.int .u64 x)])), .s (.c (.f (.int .i64 p))), .s (.c (.f (.int .i64 n)))] => some (.need [isWd x.den] (.ret (setB (uw (giveW (wd x.den) p.den n.den)) (giveOk (wd x.den) p.den n.den)) m))
  | 10, [.s (.agg (.ls [.f (.int .u64 x)])), .s (.c (.f (.int .i64 p))), .s (.c (.f (.int .i64 n)))] => some (.need [isWd x.den] (.ret (setB (uw (takeW (wd x.den) p.den n.den)) (takeOk (wd x.den) p.den n.den)) m))
  | 12, [.s (.agg (.ls [.f (.int .u64 x)])), .s (.c (.f (.int .i64 n)))] => some (.need [isWd x.den] (.ret (intB (findI (wd x.den) n.den) (findOk (wd x.den) n.den)) m))
  | 18, [.s (.agg (.ls [.f (.int .u64 x)]))] => some (.need [isWd x.den] (.br (decide (wd x.den = 0#64)) (.ret (.s (.c (.f (.lit (.slice none 0 0))))) m) (.ret (sliceA m.next (runsN (wd x.den))) (m.new (.pop (runsC (wd x.den))) 50))))
  | _, _ => none
theorem conL_ok : ∀ g l m t, conL g l m = some t → Con E0 g l m t := by
  intro g l m t h
  unfold conL at h
  split at h
  · cases h; exact wakes_con m
  · rename_i x; cases h; exact Con.args (den1 fun _ _ => den_i) (oc_con x.den m)
  · rename_i x; cases h; exact Con.args (den1 fun _ _ => den_i) (of_con x.den m)
  · rename_i x p
    cases h
    refine Con.asked fun hq => ?_
    have hx : isWd x.den := hq _ (List.mem_cons_self ..)
    refine Con.args (den2 (fun _ _ => den_a) fun _ _ => den_i) ?_
    have := has_con (wd x.den) p.den m
    rw [show uw (wd x.den) = x.den from hx] at this
    exact this
  · rename_i x p n
    cases h
    refine Con.asked fun hq => ?_
    have hx : isWd x.den := hq _ (List.mem_cons_self ..)
    refine Con.args (den3 (fun _ _ => den_a) (fun _ _ => den_i) fun _ _ => den_i) ?_
    have := give_con (wd x.den) p.den n.den m
    rw [setIs_one, show uw (wd x.den) = x.den from hx] at this
    exact this
  · rename_i x p n
    cases h
    refine Con.asked fun hq => ?_
    have hx : isWd x.den := hq _ (List.mem_cons_self ..)
    refine Con.args (den3 (fun _ _ => den_a) (fun _ _ => den_i) fun _ _ => den_i) ?_
    have := take_con (wd x.den) p.den n.den m
    rw [setIs_one, show uw (wd x.den) = x.den from hx] at this
    exact this
  · rename_i x n
    cases h
    refine Con.asked fun hq => ?_
    have hx : isWd x.den := hq _ (List.mem_cons_self ..)
    refine Con.args (den2 (fun _ _ => den_a) fun _ _ => den_i) ?_
    have := find_con (wd x.den) n.den m
    rw [setIs_one, show uw (wd x.den) = x.den from hx] at this
    exact this
  · rename_i x
    cases h
    refine Con.asked fun hq => ?_
    have hx : isWd x.den := hq _ (List.mem_cons_self ..)
    refine Con.args (den1 fun _ _ => den_a) ?_
    refine Con.two (fun hb => ?_) fun hb => ?_
    · have h0 : wd x.den = 0#64 := by simpa using hb
      have := all_con0 m
      rw [← h0, setIs_one, show uw (wd x.den) = x.den from hx] at this
      exact this
    · have h0 : wd x.den ≠ 0#64 := by simpa using hb
      have := all_con (wd x.den) h0 m
      rw [setIs_one, show uw (wd x.den) = x.den from hx] at this
      exact this
  · cases h
end
end Go.Proofs.YtebjigahnpjjiaaDoor
/- Of runs: RunsOneWay: its loops' states. No condition. -/
namespace Go.Proofs.YtebjigahnpjjiaaDoor
noncomputable section
/-- One stops at the laws' loops. -/
def EO : Env := ⟨Tryd.prog, fnOf, conL, fun d f x => Nat.beq d 0 && (Nat.beq f 4 || Nat.beq f 3) && isLoop x⟩
theorem EO_ok : EnvOk EO := EnvOk.with E0_ok _ _ conL_ok
/-- One stops at the last loop alone. -/
def EO4 : Env := ⟨Tryd.prog, fnOf, conL, fun d f x => Nat.beq d 0 && Nat.beq f 4 && isLoop x && Nat.beq (loopId x) 38⟩
theorem EO4_ok : EnvOk EO4 := EnvOk.with E0_ok _ _ conL_ok
def bytesS (id off n : Nat) : SV := .s (.c (.f (.slice id (.o off) (.o n) .any)))
def nilV : SV := .s (.c (.f (.lit (.slice none 0 0))))
def u8V (x : Int) : SV := .s (.c (.f (.int .u8 (.o x))))
/-- The rows that came in. -/
structure In where
  o1 : Nat
  n1 : Nat
  o2 : Nat
  n2 : Nat
  cs : Array Value
  ds : Array Value
  ty : TypeId
  tz : TypeId
def ordS (I : In) : Bool → SV
  | true => bytesS 1 I.o2 I.n2
  | false => nilV
def inM (I : In) : Bool → SMem
  | true => ⟨2, ((Tr.nil : Tr SBlk).set 0 (some ⟨.raw I.cs, I.ty, false⟩)).set 1 (some ⟨.raw I.ds, I.tz, false⟩), []⟩
  | false => ⟨2, (Tr.nil : Tr SBlk).set 0 (some ⟨.raw I.cs, I.ty, false⟩), []⟩
def inN (I : In) : Bool → SMem
  | true => ⟨2, (Tr.nil : Tr SBlk).set 1 (some ⟨.raw I.ds, I.tz, false⟩), []⟩
  | false => ⟨2, .nil, []⟩
def owC (I : In) (ob : Bool) (pg : Int) : List SFr := [callFr 4 Tryd.f4.ntmps [u8V pg, bytesS 0 I.o1 I.n1, ordS I ob] (Tryd.f4.body.getD .skip)]
def owNil (I : In) (ob : Bool) (pg : Int) : List SFr := [callFr 4 Tryd.f4.ntmps [u8V pg, nilV, ordS I ob] (Tryd.f4.body.getD .skip)]
/-- The row of pages that were taken: none yet, or so many. -/
abbrev Tk := Option (Nat × Array Value)
def tkF : Tk → SF
  | none => .lit (.slice none 0 0)
  | some (k, _) => .slice 4 (.l 0) (.o k) (.full 1)
def tkM : Tk → Tr SBlk → Tr SBlk
  | none, t => t
  | some (_, ts), t => t.set 4 (some ⟨.pop ts, 3, true⟩)
def one1 (x : Int) : SBlk := ⟨.ls [.f (.int .u64 (.o x))], 26, true⟩
def fr1 (td : List SIt) (I : In) (ob : Bool) (T : Tk) (i : Int) : SFr :=
  ⟨4, tmOf Tryd.f4.ntmps [(1, bytesS 0 I.o1 I.n1), (2, ordS I ob), (7, ptr 2 (.l 0)), (8, ptr 3 (.l 0)), (9, .s (.c (.f (tkF T)))), (10, i64 (.o i))], td, [], .run, .normal, none⟩
def mem1 (I : In) (ob : Bool) (F x : Int) (T : Tk) : SMem := ⟨6, tkM T (((inM I ob).bl.set 2 (some (one1 F))).set 3 (some (one1 x))), []⟩
def fr2 (td : List SIt) (I : In) (ob : Bool) (T : Tk) (i n a k : Int) : SFr :=
  ⟨4, tmOf Tryd.f4.ntmps [(1, bytesS 0 I.o1 I.n1), (2, ordS I ob), (7, ptr 2 (.l 0)), (8, ptr 3 (.l 0)), (9, .s (.c (.f (tkF T)))), (10, i64 (.o i)), (11, i64 (.o n)), (12, i64 (.o a)), (14, ptr 5 (.l 0)), (16, i64 (.o k))], td, [], .run, .normal, none⟩
def mem2 (I : In) (ob : Bool) (F x y : Int) (T : Tk) : SMem := ⟨6, (mem1 I ob F x T).bl.set 5 (some (one1 y)), []⟩
def fr3 (td : List SIt) (I : In) (ob : Bool) (T : Tk) (i : Int) : SFr :=
  ⟨4, tmOf Tryd.f4.ntmps [(2, ordS I ob), (7, ptr 2 (.l 0)), (8, ptr 3 (.l 0)), (9, .s (.c (.f (tkF T)))), (17, i64 (.o i))], td, [], .run, .normal, none⟩
/-- The rows that are compared: none, or two. -/
abbrev Rw := Option ((Nat × Array Value) × (Nat × Array Value))
def rwA : Rw → SF
  | none => .lit (.slice none 0 0)
  | some (p, _) => .slice 2 (.l 0) (.o p.1) .any
def rwB : Rw → SF
  | none => .lit (.slice none 0 0)
  | some (_, p) => .slice 3 (.l 0) (.o p.1) .any
def fr4 (td : List SIt) (S : Rw) (i : Int) : SFr :=
  ⟨4, tmOf Tryd.f4.ntmps [(23, .s (.c (.f (rwA S)))), (24, .s (.c (.f (rwB S)))), (25, i64 (.o i))], td, [], .run, .normal, none⟩
def mem4 : Rw → SMem
  | none => ⟨4, .nil, []⟩
  | some (p, q) => ⟨4, (Tr.nil.set 2 (some ⟨.pop p.2, 50, true⟩)).set 3 (some ⟨.pop q.2, 50, true⟩), []⟩
def rdP (f : SFr) (d : Nat) : Option Nat := match f.tm.get d with
  | some (.s (.c (.f (.ptr id _)))) => some id
  | _ => none
def rdI (f : SFr) (d : Nat) : Option Int := svInt (f.tm.get d)
def rdC (m : SMem) (id : Nat) : Option Int := match getB m.bl id with
  | some ⟨.ls [.f (.int _ x)], _, _⟩ => some x.den
  | _ => none
def rdT (f : SFr) (d : Nat) (m : SMem) : Option (List Nat × Tk) := match f.tm.get d with
  | some (.s (.c (.f (.lit (.slice none 0 0))))) => some ([], none)
  | some (.s (.c (.f (.slice sid _ k _)))) => match getB m.bl sid with
    | some b => match rowOf b.arr with
      | some ts => some ([sid], some (k.den, ts))
      | none => none
    | none => none
  | _ => none
def πT : Nat → List Nat → List (Nat × Nat)
  | n, [sid] => [(n, sid)]
  | _, _ => []
structure Qs where
  q1 : Int → Tk → Int → Prop
  q2 : Int → Int → Tk → Int → Int → Int → Int → Prop
  q3 : Int → Tk → Int → Prop
  q4 : Rw → Int → Prop
def nx1 (td : List SIt) (I : In) (ob : Bool) (F : Int) (Q : Qs) (f : SFr) (m : SMem) : Prop :=
  match rdP f 7, rdP f 8, rdT f 9 m, rdI f 10 with
  | some a, some b, some (t, T), some i => match rdC m b with
    | some x => Q.q1 x T i ∧ subOk 2 ([(2, a), (3, b)] ++ πT 4 t) [fr1 td I ob T i] (mem1 I ob F x T) [f] m
    | none => False
  | _, _, _, _ => False
def nx2 (td : List SIt) (I : In) (ob : Bool) (F : Int) (Q : Qs) (f : SFr) (m : SMem) : Prop :=
  match rdP f 7, rdP f 8, rdP f 14, rdT f 9 m, rdI f 10, rdI f 11, rdI f 12, rdI f 16 with
  | some a, some b, some c, some (t, T), some i, some n, some p, some k => match rdC m b, rdC m c with
    | some x, some y => Q.q2 x y T i n p k ∧ subOk 2 ([(2, a), (3, b), (5, c)] ++ πT 4 t) [fr2 td I ob T i n p k] (mem2 I ob F x y T) [f] m
    | _, _ => False
  | _, _, _, _, _, _, _, _ => False
def nx3 (td : List SIt) (I : In) (ob : Bool) (F : Int) (Q : Qs) (f : SFr) (m : SMem) : Prop :=
  match rdP f 7, rdP f 8, rdT f 9 m, rdI f 17 with
  | some a, some b, some (t, T), some i => match rdC m b with
    | some x => Q.q3 x T i ∧ subOk 2 ([(2, a), (3, b)] ++ πT 4 t) [fr3 td I ob T i] (mem1 I ob F x T) [f] m
    | none => False
  | _, _, _, _ => False
def nx4 (td : List SIt) (Q : Qs) (f : SFr) (m : SMem) : Prop :=
  match rdT f 23 m, rdT f 24 m, rdI f 25 with
  | some (t, none), some (u, none), some i => Q.q4 none i ∧ subOk 2 [] [fr4 td none i] (mem4 none) [f] m
  | some (t, some S), some (u, some U), some i => Q.q4 (some (S, U)) i ∧ subOk 2 (πT 2 t ++ πT 3 u) [fr4 td (some (S, U)) i] (mem4 (some (S, U))) [f] m
  | _, _, _ => False
/-- What is left to do at the loop of that number. -/
def Tree.tdOf (id : Nat) : Tree → List SIt
  | .stop (f :: _) _ => match f.todo with
    | x :: l => match Nat.beq (loopId x) id with
      | true => x :: l
      | false => []
    | [] => []
  | .need _ t => t.tdOf id
  | .br _ t e => match t.tdOf id with
    | [] => e.tdOf id
    | l => l
  | _ => []
def I0 : In := ⟨0, 0, 0, 0, #[], #[], 0, 0⟩
def st1 (td : List SIt) (I : In) (ob : Bool) (F x : Int) (T : Tk) (i : Int) : Tree := stepT EO.go (run EO 1000) 2 [fr1 td I ob T i] (mem1 I ob F x T)
def st2 (td : List SIt) (I : In) (ob : Bool) (F x y : Int) (T : Tk) (i n a k : Int) : Tree := stepT EO.go (run EO 1000) 2 [fr2 td I ob T i n a k] (mem2 I ob F x y T)
def st3 (td : List SIt) (I : In) (ob : Bool) (F x : Int) (T : Tk) (i : Int) : Tree := stepT EO.go (run EO 1000) 2 [fr3 td I ob T i] (mem1 I ob F x T)
def st4 (td : List SIt) (S : Rw) (i : Int) : Tree := stepT EO.go (run EO 1000) 2 [fr4 td S i] (mem4 S)
def owR (I : In) (ob : Bool) (pg : Int) : Tree := run EO 1000 2 (owC I ob pg) (inM I ob)
def td1 : List SIt := (owR I0 true 0).tdOf 7
def th1 : List SIt := headL td1
def td2 : List SIt := (st1 th1 I0 true 0 0 none 0).tdOf 16
def th2 : List SIt := headL td2
def td3 : List SIt := (st1 th1 I0 true 0 0 none 0).tdOf 23
def th3 : List SIt := headL td3
def td4 : List SIt := (st3 th3 I0 true 0 0 none 0).tdOf 38
def th4 : List SIt := headL td4
/-- What is left to do is that, come to from ahead of it, or behind a round. -/
def nxO (I : In) (ob : Bool) (F : Int) (Q : Qs) (h1 h2 h3 h4 : List SIt) (fs : List SFr) (m : SMem) : Prop :=
  match fs with
  | [f] => match f.todo with
    | x :: _ => match loopId x with
      | 7 => nx1 h1 I ob F Q f m
      | 16 => nx2 h2 I ob F Q f m
      | 23 => nx3 h3 I ob F Q f m
      | 38 => nx4 h4 Q f m
      | _ => False
    | [] => False
  | _ => False
def okRet (sv : SV) (_ : SMem) : Prop :=
  match sv with
  | .s (.c (.f (.bool (.l true)))) => True
  | .s (.c (.f (.bool (.o b)))) => b = true
  | _ => False
end
end Go.Proofs.YtebjigahnpjjiaaDoor
