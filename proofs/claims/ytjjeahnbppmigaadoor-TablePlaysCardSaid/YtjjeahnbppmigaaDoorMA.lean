/- What a table of bytes that the program lays holds, for the symbolic machine; a call that is told of no block. No condition. -/
import Derived.Test.YtjjeahnbppmigaaDoorRows
import Derived.Test.YtjjeahnbppmigaaDoorE1
import Derived.ProofKit
import Derived.LaidMore
import Derived.OpenShut
import Derived.ChangeSame
import Derived.Deep.Slices
import Derived.Deep.Fields
import Derived.Stop.Joined
import Derived.Test.YtjjeahnbppmigaaDoorK15
import Derived.Test.YtjjeahnbppmigaaDoorK24
import Derived.IntWalk
import Derived.Test.YtjjeahnbppmigaaDoorK23
import Derived.Test.YtjjeahnbppmigaaDoorK14b
import Derived.Test.YtjjeahnbppmigaaDoorK14c
import Derived.Test.YtjjeahnbppmigaaDoorK31
import Derived.Test.YtjjeahnbppmigaaDoorK1
import Derived.Lib.TrailingZeros
import Derived.Test.YtjjeahnbppmigaaDoorK2
set_option linter.unusedVariables false
set_option linter.unusedSimpArgs false
namespace Go.Proofs.YtjjeahnbppmigaaDoor
open Go.ChangeShapes Go.WideShapes Go.ChangeAt Go.WideMaps Go.WideElems Go.RowKit

theorem own : ownKnob Tryd.prog.godebug = none := by kernel_rfl
theorem laidOut : laidOutB Tryd.prog = true := by kernel_rfl
theorem gTab : Tryd.prog.globalNamed "math/bits.deBruijn64tab" = some 0 := by kernel_rfl
theorem tTab : (Tryd.prog.globals[0]?).map (·.type) = some 128 := by kernel_rfl
def tabV : List Value := (glTab.headD (0, [])).2
def tabD {H : Type} : List (DataW H) := tabV.map fun | .int k n => .lit (.int k n) | _ => .nil
theorem tabD_eq {H : Type} : (Rows.laid_math_bits_deBruijn64tab : DataW H) = .agg tabD := rfl
theorem tab_byte : ∀ i : Nat, i < 64 → ∃ n, tabV[i]? = some (.int .u8 n) := by
  intro i hi
  have : ∀ i : Fin 64, (match tabV[i.val]? with | some (.int .u8 _) => true | _ => false) = true := by decide +kernel
  have := this ⟨i, hi⟩
  revert this
  generalize tabV[i]? = v
  intro h
  split at h
  · rename_i n; exact ⟨n, rfl⟩
  · cases h
def laidL : List (String × DataW Unit) := [("math/bits.deBruijn64tab", Rows.laid_math_bits_deBruijn64tab)]
/-- The table lies there. -/
theorem tab_lies {W : World} (h : laidMetH Tryd.prog laidL W) : ∃ cs ty fz, W.heap[0]? = some (.cells cs ty fz) ∧ cs.size = tabV.length ∧ ∀ i : Nat, i < tabV.length → cs[i]? = tabV[i]? := by
  rw [MakeChecks.laidMetH_plain _ _ _ (by kernel_rfl)] at h
  obtain ⟨ps, ⟨g0, t0, cs0, f0, p0, q0, hg0, ht0, hv0, hd0, _, _⟩, _, _⟩ := h
  obtain rfl := Option.some.inj (gTab.symm.trans hg0)
  obtain rfl := Option.some.inj (tTab.symm.trans ht0)
  have hv0' := hv0
  unfold World.var? at hv0
  rw [gTab] at hv0
  simp only [Option.bind_some] at hv0
  split at hv0
  · rename_i cs ty fz hb
    cases hv0
    obtain ⟨xs, m1, rfl, hx1, hlen, hn3, hel⟩ := DataW.trod_array Tryd.underlying128 hd0
    have c5 : Tryd.prog.cellsOf 5 = 1 := by kernel_rfl
    have cT : Tryd.prog.cellsOf 128 = 64 := by kernel_rfl
    rw [cT] at hlen
    have hlen : cs0.size = 64 := by simpa using hlen
    simp only [Prod.mk.injEq, tabD_eq, DataW.agg.injEq] at hx1
    refine ⟨cs0, ty, fz, hb, hlen, ?_⟩
    intro i hi
    have hi : i < 64 := hi
    obtain ⟨n, hn⟩ := tab_byte i hi
    have h0 := hel i hi
    have hxi : xs[i]? = some (xs[i]'(by omega)) := List.getElem?_eq_getElem (by omega)
    rw [c5, Nat.mul_one, hxi] at h0
    have hci : cs0.toList[i]? = some (cs0[i]'(by omega)) := by rw [Array.getElem?_toList, Array.getElem?_eq_getElem (by omega)]
    have hdrop : (cs0.toList.drop i).take 1 = [cs0[i]'(by omega)] := by
      rw [List.drop_eq_getElem_cons (by rw [Array.length_toList]; omega)]
      simp
    rw [hdrop] at h0
    obtain ⟨k, e1, e2, _⟩ := DataW.trod_int Tryd.underlying5 h0
    have e3 : (xs.map (·.1))[i]? = (tabD : List (DataW Unit))[i]? := by rw [hx1.1]
    rw [List.getElem?_map, hxi] at e3
    unfold tabD at e3
    rw [List.getElem?_map, hn] at e3
    rw [e2] at e3
    simp only [Option.map_some, Option.some.injEq, DataW.lit.injEq, Lit.int.injEq] at e3
    simp only [List.cons.injEq, and_true] at e1
    rw [← Array.getElem?_toList, hci, e1, hn, e3.2]
  · cases hv0
theorem tab_small {W : World} (h : laidMetH Tryd.prog laidL W) : 0 < W.heap.size := by
  obtain ⟨cs, ty, fz, hb, _⟩ := tab_lies h
  exact (Array.getElem?_eq_some_iff.1 hb).1
/-- What is known at the start of a call: all blocks. -/
@[reducible] def GhW (W : World) : Gh := ⟨fun g l => ∃ arr ty fz, W.heap[g]? = some (.cells arr ty fz) ∧ l = arr.toList⟩
/-- The start of a call: no block is told. -/
theorem rel_start {W : World} (h : laidMetH Tryd.prog laidL W) (n : Nat) : @Rel (GhW W) W.heap.size (fun _ => False) W (fun _ => none) ⟨n, .nil, []⟩ W :=
  @Rel.mk (GhW W) _ _ _ _ _ _ (fun _ _ _ _ _ _ h => by (cases h)) (fun _ _ h => by (cases h)) (fun _ _ h => by (cases h)) (fun i b h => by (have h : (Tr.nil : Tr SBlk).get i = some b := h; rw [Tr.get_nil] at h; cases h)) (Nat.le_refl _) (BelowF.refl _ _ _) (fun _ _ h => by (cases h)) (fun _ _ _ _ _ _ h => by (cases h)) (fun g cs hg => by
    rcases hg with hg | ⟨arr, ty, fz, h1, rfl⟩
    · have e : (g, cs) = (0, tabV) := by
        have : glTab = [(0, tabV)] := rfl
        rw [this] at hg
        simpa using hg
      cases e
      obtain ⟨cs', ty, fz, h1, h2⟩ := tab_lies h
      exact ⟨tab_small h, fun x => x, cs', ty, fz, h1, h2⟩
    · exact ⟨(Array.getElem?_eq_some_iff.1 h1).1, fun x => x, arr, ty, fz, h1, by simp, fun i _ => by simp⟩)
theorem below_of {n0 : Nat} {w0 w : World} (h : BelowF n0 (fun _ => False) w0 w) : Below n0 w0 w := ⟨h.os, h.tape, h.output, h.size, fun k hk => h.block k hk fun x => x⟩
section
variable {H : Type} {enc : TypeId × Value → H} {P : Program}
theorem post_of_below {f : Func} {s : ChangeSpec} {apart fresh handsOn again : Bool} {W W' : World} {args : Array Value} {v : Value} {ds gs : List (DataW H)} {before pa pv : List MemPlace}
    (hW : DataW.Whole enc P f.params.toList s.vars apart W args.toList ds gs before)
    (hres : ∀ (b : Nat) (sp : Nat → Bool) (hd : Bool), DataW.TrodAll enc P W' b sp hd f.resultTypes.toList (v.resultList f.resultTypes.size) (s.fn H (ds ++ gs)).results [])
    (hargs : ∀ sp : Nat → Bool, (∀ p ∈ before, sp p.block = true) → DataW.TrodAll enc P W' 0 sp true f.params.toList args.toList (s.fn H (ds ++ gs)).args pa)
    (hvars : ∀ sp : Nat → Bool, (∀ p ∈ before, sp p.block = true) → DataW.TrodVars enc P W' sp s.vars (s.fn H (ds ++ gs)).vars pv)
    (hps : before = pa ++ pv) (hb : Below W.heap.size W W')
    (hok : ∀ (j : Nat) (t : TypeId) (r : Value), f.resultTypes[j]? = some t → (v.resultList f.resultTypes.size)[j]? = some r → Value.okWide P W' .any 0 t r) :
    s.post enc P f apart fresh handsOn again W args v W' := by
  have hlt : ∀ p ∈ before, p.block < W.heap.size := fun p hp => hW.lt p hp
  have hold : ∀ p ∈ before, (fun b => decide (b < W.heap.size)) p.block = true := fun p hp => by simpa using hlt p hp
  refine ⟨ds, gs, before, [], pa, pv, hW, hres _ _ _, hargs _ hold, hvars _ hold, World.keptBut_mono (fun p hp => ⟨hp, ?_⟩) (hb.frame (· ∈ before)), fun _ => ?_⟩
  · rw [hps, List.mem_append] at hp
    exact Or.inr hp
  · obtain ⟨_, _, _, _, _, hz, hn⟩ := hW
    refine ⟨hok, _, _, ([] ++ pa) ++ pv, ⟨[] ++ pa, pv, trodAll_append (hargs _ (fun _ _ => rfl)) (hres _ _ _), hvars _ (fun _ _ => rfl), rfl, ?_, ?_⟩, ?_⟩
    · intro b off hp
      have hin : MemPlace.cell b off ∈ before := by rw [hps]; simpa using hp
      rw [hb.frozen (hlt _ hin)]
      exact hz b off hin
    · intro ha
      have := hn ha
      rw [hps] at this
      simpa using this
    · intro p hp _
      rw [hps]
      simpa using hp
end
end Go.Proofs.YtjjeahnbppmigaaDoor
/- Blocks that came in, told to the symbolic machine one by one; slices that came in. No condition. -/
namespace Go.Proofs.YtjjeahnbppmigaaDoor
set_option linter.unusedSectionVars false
variable [Gh]
noncomputable section
open Go.ChangeShapes Go.WideShapes Go.ChangeAt Go.RowKit Go.Deep
omit [Gh] in
theorem sub_get {l : List Value} {a b o : Nat} {v : Value} (h : ((l.drop a).take b)[o]? = some v) : l[a + o]? = some v := by
  rw [List.getElem?_take] at h
  split at h
  · rw [List.getElem?_drop] at h; exact h
  · cases h
omit [Gh] in
theorem sub_one {l : List Value} {a b : Nat} {v : Value} (h : (l.drop a).take b = [v]) : l[a]? = some v := by
  have : ((l.drop a).take b)[0]? = some v := by rw [h]; rfl
  exact sub_get this
section
variable {H : Type} {enc : TypeId × Value → H} {P : Program} {w : World} {base : Nat} {spare : Nat → Bool} {held : Bool}
omit [Gh] in
theorem field_of {t : TypeId} {fs : Array Field} {fuel : Nat} {cs : List Value} {x : DataW H × List MemPlace} (ht : P.underlying t = some (.struct fs)) (h : DataW.trod enc P w base spare held fuel t cs = some x)
    (i : Nat) {f : Field} (hf : fs[i]? = some f) : ∃ n y, DataW.trod enc P w base spare held n f.type ((cs.drop f.offset).take (P.cellsOf f.type)) = some y := by
  obtain ⟨ys, n, _, _, _, hyl, hg⟩ := DataW.trod_struct ht h
  have hlt : i < fs.size := (Array.getElem?_eq_some_iff.1 hf).1
  have hys : ys[i]? = some (ys[i]'(by omega)) := List.getElem?_eq_getElem (by omega)
  exact ⟨n, _, (hg i f hf).trans hys⟩
omit [Gh] in
theorem add_none (b off n : Nat) : (⟨b, off, none⟩ : Addr).add n = ⟨b, off + n, none⟩ := by
  unfold Addr.add
  split
  · rename_i e; subst e; rfl
  · rfl
omit [Gh] in
theorem slice_cells {t e : TypeId} {base' C : Nat} {fuel : Nat} {A : Option Addr} {len cap : Nat} {x : DataW H × List MemPlace} (ht : P.underlying t = some (.slice e)) (hC : P.cellsOf e = C)
    (hok : Value.okWide P w .any base t (.slice A len cap)) (h : DataW.trod enc P w base' (fun _ => true) held fuel t [.slice A len cap] = some x) :
    (A = none ∧ len = 0 ∧ cap = 0) ∨ ∃ b off cs ty fz, A = some ⟨b, off, none⟩ ∧ len ≤ cap ∧ cap ≤ maxLen ∧ w.heap[b]? = some (.cells cs ty fz) ∧
      ∀ j, j < len → ∃ n y, DataW.trod enc P w base' (fun _ => true) held n e ((cs.toList.drop (off + j * C)).take C) = some y := by
  rcases open_slice ht h with ⟨hcs, hx⟩ | ⟨a, len', cap', m, n, D, Pl, hcs, _, hl, hmx, hm, hx, hi⟩
  · simp at hcs
    exact .inl hcs
  · simp at hcs
    obtain ⟨rfl, rfl, rfl⟩ := hcs
    simp at hm
    subst hm
    obtain ⟨b, off, spot⟩ := a
    simp only [Value.okWide, ht, Cell.okWide, Cell.ok] at hok
    obtain ⟨_, _, _, hs, _, _, hsh, _⟩ := hok
    have hs : spot = none := hs
    subst hs
    cases ho : w.heap[b]? with
    | none => simp [World.shape?, ho] at hsh
    | some o =>
      have hcells : ∃ cs ty fz, o = .cells cs ty fz := by
        cases o <;> first | exact ⟨_, _, _, rfl⟩ | simp [World.shape?, ho] at hsh
      obtain ⟨cs, ty, fz, rfl⟩ := hcells
      refine .inr ⟨b, off, cs, ty, fz, rfl, hl, hmx, ho, fun j hj => ?_⟩
      obtain ⟨cs', hc, ht'⟩ := hi j (by omega)
      rw [hC] at hc
      obtain ⟨_, hcl, hat⟩ := World.cells?_some hc
      refine ⟨n, (D j, Pl j), ?_⟩
      rw [← ht']
      congr 1
      apply List.ext_getElem?
      intro i
      rw [List.getElem?_take]
      by_cases hi' : i < C
      · rw [if_pos hi', ← hat i hi', add_none, add_none]
        simp [World.cell?, ho, Nat.add_assoc]
      · rw [if_neg hi', List.getElem?_eq_none (by omega)]
end

omit [Gh] in
def OnlyRead (m : SMem) : Prop := m.xs = [] ∧ ∀ i b, getB m.bl i = some b → b.wr = false
theorem rel_add {W : World} {R : Ren} {m : SMem} (hR : Rel W.heap.size (fun _ => False) W R m W) (ho : OnlyRead m) {i b : Nat} {cs : Array Value} {ty : TypeId} {fz : Nat × Nat} (hi : i < m.next) (hn : R i = none) (hb : W.heap[b]? = some (.cells cs ty fz)) :
    Rel W.heap.size (fun _ => False) W (fun j => if j = i then some ⟨b, cs.size⟩ else R j) ⟨m.next, m.bl.set i (some ⟨.raw cs, ty, false⟩), m.xs⟩ W ∧ OnlyRead ⟨m.next, m.bl.set i (some ⟨.raw cs, ty, false⟩), m.xs⟩ := by
  have ho' : OnlyRead ⟨m.next, m.bl.set i (some ⟨.raw cs, ty, false⟩), m.xs⟩ := by
    refine ⟨ho.1, fun j c hc => ?_⟩
    have hc : (m.bl.set i (some ⟨.raw cs, ty, false⟩)).get j = some c := hc
    rw [Tr.get_set] at hc
    split at hc
    · cases hc; rfl
    · exact ho.2 j c hc
  have hlt : b < W.heap.size := (Array.getElem?_eq_some_iff.1 hb).1
  refine ⟨⟨fun j k g h x y h1 h2 h3 h4 h5 h6 => ?_, fun j g h => ?_, fun j g h => ?_, fun j c hc => ?_, Nat.le_refl _, BelowF.refl _ _ _, fun j x hx => ?_, fun j k g h x y _ _ _ h4 => ?_, fun g cs hg => ?_⟩, ho'⟩
  · have e1 := ho'.2 _ _ h4
    have e2 := ho'.2 _ _ h5
    rw [e1, e2] at h6
    rcases h6 with h6 | h6 <;> cases h6
  · split at h
    · cases h; exact hlt
    · exact hR.lt j g h
  · split at h
    · rename_i e; rw [e]; exact hi
    · exact hR.nx j g h
  · have hc : (m.bl.set i (some ⟨.raw cs, ty, false⟩)).get j = some c := hc
    rw [Tr.get_set] at hc
    split at hc
    · rename_i e
      cases hc
      exact ⟨⟨b, cs.size⟩, cs, fz, by simp [e], hb, rfl, rfl, fun h => by cases h⟩
    · rename_i e
      obtain ⟨g, cs', fz', k1, k2, k3, k4, k5⟩ := hR.blk j c hc
      refine ⟨g, cs', fz', by simp [e, k1], k2, k3, SA.monoM (fun l g hl => ?_) k4, k5⟩
      by_cases el : l = i
      · rw [el, hn] at hl; cases hl
      · rw [if_neg el]; exact hl
  · have hx : getX m.xs j = some x := hx
    rw [ho.1] at hx; cases hx
  · have h4 : getX m.xs j = some x := h4
    rw [ho.1] at h4; cases h4
  · exact hR.gl g cs hg
omit [Gh] in
theorem onlyRead_nil (n : Nat) : OnlyRead ⟨n, .nil, []⟩ := ⟨rfl, fun i b h => by
  have h : (Tr.nil : Tr SBlk).get i = some b := h
  rw [Tr.get_nil] at h; cases h⟩
omit [Gh] in
theorem isInt_of {k : IntKind} {cs : Array Value} {i : Nat} {n : Int} (h : cs.toList[i]? = some (.int k n)) : IsInt k cs i := by
  rw [Array.getElem?_toList] at h
  unfold IsInt intAt
  rw [h]
end
end Go.Proofs.YtjjeahnbppmigaaDoor
/- Of handle: a book's slots, as numbers. No condition. -/
namespace Go.Proofs.YtjjeahnbppmigaaDoor
set_option maxRecDepth 100000
def ageAt (bs : Array Value) (i : Nat) : Int := intAt bs (i * 2)
def kindAt (bs : Array Value) (i : Nat) : Int := intAt bs (i * 2 + 1)
structure BkOk (bs : Array Value) : Prop where
  sz : bs.size = 64
  a : ∀ i, i < 32 → IsInt .u32 bs (i * 2)
  k : ∀ i, i < 32 → IsInt .u8 bs (i * 2 + 1)
  ra : ∀ i, i < 32 → 0 ≤ ageAt bs i ∧ ageAt bs i ≤ 8388607
  rk : ∀ i, i < 32 → 0 ≤ kindAt bs i ∧ kindAt bs i ≤ 2
def nameI (i : Nat) (a : Int) : Int := 256 * a + i + 1
def slotOk (h : Int) : Bool := decide (h ≠ 0 ∧ (h - 1) % 256 < 32 ∧ (h - 1) / 256 ≤ 8388607)
def slotI (h : Int) : Int := if slotOk h = true then (h - 1) % 256 else 0
def goodB (bs : Array Value) (h : Int) : Bool := slotOk h && (decide (ageAt bs (slotI h).toNat = (h - 1) / 256) && decide (kindAt bs (slotI h).toNat = 1))
def atOk (bs : Array Value) (i : Int) : Bool := decide (0 ≤ i ∧ i < 32) && decide (kindAt bs i.toNat = 1)
def atI (bs : Array Value) (i : Int) : Int := if atOk bs i = true then nameI i.toNat (ageAt bs i.toNat) else 0
def inH (h : Int) : Prop := 0 ≤ h ∧ h < 4294967296
def voidS (bs : Array Value) (i : Nat) : Array Value := if ageAt bs i = 8388607 then bs.setIfInBounds (i * 2 + 1) (.int .u8 2) else putAt bs (i * 2) [.int .u32 (ageAt bs i + 1), .int .u8 0]
def voidB (bs : Array Value) (h : Int) : Array Value := if goodB bs h = true then voidS bs (slotI h).toNat else bs
def freeFrom (bs : Array Value) : Nat → Nat → Option Nat
  | 0, _ => none
  | k + 1, i => if kindAt bs i = 0 then some i else freeFrom bs k (i + 1)
def freeS (bs : Array Value) : Option Nat := freeFrom bs 32 0
def issueB (bs : Array Value) : Array Value := match freeS bs with
  | some i => bs.setIfInBounds (i * 2 + 1) (.int .u8 1)
  | none => bs
def issueI (bs : Array Value) : Int := match freeS bs with
  | some i => nameI i (ageAt bs i)
  | none => 0
def issueOk (bs : Array Value) : Bool := (freeS bs).isSome
theorem slotI_lt {h : Int} (hh : inH h) : 0 ≤ slotI h ∧ slotI h < 32 := by
  unfold slotI
  split
  · rename_i e
    unfold slotOk at e
    have := of_decide_eq_true e
    have := hh.1
    omega
  · omega
theorem u32_in {t : Int} (h1 : 0 ≤ t) (h2 : t < 4294967296) : IntKind.u32.wrap t = t := by
  unfold IntKind.wrap
  simp only [IntKind.signed, IntKind.bits]
  exact Int.emod_eq_of_lt h1 (by omega)
theorem i64_in' {t : Int} (h1 : -9223372036854775808 ≤ t) (h2 : t ≤ 9223372036854775807) : IntKind.i64.wrap t = t := Go.IntWalk.i64_in _ (by omega)
noncomputable section
def u32 (n : Int) : SV := .s (.c (.f (.int .u32 (.o n))))
def bkS (bs : Array Value) : SV := .s (.agg (.op bs))
def ibT (x : Int) (b : Bool) : SV := .tup [.c (.f (.int .i64 (.o x))), .c (.f (.bool (.o b)))]
def hbT (x : Int) (b : Bool) : SV := .tup [.c (.f (.int .u32 (.o x))), .c (.f (.bool (.o b)))]
def bbT (bs : Array Value) (b : Bool) : SV := .tup [.agg (.op bs), .c (.f (.bool (.o b)))]
def bhbT (bs : Array Value) (x : Int) (b : Bool) : SV := .tup [.agg (.op bs), .c (.f (.int .u32 (.o x))), .c (.f (.bool (.o b)))]
def e0M : SMem := ⟨0, .nil, []⟩
end
end Go.Proofs.YtjjeahnbppmigaaDoor
/- Of handle: Slot, Good, At, Void, as propositions. No condition. -/
namespace Go.Proofs.YtjjeahnbppmigaaDoor
set_option maxRecDepth 100000
theorem slot_run (h x : Int) (b : Bool) : (run E0 1000 0 [callFr 32 Tryd.f32.ntmps [u32 h] (Tryd.f32.body.getD .skip)] e0M).vc (retOk 0 [] (ibT x b) e0M) (fun _ _ => False) =
    ((((h == (0 : Int)) == false) = true → ((decide (ari BinOp.rem IntKind.u32 (ari BinOp.sub IntKind.u32 h (1 : Int)) (256 : Int) ≥ (32 : Int)) == false) = true → (decide (ari BinOp.quo IntKind.u32 (ari BinOp.sub IntKind.u32 h (1 : Int)) (256 : Int) > (8388607 : Int)) = true → x = (0 : Int) ∧ b = false ∧ True) ∧ (decide (ari BinOp.quo IntKind.u32 (ari BinOp.sub IntKind.u32 h (1 : Int)) (256 : Int) > (8388607 : Int)) = false → x = IntKind.wrap IntKind.i64 (ari BinOp.rem IntKind.u32 (ari BinOp.sub IntKind.u32 h (1 : Int)) (256 : Int)) ∧ b = true ∧ True)) ∧ ((decide (ari BinOp.rem IntKind.u32 (ari BinOp.sub IntKind.u32 h (1 : Int)) (256 : Int) ≥ (32 : Int)) == false) = false → x = (0 : Int) ∧ b = false ∧ True)) ∧ (((h == (0 : Int)) == false) = false → x = (0 : Int) ∧ b = false ∧ True)) := by kernel_rfl
theorem good_run (bs : Array Value) (h : Int) (b : Bool) : (run E0 1000 0 [callFr 12 Tryd.f12.ntmps [bkS bs, u32 h] (Tryd.f12.body.getD .skip)] e0M).vc (retOk 0 [] (sB (.o b)) e0M) (fun _ _ => False) =
    ((((h == (0 : Int)) == false) = true → ((decide (ari BinOp.rem IntKind.u32 (ari BinOp.sub IntKind.u32 h (1 : Int)) (256 : Int) ≥ (32 : Int)) == false) = true → (decide (ari BinOp.quo IntKind.u32 (ari BinOp.sub IntKind.u32 h (1 : Int)) (256 : Int) > (8388607 : Int)) = true → b = false ∧ True) ∧ (decide (ari BinOp.quo IntKind.u32 (ari BinOp.sub IntKind.u32 h (1 : Int)) (256 : Int) > (8388607 : Int)) = false → (((0 : Int) ≤ IntKind.wrap IntKind.i64 (ari BinOp.rem IntKind.u32 (ari BinOp.sub IntKind.u32 h (1 : Int)) (256 : Int)) ∧ IntKind.wrap IntKind.i64 (ari BinOp.rem IntKind.u32 (ari BinOp.sub IntKind.u32 h (1 : Int)) (256 : Int)) < (32 : Int)) ∧ True) ∧ (IsInt IntKind.u32 bs ((0 : Nat) + Int.toNat (IntKind.wrap IntKind.i64 (ari BinOp.rem IntKind.u32 (ari BinOp.sub IntKind.u32 h (1 : Int)) (256 : Int))) * 2) ∧ IsInt IntKind.u8 bs ((0 : Nat) + Int.toNat (IntKind.wrap IntKind.i64 (ari BinOp.rem IntKind.u32 (ari BinOp.sub IntKind.u32 h (1 : Int)) (256 : Int))) * 2 + 1) ∧ True) ∧ b = (intAt bs ((0 : Nat) + Int.toNat (IntKind.wrap IntKind.i64 (ari BinOp.rem IntKind.u32 (ari BinOp.sub IntKind.u32 h (1 : Int)) (256 : Int))) * 2) == ari BinOp.quo IntKind.u32 (ari BinOp.sub IntKind.u32 h (1 : Int)) (256 : Int) && intAt bs ((0 : Nat) + Int.toNat (IntKind.wrap IntKind.i64 (ari BinOp.rem IntKind.u32 (ari BinOp.sub IntKind.u32 h (1 : Int)) (256 : Int))) * 2 + 1) == (1 : Int)) ∧ True)) ∧ ((decide (ari BinOp.rem IntKind.u32 (ari BinOp.sub IntKind.u32 h (1 : Int)) (256 : Int) ≥ (32 : Int)) == false) = false → b = false ∧ True)) ∧ (((h == (0 : Int)) == false) = false → b = false ∧ True)) := by kernel_rfl
theorem at_run (bs : Array Value) (i x : Int) (b : Bool) : (run E0 1000 0 [callFr 49 Tryd.f49.ntmps [bkS bs, i64 (.o i)] (Tryd.f49.body.getD .skip)] e0M).vc (retOk 0 [] (hbT x b) e0M) (fun _ _ => False) =
    (((decide (i < (0 : Int)) == false) = true → ((decide (i ≥ (32 : Int)) == false) = true → (((0 : Int) ≤ i ∧ i < (32 : Int)) ∧ True) ∧ (IsInt IntKind.u8 bs ((0 : Nat) + Int.toNat i * 2 + 1) ∧ True) ∧ ((intAt bs ((0 : Nat) + Int.toNat i * 2 + 1) != (1 : Int)) = true → x = (0 : Int) ∧ b = false ∧ True) ∧ ((intAt bs ((0 : Nat) + Int.toNat i * 2 + 1) != (1 : Int)) = false → (((0 : Int) ≤ i ∧ i < (32 : Int)) ∧ True) ∧ (IsInt IntKind.u32 bs ((0 : Nat) + Int.toNat i * 2) ∧ True) ∧ x = ari BinOp.add IntKind.u32 (ari BinOp.add IntKind.u32 (ari BinOp.mul IntKind.u32 (256 : Int) (intAt bs ((0 : Nat) + Int.toNat i * 2))) (IntKind.wrap IntKind.u32 i)) (1 : Int) ∧ b = true ∧ True)) ∧ ((decide (i ≥ (32 : Int)) == false) = false → x = (0 : Int) ∧ b = false ∧ True)) ∧ ((decide (i < (0 : Int)) == false) = false → x = (0 : Int) ∧ b = false ∧ True)) := by kernel_rfl
end Go.Proofs.YtjjeahnbppmigaaDoor
/- Of handle: the contracts of Slot, Good, At. No condition. -/
namespace Go.Proofs.YtjjeahnbppmigaaDoor
set_option linter.unusedSectionVars false
variable [Gh]
set_option maxRecDepth 100000
set_option linter.unusedSimpArgs false
omit [Gh] in
theorem sub_h {h : Int} (hh : inH h) (h0 : h ≠ 0) : ari .sub .u32 h 1 = h - 1 ∧ ari .rem .u32 (h - 1) 256 = (h - 1) % 256 ∧ ari .quo .u32 (h - 1) 256 = (h - 1) / 256 := by
  have h1 := hh.1
  have h2 := hh.2
  refine ⟨by rw [ari_sub, u32_in (by omega) (by omega)], by rw [ari_rem, Int.tmod_eq_emod_of_nonneg (by omega)], ?_⟩
  rw [ari_quo, Int.tdiv_eq_ediv_of_nonneg (by omega), u32_in (by omega) (by omega)]
section
variable {bs : Array Value}
theorem slot_con (h : Int) (m : SMem) : Con E0 32 [u32 h] m (needs [inH h] (.ret (ibT (slotI h) (slotOk h)) m)) := by
  refine Con.pure E0_ok (by kernel_rfl : E0.fn 32 = some Tryd.f32) (by kernel_rfl : Tryd.f32.body = some (Tryd.f32.body.getD .skip)) (by kernel_rfl) (by kernel_rfl) fun hq => ?_
  have hh : inH h := hq _ (by simp)
  refine (Good.ret [] (run_vc E0_ok 1000 (slot_run h (slotI h) (slotOk h)) ?_ (fun s m h => h) fun _ _ h => h.elim)).mono fun _ _ h => h.1
  have h1 := hh.1
  have h2 := hh.2
  by_cases h0 : h = 0
  · have d : (h == 0) = true := by rw [h0]; rfl
    have e : slotOk h = false := decide_eq_false (fun k => k.1 h0)
    simp only [d, e, slotI, beqT, beqF, Bool.not_true, Bool.not_false, true_implies, Bool.true_eq_false, Bool.false_eq_true, false_implies, if_false, and_true, true_and]
  · have d : (h == 0) = false := by simpa using h0
    obtain ⟨e1, e2, e3⟩ := sub_h hh h0
    by_cases c1 : (h - 1) % 256 ≥ 32
    · have d1 : decide ((h - 1) % 256 ≥ 32) = true := decide_eq_true c1
      have e : slotOk h = false := decide_eq_false (fun k => by omega)
      simp only [d, d1, e, e1, e2, e3, slotI, beqT, beqF, Bool.not_true, Bool.not_false, true_implies, Bool.true_eq_false, Bool.false_eq_true, false_implies, if_false, and_true, true_and]
    · have d1 : decide ((h - 1) % 256 ≥ 32) = false := decide_eq_false c1
      by_cases c2 : (h - 1) / 256 > 8388607
      · have d2 : decide ((h - 1) / 256 > 8388607) = true := decide_eq_true c2
        have e : slotOk h = false := decide_eq_false (fun k => by omega)
        simp only [d, d1, d2, e, e1, e2, e3, slotI, beqT, beqF, Bool.not_true, Bool.not_false, true_implies, Bool.true_eq_false, Bool.false_eq_true, false_implies, if_false, and_true, true_and]
      · have d2 : decide ((h - 1) / 256 > 8388607) = false := decide_eq_false c2
        have e : slotOk h = true := decide_eq_true ⟨h0, by omega, by omega⟩
        simp only [d, d1, d2, e, e1, e2, e3, slotI, beqT, beqF, Bool.not_true, Bool.not_false, true_implies, Bool.true_eq_false, Bool.false_eq_true, false_implies, if_true, and_true, true_and]
        exact (i64_in' (by omega) (by omega)).symm
theorem good_con (h : Int) (m : SMem) : Con E0 12 [bkS bs, u32 h] m (needs [BkOk bs, inH h] (.ret (sB (.o (goodB bs h))) m)) := by
  refine Con.pure E0_ok (by kernel_rfl : E0.fn 12 = some Tryd.f12) (by kernel_rfl : Tryd.f12.body = some (Tryd.f12.body.getD .skip)) (by kernel_rfl) (by kernel_rfl) fun hq => ?_
  have hb : BkOk bs := hq _ (by simp)
  have hh : inH h := hq _ (by simp)
  refine (Good.ret [] (run_vc E0_ok 1000 (good_run bs h (goodB bs h)) ?_ (fun s m h => h) fun _ _ h => h.elim)).mono fun _ _ h => h.1
  have h1 := hh.1
  have h2 := hh.2
  by_cases h0 : h = 0
  · have d : (h == 0) = true := by rw [h0]; rfl
    have e : slotOk h = false := decide_eq_false (fun k => k.1 h0)
    simp only [d, e, goodB, Bool.false_and, beqT, beqF, Bool.not_true, Bool.not_false, true_implies, Bool.true_eq_false, Bool.false_eq_true, false_implies, if_false, and_true, true_and]
  · have d : (h == 0) = false := by simpa using h0
    obtain ⟨e1, e2, e3⟩ := sub_h hh h0
    by_cases c1 : (h - 1) % 256 ≥ 32
    · have d1 : decide ((h - 1) % 256 ≥ 32) = true := decide_eq_true c1
      have e : slotOk h = false := decide_eq_false (fun k => by omega)
      simp only [d, d1, e, e1, e2, e3, goodB, Bool.false_and, beqT, beqF, Bool.not_true, Bool.not_false, true_implies, Bool.true_eq_false, Bool.false_eq_true, false_implies, if_false, and_true, true_and]
    · have d1 : decide ((h - 1) % 256 ≥ 32) = false := decide_eq_false c1
      by_cases c2 : (h - 1) / 256 > 8388607
      · have d2 : decide ((h - 1) / 256 > 8388607) = true := decide_eq_true c2
        have e : slotOk h = false := decide_eq_false (fun k => by omega)
        simp only [d, d1, d2, e, e1, e2, e3, goodB, Bool.false_and, beqT, beqF, Bool.not_true, Bool.not_false, true_implies, Bool.true_eq_false, Bool.false_eq_true, false_implies, if_false, and_true, true_and]
      · have d2 : decide ((h - 1) / 256 > 8388607) = false := decide_eq_false c2
        have e : slotOk h = true := decide_eq_true ⟨h0, by omega, by omega⟩
        have es : slotI h = (h - 1) % 256 := by unfold slotI; rw [if_pos e]
        have ew : IntKind.i64.wrap ((h - 1) % 256) = (h - 1) % 256 := i64_in' (by omega) (by omega)
        have hlt : ((h - 1) % 256).toNat < 32 := by omega
        simp only [d, d1, d2, e, e1, e2, e3, ew, es, goodB, Nat.zero_add, Bool.true_and, beqT, beqF, Bool.not_true, Bool.not_false, true_implies, Bool.true_eq_false, Bool.false_eq_true, false_implies, if_true, and_true, true_and]
        refine ⟨by omega, ⟨hb.a _ hlt, hb.k _ hlt⟩, ?_⟩
        unfold ageAt kindAt
        rw [Bool.eq_iff_iff]
        simp
omit [Gh] in
theorem nameI_run {i : Nat} {a : Int} (hi : i < 32) (ha : 0 ≤ a ∧ a ≤ 8388607) : ari .add .u32 (ari .add .u32 (ari .mul .u32 256 a) (IntKind.u32.wrap (i : Int))) 1 = nameI i a := by
  have e1 : ari .mul .u32 256 a = 256 * a := by rw [ari_mul]; exact u32_in (by omega) (by omega)
  have e2 : IntKind.u32.wrap (i : Int) = i := u32_in (by omega) (by omega)
  rw [e1, e2, ari_add, ari_add, u32_in (t := 256 * a + i) (by omega) (by omega), u32_in (by omega) (by omega)]
  rfl
theorem at_con (i : Int) (m : SMem) : Con E0 49 [bkS bs, i64 (.o i)] m (needs [BkOk bs] (.ret (hbT (atI bs i) (atOk bs i)) m)) := by
  refine Con.pure E0_ok (by kernel_rfl : E0.fn 49 = some Tryd.f49) (by kernel_rfl : Tryd.f49.body = some (Tryd.f49.body.getD .skip)) (by kernel_rfl) (by kernel_rfl) fun hq => ?_
  have hb : BkOk bs := hq _ (by simp)
  refine (Good.ret [] (run_vc E0_ok 1000 (at_run bs i (atI bs i) (atOk bs i)) ?_ (fun s m h => h) fun _ _ h => h.elim)).mono fun _ _ h => h.1
  by_cases c1 : i < 0
  · have d1 : decide (i < 0) = true := decide_eq_true c1
    have e : atOk bs i = false := by unfold atOk; rw [decide_eq_false (by omega)]; rfl
    simp only [d1, e, atI, beqT, beqF, Bool.not_true, Bool.not_false, true_implies, Bool.true_eq_false, Bool.false_eq_true, false_implies, if_false, and_true, true_and]
  · have d1 : decide (i < 0) = false := decide_eq_false c1
    by_cases c2 : i ≥ 32
    · have d2 : decide (i ≥ 32) = true := decide_eq_true c2
      have e : atOk bs i = false := by unfold atOk; rw [decide_eq_false (by omega)]; rfl
      simp only [d1, d2, e, atI, beqT, beqF, Bool.not_true, Bool.not_false, true_implies, Bool.true_eq_false, Bool.false_eq_true, false_implies, if_false, and_true, true_and]
    · have d2 : decide (i ≥ 32) = false := decide_eq_false c2
      obtain ⟨k, rfl⟩ : ∃ k : Nat, i = (k : Int) := ⟨i.toNat, by omega⟩
      have hk : k < 32 := by omega
      have ek : atOk bs (k : Int) = decide (kindAt bs k = 1) := by unfold atOk; rw [decide_eq_true (by omega), Bool.true_and, Int.toNat_natCast]
      by_cases c3 : kindAt bs k = 1
      · have d3 : (intAt bs (k * 2 + 1) != 1) = false := by
          have c3 : intAt bs (k * 2 + 1) = 1 := c3
          rw [c3]; rfl
        have en := nameI_run hk (hb.ra k hk)
        unfold ageAt at en
        rw [decide_eq_true c3] at ek
        simp only [d1, d2, d3, ek, atI, Nat.zero_add, Int.toNat_natCast, en, beqT, beqF, Bool.not_true, Bool.not_false, true_implies, Bool.true_eq_false, Bool.false_eq_true, false_implies, if_true, and_true, true_and]
        exact ⟨by omega, hb.k k hk, by omega, hb.a k hk, rfl⟩
      · have d3 : (intAt bs (k * 2 + 1) != 1) = true := by
          have c3 : ¬ intAt bs (k * 2 + 1) = 1 := c3
          simpa using c3
        rw [decide_eq_false c3] at ek
        simp only [d1, d2, d3, ek, atI, Nat.zero_add, Int.toNat_natCast, beqT, beqF, Bool.not_true, Bool.not_false, true_implies, Bool.true_eq_false, Bool.false_eq_true, false_implies, if_false, and_true, true_and]
        exact ⟨by omega, hb.k k hk⟩
end
end Go.Proofs.YtjjeahnbppmigaaDoor
/- Of handle: Void, Issue, Issued: their states. No condition. -/
namespace Go.Proofs.YtjjeahnbppmigaaDoor
set_option linter.unusedSectionVars false
variable [Gh]
set_option linter.unusedVariables false
theorem Con.args {E : Env} {f : FuncId} {l l' : List SV} {m : SMem} {t : Tree} (h : ∀ R vs, All2 (SV.ok R) l vs → All2 (SV.ok R) l' vs) (hc : Con E f l' m t) : Con E f l m t := by
 intro A hs
 obtain ⟨fn, h1, h2, h3⟩ := hc A hs
 exact ⟨fn, h1, h2, fun n0 F w0 w R args hl hR => h3 n0 F w0 w R args (h R _ hl) hR⟩
theorem Con.asked {E : Env} {g : FuncId} {l : List SV} {m : SMem} {q : List Prop} {t : Tree} (h : (∀ p ∈ q, p) → Con E g l m t) : Con E g l m (.need q t) := by
 intro A hs
 exact h hs.1 A hs.2
omit [Gh] in
noncomputable def conH1 (g : FuncId) (l : List SV) (m : SMem) : Option Tree := match g, l with
  | 32, [.s (.c (.f (.int .u32 h)))] => some (.need [inH h.den] (.ret (ibT (slotI h.den) (slotOk h.den)) m))
  | 12, [.s (.agg (.op bs)), .s (.c (.f (.int .u32 h)))] => some (.need [BkOk bs, inH h.den] (.ret (sB (.o (goodB bs h.den))) m))
  | 49, [.s (.agg (.op bs)), .s (.c (.f (.int .i64 i)))] => some (.need [BkOk bs] (.ret (hbT (atI bs i.den) (atOk bs i.den)) m))
  | _, _ => none
omit [Gh] in
noncomputable def EH : Env := ⟨Tryd.prog, fnOf, conH1, haltAt [38002, 39003]⟩
omit [Gh] in
noncomputable def hI_d0 : List SIt := sekF Tryd.f38 2
omit [Gh] in
noncomputable def hI_F (bs : Array Value) (i : Int) (zz : Array Value) : List SFr := [frOf 38 Tryd.f38 [(1, ptr 0 (.l 0)), (2, ptr 1 (.l 0)), (3, .s (.c (.f (.int .u32 (.l 0))))), (6, i64 (.o i))] hI_d0]
omit [Gh] in
noncomputable def hI_M (bs : Array Value) (i : Int) (zz : Array Value) : SMem := mkM 2 [(0, ⟨.op bs, 31, true⟩), (1, ⟨.op zz, 31, true⟩)]
omit [Gh] in
noncomputable def hI_n (bs : Array Value) (Q : Int → Array Value → Prop) (fs : List SFr) (m : SMem) : Prop := (match frNth fs 0 with | some f0 => (match rdI f0 6 with | some i => (match rdP f0 1 with | some p0 => (match rdP f0 2 with | some p1 => (match rdA m p1 with | some zz => Q i zz ∧ subOk 0 [(0, p0), (1, p1)] (hI_F bs i zz) (hI_M bs i zz) fs m | none => False) | none => False) | none => False) | none => False) | none => False)
omit [Gh] in
noncomputable def hZ_d0 : List SIt := sekF Tryd.f39 3
omit [Gh] in
noncomputable def hZ_F (bs : Array Value) (i : Int) : List SFr := [frOf 39 Tryd.f39 [(1, ptr 0 (.l 0)), (3, .s (.c (.f (.lit (.slice none 0 0))))), (7, i64 (.o i))] hZ_d0]
omit [Gh] in
noncomputable def hZ_M (bs : Array Value) (i : Int) : SMem := mkM 1 [(0, ⟨.op bs, 31, true⟩)]
omit [Gh] in
noncomputable def hZ_n (bs : Array Value) (Q : Int → Prop) (fs : List SFr) (m : SMem) : Prop := (match frNth fs 0 with | some f0 => (match rdI f0 7 with | some i => (match rdP f0 1 with | some p0 => Q i ∧ subOk 0 [(0, p0)] (hZ_F bs i) (hZ_M bs i) fs m | none => False) | none => False) | none => False)
omit [Gh] in
noncomputable def hS_d0 : List SIt := sekF Tryd.f39 3
omit [Gh] in
noncomputable def hS_F (bs : Array Value) (i : Int) (k : Nat) (cs : Array Value) : List SFr := [frOf 39 Tryd.f39 [(1, ptr 0 (.l 0)), (3, .s (.c (.f (.slice 1 (.l 0) (.o k) (.full 1))))), (7, i64 (.o i))] hS_d0]
omit [Gh] in
noncomputable def hS_M (bs : Array Value) (i : Int) (k : Nat) (cs : Array Value) : SMem := mkM 2 [(0, ⟨.op bs, 31, true⟩), (1, ⟨.pop cs, 32, true⟩)]
omit [Gh] in
noncomputable def hS_n (bs : Array Value) (Q : Int → Nat → Array Value → Prop) (fs : List SFr) (m : SMem) : Prop := (match frNth fs 0 with | some f0 => (match rdI f0 7 with | some i => (match rdP f0 1 with | some p0 => (match rdSI f0 3 with | some p1 => (match rdSN f0 3 with | some k => (match rdA m p1 with | some cs => Q i k cs ∧ subOk 0 [(0, p0), (1, p1)] (hS_F bs i k cs) (hS_M bs i k cs) fs m | none => False) | none => False) | none => False) | none => False) | none => False) | none => False)
omit [Gh] in
noncomputable def freshA (k : Nat) (cs : Array Value) (ty : TypeId) (s : SV) (m : SMem) : Prop := match s with | .s (.c (.f (.slice sid _ _ _))) => retOk 0 [(0, sid)] (.s (.c (.f (.slice 0 (.l 0) (.o k) (.full 1))))) (mkM 1 [(0, ⟨.pop cs, ty, true⟩)]) s m | _ => False
omit [Gh] in
noncomputable def nilA (s : SV) (m : SMem) : Prop := retOk 0 [] (.s (.c (.f (.lit (.slice none 0 0))))) e0M s m
omit [Gh] in
noncomputable def hZS (bs : Array Value) (QZ : Int → Prop) (QS : Int → Nat → Array Value → Prop) (fs : List SFr) (m : SMem) : Prop := match fs with | f :: _ => (match f.tm.get 3 with | some (.s (.c (.f (.slice _ _ _ _)))) => hS_n bs QS fs m | _ => hZ_n bs QZ fs m) | [] => False
omit [Gh] in
noncomputable def vd_t (bs : Array Value) (h : Int) (o : Array Value) (b : Bool) : Tree := run EH 1000 0 [callFr 34 Tryd.f34.ntmps [bkS bs, u32 h] (Tryd.f34.body.getD .skip)] e0M
omit [Gh] in
noncomputable def vd_x (bs : Array Value) (h : Int) (o : Array Value) (b : Bool)  (fs : List SFr) (m : SMem) : Prop := False
omit [Gh] in
noncomputable def is0_t (bs : Array Value) : Tree := run EH 1000 0 [callFr 38 Tryd.f38.ntmps [bkS bs] (Tryd.f38.body.getD .skip)] e0M
omit [Gh] in
noncomputable def is0_x (bs : Array Value) (QhI : Int → Array Value → Prop) (fs : List SFr) (m : SMem) : Prop := hI_n bs QhI fs m
omit [Gh] in
noncomputable def id0_t (bs : Array Value) : Tree := run EH 1000 0 [callFr 39 Tryd.f39.ntmps [bkS bs] (Tryd.f39.body.getD .skip)] e0M
omit [Gh] in
noncomputable def id0_x (bs : Array Value) (QhZ : Int → Prop) (fs : List SFr) (m : SMem) : Prop := hZ_n bs QhZ fs m
omit [Gh] in
theorem hI_d0_ok (r : Nat → Option Nat) : TodoOk r hI_d0 hI_d0 := TodoOk.it (by kernel_rfl)
omit [Gh] in
theorem hZ_d0_ok (r : Nat → Option Nat) : TodoOk r hZ_d0 hZ_d0 := TodoOk.it (by kernel_rfl)
omit [Gh] in
theorem hS_d0_ok (r : Nat → Option Nat) : TodoOk r hS_d0 hS_d0 := TodoOk.it (by kernel_rfl)
theorem hI_good {A : SV → SMem → Prop} {bs : Array Value} {Q : Int → Array Value → Prop} {fs : List SFr} {m : SMem} (H : ∀ i zz, Q i zz → Good Tryd.prog A 0 (hI_F bs i zz) (hI_M bs i zz)) (hb : hI_n bs Q fs m) : Good Tryd.prog A 0 fs m := by
  unfold hI_n at hb
  split at hb
  rotate_left
  · exact hb.elim
  split at hb
  rotate_left
  · exact hb.elim
  split at hb
  rotate_left
  · exact hb.elim
  split at hb
  rotate_left
  · exact hb.elim
  split at hb
  rotate_left
  · exact hb.elim
  exact Good.of_sub hb.2 (H _ _ hb.1)
theorem hZ_good {A : SV → SMem → Prop} {bs : Array Value} {Q : Int → Prop} {fs : List SFr} {m : SMem} (H : ∀ i, Q i → Good Tryd.prog A 0 (hZ_F bs i) (hZ_M bs i)) (hb : hZ_n bs Q fs m) : Good Tryd.prog A 0 fs m := by
  unfold hZ_n at hb
  split at hb
  rotate_left
  · exact hb.elim
  split at hb
  rotate_left
  · exact hb.elim
  split at hb
  rotate_left
  · exact hb.elim
  exact Good.of_sub hb.2 (H _ hb.1)
theorem hS_good {A : SV → SMem → Prop} {bs : Array Value} {Q : Int → Nat → Array Value → Prop} {fs : List SFr} {m : SMem} (H : ∀ i k cs, Q i k cs → Good Tryd.prog A 0 (hS_F bs i k cs) (hS_M bs i k cs)) (hb : hS_n bs Q fs m) : Good Tryd.prog A 0 fs m := by
  unfold hS_n at hb
  split at hb
  rotate_left
  · exact hb.elim
  split at hb
  rotate_left
  · exact hb.elim
  split at hb
  rotate_left
  · exact hb.elim
  split at hb
  rotate_left
  · exact hb.elim
  split at hb
  rotate_left
  · exact hb.elim
  split at hb
  rotate_left
  · exact hb.elim
  exact Good.of_sub hb.2 (H _ _ _ hb.1)
theorem is0_go {A : SV → SMem → Prop} {bs : Array Value} {QhI : Int → Array Value → Prop} {fs : List SFr} {m : SMem} (hhI : ∀ i' zz', QhI i' zz' → Good Tryd.prog A 0 (hI_F bs i' zz') (hI_M bs i' zz')) (hb : is0_x bs QhI fs m) : Good Tryd.prog A 0 fs m := by
  unfold is0_x at hb
  exact hI_good hhI hb
theorem id0_go {A : SV → SMem → Prop} {bs : Array Value} {QhZ : Int → Prop} {fs : List SFr} {m : SMem} (hhZ : ∀ i', QhZ i' → Good Tryd.prog A 0 (hZ_F bs i') (hZ_M bs i')) (hb : id0_x bs QhZ fs m) : Good Tryd.prog A 0 fs m := by
  unfold id0_x at hb
  exact hZ_good hhZ hb
end Go.Proofs.YtjjeahnbppmigaaDoor
/- Of handle: Void, Issue, Issued: their states. -/
namespace Go.Proofs.YtjjeahnbppmigaaDoor
set_option maxRecDepth 100000
theorem vd_vc (bs : Array Value) (h : Int) (o : Array Value) (b : Bool) : (vd_t bs h o b).vc ((retOk 0 [] (bbT o b) e0M)) (vd_x bs h o b ) =
    ((Array.size bs = (64 : Nat) ∧ True) ∧ (BkOk bs ∧ ((0 : Int) ≤ h ∧ h < (4294967296 : Int)) ∧ True) ∧ ((!goodB bs h) = true → (Array.size bs = (64 : Nat) ∧ True) ∧ (Array.size bs = (64 : Nat) ∧ Array.size bs = (64 : Nat) ∧ True) ∧ (Array.size bs = (64 : Nat) ∧ True) ∧ o = bs ∧ b = false ∧ True) ∧ ((!goodB bs h) = false → (((0 : Int) ≤ h ∧ h < (4294967296 : Int)) ∧ True) ∧ (((0 : Int) ≤ slotI h ∧ slotI h < (32 : Int)) ∧ True) ∧ (IsInt IntKind.u32 bs ((0 : Nat) + Int.toNat (slotI h) * 2) ∧ True) ∧ ((intAt bs ((0 : Nat) + Int.toNat (slotI h) * 2) == (8388607 : Int)) = true → (((0 : Int) ≤ slotI h ∧ slotI h < (32 : Int)) ∧ True) ∧ ((0 : Nat) + Int.toNat (slotI h) * 2 + 1 < Array.size bs ∧ True) ∧ (Array.size (Array.setIfInBounds bs ((0 : Nat) + Int.toNat (slotI h) * 2 + 1) (Value.int IntKind.u8 (2 : Int))) = (64 : Nat) ∧ True) ∧ (Array.size (Array.setIfInBounds bs ((0 : Nat) + Int.toNat (slotI h) * 2 + 1) (Value.int IntKind.u8 (2 : Int))) = (64 : Nat) ∧ Array.size (Array.setIfInBounds bs ((0 : Nat) + Int.toNat (slotI h) * 2 + 1) (Value.int IntKind.u8 (2 : Int))) = (64 : Nat) ∧ True) ∧ (Array.size (Array.setIfInBounds bs ((0 : Nat) + Int.toNat (slotI h) * 2 + 1) (Value.int IntKind.u8 (2 : Int))) = (64 : Nat) ∧ True) ∧ o = Array.setIfInBounds bs ((0 : Nat) + Int.toNat (slotI h) * 2 + 1) (Value.int IntKind.u8 (2 : Int)) ∧ b = true ∧ True) ∧ ((intAt bs ((0 : Nat) + Int.toNat (slotI h) * 2) == (8388607 : Int)) = false → (((0 : Int) ≤ slotI h ∧ slotI h < (32 : Int)) ∧ True) ∧ (IsInt IntKind.u32 bs ((0 : Nat) + Int.toNat (slotI h) * 2) ∧ True) ∧ (((0 : Int) ≤ slotI h ∧ slotI h < (32 : Int)) ∧ True) ∧ ((0 : Nat) + Int.toNat (slotI h) * 2 + List.length [Value.int IntKind.u32 (ari BinOp.add IntKind.u32 (intAt bs ((0 : Nat) + Int.toNat (slotI h) * 2)) (1 : Int)), Value.int IntKind.u8 (0 : Int)] ≤ Array.size bs ∧ True) ∧ (Array.size (putAt bs ((0 : Nat) + Int.toNat (slotI h) * 2) [Value.int IntKind.u32 (ari BinOp.add IntKind.u32 (intAt bs ((0 : Nat) + Int.toNat (slotI h) * 2)) (1 : Int)), Value.int IntKind.u8 (0 : Int)]) = (64 : Nat) ∧ True) ∧ (Array.size (putAt bs ((0 : Nat) + Int.toNat (slotI h) * 2) [Value.int IntKind.u32 (ari BinOp.add IntKind.u32 (intAt bs ((0 : Nat) + Int.toNat (slotI h) * 2)) (1 : Int)), Value.int IntKind.u8 (0 : Int)]) = (64 : Nat) ∧ Array.size (putAt bs ((0 : Nat) + Int.toNat (slotI h) * 2) [Value.int IntKind.u32 (ari BinOp.add IntKind.u32 (intAt bs ((0 : Nat) + Int.toNat (slotI h) * 2)) (1 : Int)), Value.int IntKind.u8 (0 : Int)]) = (64 : Nat) ∧ True) ∧ (Array.size (putAt bs ((0 : Nat) + Int.toNat (slotI h) * 2) [Value.int IntKind.u32 (ari BinOp.add IntKind.u32 (intAt bs ((0 : Nat) + Int.toNat (slotI h) * 2)) (1 : Int)), Value.int IntKind.u8 (0 : Int)]) = (64 : Nat) ∧ True) ∧ o = putAt bs ((0 : Nat) + Int.toNat (slotI h) * 2) [Value.int IntKind.u32 (ari BinOp.add IntKind.u32 (intAt bs ((0 : Nat) + Int.toNat (slotI h) * 2)) (1 : Int)), Value.int IntKind.u8 (0 : Int)] ∧ b = true ∧ True))) := by kernel_rfl
theorem is0_vc (bs : Array Value) (QhI : Int → Array Value → Prop) : (is0_t bs).vc ((fun _ _ => False)) (is0_x bs QhI) =
    (QhI (0 : Int) #[Value.int IntKind.u32 (0 : Int), Value.int IntKind.u8 (0 : Int), Value.int IntKind.u32 (0 : Int), Value.int IntKind.u8 (0 : Int), Value.int IntKind.u32 (0 : Int), Value.int IntKind.u8 (0 : Int), Value.int IntKind.u32 (0 : Int), Value.int IntKind.u8 (0 : Int), Value.int IntKind.u32 (0 : Int), Value.int IntKind.u8 (0 : Int), Value.int IntKind.u32 (0 : Int), Value.int IntKind.u8 (0 : Int), Value.int IntKind.u32 (0 : Int), Value.int IntKind.u8 (0 : Int), Value.int IntKind.u32 (0 : Int), Value.int IntKind.u8 (0 : Int), Value.int IntKind.u32 (0 : Int), Value.int IntKind.u8 (0 : Int), Value.int IntKind.u32 (0 : Int), Value.int IntKind.u8 (0 : Int), Value.int IntKind.u32 (0 : Int), Value.int IntKind.u8 (0 : Int), Value.int IntKind.u32 (0 : Int), Value.int IntKind.u8 (0 : Int), Value.int IntKind.u32 (0 : Int), Value.int IntKind.u8 (0 : Int), Value.int IntKind.u32 (0 : Int), Value.int IntKind.u8 (0 : Int), Value.int IntKind.u32 (0 : Int), Value.int IntKind.u8 (0 : Int), Value.int IntKind.u32 (0 : Int), Value.int IntKind.u8 (0 : Int), Value.int IntKind.u32 (0 : Int), Value.int IntKind.u8 (0 : Int), Value.int IntKind.u32 (0 : Int), Value.int IntKind.u8 (0 : Int), Value.int IntKind.u32 (0 : Int), Value.int IntKind.u8 (0 : Int), Value.int IntKind.u32 (0 : Int), Value.int IntKind.u8 (0 : Int), Value.int IntKind.u32 (0 : Int), Value.int IntKind.u8 (0 : Int), Value.int IntKind.u32 (0 : Int), Value.int IntKind.u8 (0 : Int), Value.int IntKind.u32 (0 : Int), Value.int IntKind.u8 (0 : Int), Value.int IntKind.u32 (0 : Int), Value.int IntKind.u8 (0 : Int), Value.int IntKind.u32 (0 : Int), Value.int IntKind.u8 (0 : Int), Value.int IntKind.u32 (0 : Int), Value.int IntKind.u8 (0 : Int), Value.int IntKind.u32 (0 : Int), Value.int IntKind.u8 (0 : Int), Value.int IntKind.u32 (0 : Int), Value.int IntKind.u8 (0 : Int), Value.int IntKind.u32 (0 : Int), Value.int IntKind.u8 (0 : Int), Value.int IntKind.u32 (0 : Int), Value.int IntKind.u8 (0 : Int), Value.int IntKind.u32 (0 : Int), Value.int IntKind.u8 (0 : Int), Value.int IntKind.u32 (0 : Int), Value.int IntKind.u8 (0 : Int)] ∧ CallKind.normal = CallKind.normal ∧ TodoOk (ren 0 [(0, 0), (1, 1)]) hI_d0 hI_d0 ∧ (0 : Int) = (0 : Int) ∧ (31 : TypeId) = (31 : Nat) ∧ bs = bs ∧ (31 : TypeId) = (31 : Nat) ∧ #[Value.int IntKind.u32 (0 : Int), Value.int IntKind.u8 (0 : Int), Value.int IntKind.u32 (0 : Int), Value.int IntKind.u8 (0 : Int), Value.int IntKind.u32 (0 : Int), Value.int IntKind.u8 (0 : Int), Value.int IntKind.u32 (0 : Int), Value.int IntKind.u8 (0 : Int), Value.int IntKind.u32 (0 : Int), Value.int IntKind.u8 (0 : Int), Value.int IntKind.u32 (0 : Int), Value.int IntKind.u8 (0 : Int), Value.int IntKind.u32 (0 : Int), Value.int IntKind.u8 (0 : Int), Value.int IntKind.u32 (0 : Int), Value.int IntKind.u8 (0 : Int), Value.int IntKind.u32 (0 : Int), Value.int IntKind.u8 (0 : Int), Value.int IntKind.u32 (0 : Int), Value.int IntKind.u8 (0 : Int), Value.int IntKind.u32 (0 : Int), Value.int IntKind.u8 (0 : Int), Value.int IntKind.u32 (0 : Int), Value.int IntKind.u8 (0 : Int), Value.int IntKind.u32 (0 : Int), Value.int IntKind.u8 (0 : Int), Value.int IntKind.u32 (0 : Int), Value.int IntKind.u8 (0 : Int), Value.int IntKind.u32 (0 : Int), Value.int IntKind.u8 (0 : Int), Value.int IntKind.u32 (0 : Int), Value.int IntKind.u8 (0 : Int), Value.int IntKind.u32 (0 : Int), Value.int IntKind.u8 (0 : Int), Value.int IntKind.u32 (0 : Int), Value.int IntKind.u8 (0 : Int), Value.int IntKind.u32 (0 : Int), Value.int IntKind.u8 (0 : Int), Value.int IntKind.u32 (0 : Int), Value.int IntKind.u8 (0 : Int), Value.int IntKind.u32 (0 : Int), Value.int IntKind.u8 (0 : Int), Value.int IntKind.u32 (0 : Int), Value.int IntKind.u8 (0 : Int), Value.int IntKind.u32 (0 : Int), Value.int IntKind.u8 (0 : Int), Value.int IntKind.u32 (0 : Int), Value.int IntKind.u8 (0 : Int), Value.int IntKind.u32 (0 : Int), Value.int IntKind.u8 (0 : Int), Value.int IntKind.u32 (0 : Int), Value.int IntKind.u8 (0 : Int), Value.int IntKind.u32 (0 : Int), Value.int IntKind.u8 (0 : Int), Value.int IntKind.u32 (0 : Int), Value.int IntKind.u8 (0 : Int), Value.int IntKind.u32 (0 : Int), Value.int IntKind.u8 (0 : Int), Value.int IntKind.u32 (0 : Int), Value.int IntKind.u8 (0 : Int), Value.int IntKind.u32 (0 : Int), Value.int IntKind.u8 (0 : Int), Value.int IntKind.u32 (0 : Int), Value.int IntKind.u8 (0 : Int)] = #[Value.int IntKind.u32 (0 : Int), Value.int IntKind.u8 (0 : Int), Value.int IntKind.u32 (0 : Int), Value.int IntKind.u8 (0 : Int), Value.int IntKind.u32 (0 : Int), Value.int IntKind.u8 (0 : Int), Value.int IntKind.u32 (0 : Int), Value.int IntKind.u8 (0 : Int), Value.int IntKind.u32 (0 : Int), Value.int IntKind.u8 (0 : Int), Value.int IntKind.u32 (0 : Int), Value.int IntKind.u8 (0 : Int), Value.int IntKind.u32 (0 : Int), Value.int IntKind.u8 (0 : Int), Value.int IntKind.u32 (0 : Int), Value.int IntKind.u8 (0 : Int), Value.int IntKind.u32 (0 : Int), Value.int IntKind.u8 (0 : Int), Value.int IntKind.u32 (0 : Int), Value.int IntKind.u8 (0 : Int), Value.int IntKind.u32 (0 : Int), Value.int IntKind.u8 (0 : Int), Value.int IntKind.u32 (0 : Int), Value.int IntKind.u8 (0 : Int), Value.int IntKind.u32 (0 : Int), Value.int IntKind.u8 (0 : Int), Value.int IntKind.u32 (0 : Int), Value.int IntKind.u8 (0 : Int), Value.int IntKind.u32 (0 : Int), Value.int IntKind.u8 (0 : Int), Value.int IntKind.u32 (0 : Int), Value.int IntKind.u8 (0 : Int), Value.int IntKind.u32 (0 : Int), Value.int IntKind.u8 (0 : Int), Value.int IntKind.u32 (0 : Int), Value.int IntKind.u8 (0 : Int), Value.int IntKind.u32 (0 : Int), Value.int IntKind.u8 (0 : Int), Value.int IntKind.u32 (0 : Int), Value.int IntKind.u8 (0 : Int), Value.int IntKind.u32 (0 : Int), Value.int IntKind.u8 (0 : Int), Value.int IntKind.u32 (0 : Int), Value.int IntKind.u8 (0 : Int), Value.int IntKind.u32 (0 : Int), Value.int IntKind.u8 (0 : Int), Value.int IntKind.u32 (0 : Int), Value.int IntKind.u8 (0 : Int), Value.int IntKind.u32 (0 : Int), Value.int IntKind.u8 (0 : Int), Value.int IntKind.u32 (0 : Int), Value.int IntKind.u8 (0 : Int), Value.int IntKind.u32 (0 : Int), Value.int IntKind.u8 (0 : Int), Value.int IntKind.u32 (0 : Int), Value.int IntKind.u8 (0 : Int), Value.int IntKind.u32 (0 : Int), Value.int IntKind.u8 (0 : Int), Value.int IntKind.u32 (0 : Int), Value.int IntKind.u8 (0 : Int), Value.int IntKind.u32 (0 : Int), Value.int IntKind.u8 (0 : Int), Value.int IntKind.u32 (0 : Int), Value.int IntKind.u8 (0 : Int)] ∧ True) := by kernel_rfl
theorem id0_vc (bs : Array Value) (QhZ : Int → Prop) : (id0_t bs).vc ((fun _ _ => False)) (id0_x bs QhZ) =
    (QhZ (0 : Int) ∧ CallKind.normal = CallKind.normal ∧ TodoOk (ren 0 [(0, 0)]) hZ_d0 hZ_d0 ∧ Value.slice none (0 : Nat) (0 : Nat) = Value.slice none (0 : Nat) (0 : Nat) ∧ (0 : Int) = (0 : Int) ∧ (31 : TypeId) = (31 : Nat) ∧ bs = bs ∧ True) := by kernel_rfl
theorem is1 (bs : Array Value) (i : Int) (zz : Array Value) (o : Array Value) (x : Int) (b : Bool) (Q : Int → Array Value → Prop) : (stepT EH.go (run EH 1000) 0 (hI_F bs i zz) (hI_M bs i zz)).vc (retOk 0 [] (bhbT o x b) e0M) (hI_n bs Q) =
    ((decide (i < (32 : Int)) = true → (((0 : Int) ≤ i ∧ i < (32 : Int)) ∧ True) ∧ (IsInt IntKind.u8 bs ((0 : Nat) + Int.toNat i * 2 + 1) ∧ True) ∧ ((intAt bs ((0 : Nat) + Int.toNat i * 2 + 1) == (0 : Int)) = true → (((0 : Int) ≤ i ∧ i < (32 : Int)) ∧ True) ∧ ((0 : Nat) + Int.toNat i * 2 + 1 < Array.size bs ∧ True) ∧ (Array.size (Array.setIfInBounds bs ((0 : Nat) + Int.toNat i * 2 + 1) (Value.int IntKind.u8 (1 : Int))) = (64 : Nat) ∧ True) ∧ (((0 : Int) ≤ i ∧ i < (32 : Int)) ∧ True) ∧ (IsInt IntKind.u32 (Array.setIfInBounds bs ((0 : Nat) + Int.toNat i * 2 + 1) (Value.int IntKind.u8 (1 : Int))) ((0 : Nat) + Int.toNat i * 2) ∧ True) ∧ (Array.size (Array.setIfInBounds bs ((0 : Nat) + Int.toNat i * 2 + 1) (Value.int IntKind.u8 (1 : Int))) = (64 : Nat) ∧ Array.size (Array.setIfInBounds bs ((0 : Nat) + Int.toNat i * 2 + 1) (Value.int IntKind.u8 (1 : Int))) = Array.size zz ∧ True) ∧ (Array.size (Array.setIfInBounds bs ((0 : Nat) + Int.toNat i * 2 + 1) (Value.int IntKind.u8 (1 : Int))) = (64 : Nat) ∧ True) ∧ o = Array.setIfInBounds bs ((0 : Nat) + Int.toNat i * 2 + 1) (Value.int IntKind.u8 (1 : Int)) ∧ x = ari BinOp.add IntKind.u32 (ari BinOp.add IntKind.u32 (ari BinOp.mul IntKind.u32 (256 : Int) (intAt (Array.setIfInBounds bs ((0 : Nat) + Int.toNat i * 2 + 1) (Value.int IntKind.u8 (1 : Int))) ((0 : Nat) + Int.toNat i * 2))) (IntKind.wrap IntKind.u32 i)) (1 : Int) ∧ b = true ∧ True) ∧ ((intAt bs ((0 : Nat) + Int.toNat i * 2 + 1) == (0 : Int)) = false → Q (ari BinOp.add IntKind.i64 i (1 : Int)) zz ∧ CallKind.normal = CallKind.normal ∧ TodoOk (ren 0 [(0, 0), (1, 1)]) hI_d0 hI_d0 ∧ ari BinOp.add IntKind.i64 i (1 : Int) = ari BinOp.add IntKind.i64 i (1 : Int) ∧ (31 : TypeId) = (31 : TypeId) ∧ bs = bs ∧ (31 : TypeId) = (31 : TypeId) ∧ zz = zz ∧ True)) ∧ (decide (i < (32 : Int)) = false → (Array.size bs = (64 : Nat) ∧ True) ∧ (Array.size bs = (64 : Nat) ∧ Array.size bs = Array.size zz ∧ True) ∧ (Array.size bs = (64 : Nat) ∧ True) ∧ o = bs ∧ x = (0 : Int) ∧ b = false ∧ True)) := by kernel_rfl
theorem idZ_n (bs : Array Value) (i : Int) (QZ : Int → Prop) (QS : Int → Nat → Array Value → Prop) : (stepT EH.go (run EH 1000) 0 (hZ_F bs i) (hZ_M bs i)).vc nilA (hZS bs QZ QS) =
    ((decide (i < (32 : Int)) = true → (Array.size bs = (64 : Nat) ∧ True) ∧ (BkOk bs ∧ True) ∧ (atOk bs i = true → QS (ari BinOp.add IntKind.i64 i (1 : Int)) (1 : Nat) #[Value.int IntKind.u32 (atI bs i)] ∧ CallKind.normal = CallKind.normal ∧ TodoOk (ren 0 [(0, 0), (1, 2)]) hZ_d0 hZ_d0 ∧ (1 : Nat) = (1 : Nat) ∧ ari BinOp.add IntKind.i64 i (1 : Int) = ari BinOp.add IntKind.i64 i (1 : Int) ∧ (31 : TypeId) = (31 : TypeId) ∧ bs = bs ∧ (32 : TypeId) = (32 : Nat) ∧ #[Value.int IntKind.u32 (atI bs i)] = #[Value.int IntKind.u32 (atI bs i)] ∧ True) ∧ (atOk bs i = false → QZ (ari BinOp.add IntKind.i64 i (1 : Int)) ∧ CallKind.normal = CallKind.normal ∧ TodoOk (ren 0 [(0, 0)]) hZ_d0 hZ_d0 ∧ Value.slice none (0 : Nat) (0 : Nat) = Value.slice none (0 : Nat) (0 : Nat) ∧ ari BinOp.add IntKind.i64 i (1 : Int) = ari BinOp.add IntKind.i64 i (1 : Int) ∧ (31 : TypeId) = (31 : TypeId) ∧ bs = bs ∧ True)) ∧ (decide (i < (32 : Int)) = false → Value.slice none (0 : Nat) (0 : Nat) = Value.slice none (0 : Nat) (0 : Nat) ∧ True)) := by kernel_rfl
theorem idZ_s (bs : Array Value) (i : Int) (k : Nat) (cs : Array Value) (QZ : Int → Prop) (QS : Int → Nat → Array Value → Prop) : (stepT EH.go (run EH 1000) 0 (hZ_F bs i) (hZ_M bs i)).vc (freshA k cs 32) (hZS bs QZ QS) =
    ((decide (i < (32 : Int)) = true → (Array.size bs = (64 : Nat) ∧ True) ∧ (BkOk bs ∧ True) ∧ (atOk bs i = true → QS (ari BinOp.add IntKind.i64 i (1 : Int)) (1 : Nat) #[Value.int IntKind.u32 (atI bs i)] ∧ CallKind.normal = CallKind.normal ∧ TodoOk (ren 0 [(0, 0), (1, 2)]) hZ_d0 hZ_d0 ∧ (1 : Nat) = (1 : Nat) ∧ ari BinOp.add IntKind.i64 i (1 : Int) = ari BinOp.add IntKind.i64 i (1 : Int) ∧ (31 : TypeId) = (31 : TypeId) ∧ bs = bs ∧ (32 : TypeId) = (32 : Nat) ∧ #[Value.int IntKind.u32 (atI bs i)] = #[Value.int IntKind.u32 (atI bs i)] ∧ True) ∧ (atOk bs i = false → QZ (ari BinOp.add IntKind.i64 i (1 : Int)) ∧ CallKind.normal = CallKind.normal ∧ TodoOk (ren 0 [(0, 0)]) hZ_d0 hZ_d0 ∧ Value.slice none (0 : Nat) (0 : Nat) = Value.slice none (0 : Nat) (0 : Nat) ∧ ari BinOp.add IntKind.i64 i (1 : Int) = ari BinOp.add IntKind.i64 i (1 : Int) ∧ (31 : TypeId) = (31 : TypeId) ∧ bs = bs ∧ True)) ∧ (decide (i < (32 : Int)) = false → False)) := by kernel_rfl
theorem idS_s (bs : Array Value) (i : Int) (k : Nat) (cs : Array Value) (kF : Nat) (csF : Array Value) (QS : Int → Nat → Array Value → Prop) : (stepT EH.go (run EH 1000) 0 (hS_F bs i k cs) (hS_M bs i k cs)).vc (freshA kF csF 32) (hS_n bs QS) =
    ((decide (i < (32 : Int)) = true → (Array.size bs = (64 : Nat) ∧ True) ∧ (BkOk bs ∧ True) ∧ (atOk bs i = true → (((k + 1) * 4 ≤ (140737488355328 : Nat) ∧ k + 1 ≤ (140737488355328 : Nat)) ∧ k * 1 = Array.size cs ∧ True) ∧ QS (ari BinOp.add IntKind.i64 i (1 : Int)) (k + 1) (cs ++ #[Value.int IntKind.u32 (atI bs i)]) ∧ CallKind.normal = CallKind.normal ∧ TodoOk (ren 0 [(0, 0), (1, 3)]) hZ_d0 hZ_d0 ∧ k + 1 = k + 1 ∧ ari BinOp.add IntKind.i64 i (1 : Int) = ari BinOp.add IntKind.i64 i (1 : Int) ∧ (31 : TypeId) = (31 : TypeId) ∧ bs = bs ∧ (32 : TypeId) = (32 : Nat) ∧ cs ++ #[Value.int IntKind.u32 (atI bs i)] = cs ++ #[Value.int IntKind.u32 (atI bs i)] ∧ True) ∧ (atOk bs i = false → QS (ari BinOp.add IntKind.i64 i (1 : Int)) k cs ∧ CallKind.normal = CallKind.normal ∧ TodoOk (ren 0 [(0, 0), (1, 1)]) hZ_d0 hZ_d0 ∧ k = k ∧ ari BinOp.add IntKind.i64 i (1 : Int) = ari BinOp.add IntKind.i64 i (1 : Int) ∧ (31 : TypeId) = (31 : TypeId) ∧ bs = bs ∧ (32 : TypeId) = (32 : TypeId) ∧ cs = cs ∧ True)) ∧ (decide (i < (32 : Int)) = false → kF = k ∧ (32 : TypeId) = (32 : TypeId) ∧ csF = cs ∧ True)) := by kernel_rfl
end Go.Proofs.YtjjeahnbppmigaaDoor
/- Of handle: the contracts of Void, Issue, Issued. No condition. -/
namespace Go.Proofs.YtjjeahnbppmigaaDoor
set_option linter.unusedSectionVars false
variable [Gh]
set_option maxRecDepth 100000
set_option linter.unusedSimpArgs false
set_option linter.unusedVariables false
theorem conH1_ok : ∀ g l m t, conH1 g l m = some t → Con E0 g l m t := by
  intro g l m t h
  unfold conH1 at h
  split at h
  · rename_i x; cases h
    refine Con.asked fun hq => ?_
    have h := slot_con x.den m
    refine Con.args (l' := [u32 x.den]) (fun R vs ha => by
      match vs, ha with
      | [v], ha => exact ⟨ha.1, trivial⟩) ?_
    intro A hs
    exact h A ⟨fun p hp => hq p hp, hs⟩
  · rename_i bs x; cases h
    refine Con.asked fun hq => ?_
    refine Con.args (l' := [bkS bs, u32 x.den]) (fun R vs ha => by
      match vs, ha with
      | [v, w], ha => exact ⟨ha.1, ha.2.1, trivial⟩) ?_
    intro A hs
    exact good_con x.den m A ⟨fun p hp => hq p hp, hs⟩
  · rename_i bs x; cases h
    refine Con.asked fun hq => ?_
    refine Con.args (l' := [bkS bs, i64 (.o x.den)]) (fun R vs ha => by
      match vs, ha with
      | [v, w], ha => exact ⟨ha.1, ha.2.1, trivial⟩) ?_
    intro A hs
    exact at_con x.den m A ⟨fun p hp => hq p hp, hs⟩
  · cases h
theorem EH_ok : EnvOk EH := EnvOk.with E0_ok _ _ conH1_ok
section
variable {bs : Array Value}
/-! Void. -/
omit [Gh] in
theorem putAt2 {cs : Array Value} {p : Nat} {u v : Value} (h : p + 2 ≤ cs.size) : (putAt cs p [u, v]).size = cs.size ∧ (putAt cs p [u, v])[p]? = some u ∧ (putAt cs p [u, v])[p + 1]? = some v ∧ ∀ k, k ≠ p → k ≠ p + 1 → (putAt cs p [u, v])[k]? = cs[k]? := by
  refine ⟨putAt_size (by simpa using h), ?_, ?_, fun k h1 h2 => putAt_out (by simpa using h) (by simp; omega)⟩
  · rw [putAt_in (by simpa using h) (Nat.le_refl _) (by simp), Nat.sub_self]; rfl
  · rw [putAt_in (by simpa using h) (by omega) (by simp), show p + 1 - p = 1 by omega]; rfl
omit [Gh] in
theorem voidS_size {i : Nat} (h : BkOk bs) (hi : i < 32) : (voidS bs i).size = 64 := by
  have := h.sz
  unfold voidS
  split
  · rw [set_size]; exact h.sz
  · rw [(putAt2 (by omega)).1]; exact h.sz
theorem void_con (h : Int) (m : SMem) : Con E0 34 [bkS bs, u32 h] m (needs [BkOk bs, inH h] (.ret (bbT (voidB bs h) (goodB bs h)) m)) := by
  refine Con.pure E0_ok (by kernel_rfl : E0.fn 34 = some Tryd.f34) (by kernel_rfl : Tryd.f34.body = some (Tryd.f34.body.getD .skip)) (by kernel_rfl) (by kernel_rfl) fun hq => ?_
  have hb : BkOk bs := hq _ (by simp)
  have hh : inH h := hq _ (by simp)
  refine (Good.ret [] (run_vc EH_ok 1000 (vd_vc bs h (voidB bs h) (goodB bs h)) ?_ (fun s m h => h) fun _ _ h => h.elim)).mono fun _ _ h => h.1
  have hs := hb.sz
  obtain ⟨s1, s2⟩ := slotI_lt hh
  cases hg : goodB bs h with
  | false =>
    simp only [hs, hg, voidB, Bool.not_false, true_implies, Bool.true_eq_false, Bool.false_eq_true, false_implies, if_false, and_true, true_and]
    exact ⟨hb, hh⟩
  | true =>
    have hi : (slotI h).toNat < 32 := by omega
    have hra := hb.ra _ hi
    by_cases c : ageAt bs (slotI h).toNat = 8388607
    · have d : (intAt bs ((slotI h).toNat * 2) == 8388607) = true := by
        have c : intAt bs ((slotI h).toNat * 2) = 8388607 := c
        rw [c]; rfl
      have e : voidS bs (slotI h).toNat = bs.setIfInBounds ((slotI h).toNat * 2 + 1) (.int .u8 2) := by unfold voidS; rw [if_pos c]
      simp only [hs, hg, d, e, voidB, Nat.zero_add, set_size, Bool.not_true, true_implies, Bool.true_eq_false, Bool.false_eq_true, false_implies, if_true, and_true, true_and]
      exact ⟨⟨hb, hh⟩, hh, ⟨s1, s2⟩, hb.a _ hi, ⟨s1, s2⟩, by omega⟩
    · have d : (intAt bs ((slotI h).toNat * 2) == 8388607) = false := by
        have c : ¬ intAt bs ((slotI h).toNat * 2) = 8388607 := c
        simpa using c
      have e : voidS bs (slotI h).toNat = putAt bs ((slotI h).toNat * 2) [.int .u32 (ageAt bs (slotI h).toNat + 1), .int .u8 0] := by unfold voidS; rw [if_neg c]
      have ea : ari .add .u32 (intAt bs ((slotI h).toNat * 2)) 1 = ageAt bs (slotI h).toNat + 1 := by
        have hra' : 0 ≤ intAt bs ((slotI h).toNat * 2) ∧ intAt bs ((slotI h).toNat * 2) ≤ 8388607 := hra
        rw [ari_add, u32_in (by omega) (by omega)]; rfl
      have hz : (putAt bs ((slotI h).toNat * 2) [.int .u32 (ageAt bs (slotI h).toNat + 1), .int .u8 0]).size = 64 := by rw [(putAt2 (by omega)).1]; exact hs
      have hl : ∀ u v : Value, List.length [u, v] = 2 := fun _ _ => rfl
      simp only [hs, hg, d, e, ea, hz, hl, voidB, Nat.zero_add, Bool.not_true, true_implies, Bool.true_eq_false, Bool.false_eq_true, false_implies, if_true, and_true, true_and]
      exact ⟨⟨hb, hh⟩, hh, ⟨s1, s2⟩, hb.a _ hi, ⟨s1, s2⟩, hb.a _ hi, ⟨s1, s2⟩, by omega⟩
/-! Issue. -/
omit [Gh] in
theorem freeFrom_succ (k i : Nat) : freeFrom bs (k + 1) i = if kindAt bs i = 0 then some i else freeFrom bs k (i + 1) := rfl
theorem hI_ok (hb : BkOk bs) {zz : Array Value} (hz : zz.size = 64) : ∀ (k i : Nat), i + k = 32 → freeFrom bs k i = freeS bs → Good Tryd.prog (retOk 0 [] (bhbT (issueB bs) (issueI bs) (issueOk bs)) e0M) 0 (hI_F bs (i : Int) zz) (hI_M bs (i : Int) zz) := by
  have hs := hb.sz
  intro k
  induction k with
  | zero =>
    intro i hi hf
    refine past_vc EH_ok 1000 (is1 bs (i : Int) zz (issueB bs) (issueI bs) (issueOk bs) (fun _ _ => False)) ?_ (fun _ _ h => h) (fun fs m hb => hI_good (fun _ _ h => h.elim) hb)
    have d : decide ((i : Int) < 32) = false := decide_eq_false (by omega)
    have e : freeS bs = none := hf.symm
    have e1 : issueB bs = bs := by unfold issueB; rw [e]
    have e2 : issueI bs = 0 := by unfold issueI; rw [e]
    have e3 : issueOk bs = false := by unfold issueOk; rw [e]; rfl
    simp only [d, e1, e2, e3, hs, hz, true_implies, Bool.true_eq_false, Bool.false_eq_true, false_implies, and_true, true_and]
  | succ k ih =>
    intro i hi hf
    refine past_vc EH_ok 1000 (is1 bs (i : Int) zz (issueB bs) (issueI bs) (issueOk bs) (fun i' z' => i' = ((i + 1 : Nat) : Int) ∧ z' = zz ∧ kindAt bs i ≠ 0)) ?_ (fun _ _ h => h)
      (fun fs m hb => hI_good (fun i' z' ⟨h1, h2, h3⟩ => by rw [h1, h2]; exact ih (i + 1) (by omega) (by rw [← hf, freeFrom_succ, if_neg h3])) hb)
    have d : decide ((i : Int) < 32) = true := decide_eq_true (by omega)
    have ei : ari .add .i64 (i : Int) 1 = ((i + 1 : Nat) : Int) := by rw [ari_add, i64_in' (by omega) (by omega)]; omega
    have hi32 : i < 32 := by omega
    by_cases c : kindAt bs i = 0
    · have d1 : (intAt bs (i * 2 + 1) == 0) = true := by
        have c : intAt bs (i * 2 + 1) = 0 := c
        rw [c]; rfl
      have e : freeS bs = some i := by rw [← hf, freeFrom_succ, if_pos c]
      have e1 : issueB bs = bs.setIfInBounds (i * 2 + 1) (.int .u8 1) := by unfold issueB; rw [e]
      have e2 : issueI bs = nameI i (ageAt bs i) := by unfold issueI; rw [e]
      have e3 : issueOk bs = true := by unfold issueOk; rw [e]; rfl
      have ha : intAt (bs.setIfInBounds (i * 2 + 1) (.int .u8 1)) (i * 2) = ageAt bs i := by unfold ageAt intAt; rw [set_out (by omega)]
      have hia : IsInt .u32 (bs.setIfInBounds (i * 2 + 1) (.int .u8 1)) (i * 2) := by
        have := hb.a i hi32
        unfold IsInt intAt at this ⊢
        rw [set_out (by omega)]; exact this
      have en := nameI_run hi32 (hb.ra i hi32)
      simp only [d, d1, e1, e2, e3, hs, hz, ha, en, Nat.zero_add, Int.toNat_natCast, set_size, true_implies, Bool.true_eq_false, Bool.false_eq_true, false_implies, and_true, true_and]
      exact ⟨by omega, hb.k i hi32, by omega, by omega, by omega, hia⟩
    · have d1 : (intAt bs (i * 2 + 1) == 0) = false := by
        have c : ¬ intAt bs (i * 2 + 1) = 0 := c
        simpa using c
      simp only [d, d1, ei, Nat.zero_add, Int.toNat_natCast, true_implies, Bool.true_eq_false, Bool.false_eq_true, false_implies, and_true, true_and, hI_d0_ok]
      exact ⟨by omega, hb.k i hi32, c⟩
theorem issue_con (m : SMem) : Con E0 38 [bkS bs] m (needs [BkOk bs] (.ret (bhbT (issueB bs) (issueI bs) (issueOk bs)) m)) := by
  refine Con.pure E0_ok (by kernel_rfl : E0.fn 38 = some Tryd.f38) (by kernel_rfl : Tryd.f38.body = some (Tryd.f38.body.getD .skip)) (by kernel_rfl) (by kernel_rfl) fun hq => ?_
  have hb : BkOk bs := hq _ (by simp)
  refine (Good.ret [] (run_vc EH_ok 1000 (is0_vc bs (fun i zz => i = ((0 : Nat) : Int) ∧ zz.size = 64)) ?_ (fun s m h => h.elim) fun fs m h => is0_go (fun i zz ⟨e1, e2⟩ => by rw [e1]; exact hI_ok hb e2 32 0 (by omega) rfl) h)).mono fun _ _ h => h.1
  simp only [and_true, true_and, hI_d0_ok]
  exact ⟨rfl, rfl⟩
/-! Issued. -/
omit [Gh] in
def u32s (l : List Int) : Array Value := (l.map (Value.int .u32)).toArray
omit [Gh] in
theorem u32s_size (l : List Int) : (u32s l).size = l.length := by unfold u32s; rw [List.size_toArray, List.length_map]
omit [Gh] in
theorem u32s_app (l : List Int) (x : Int) : u32s (l ++ [x]) = u32s l ++ #[.int .u32 x] := by unfold u32s; simp
omit [Gh] in
def issL (bs : Array Value) : Nat → List Int
  | 0 => []
  | i + 1 => if kindAt bs i = 1 then issL bs i ++ [nameI i (ageAt bs i)] else issL bs i
omit [Gh] in
theorem issL_le : ∀ n, (issL bs n).length ≤ n
  | 0 => Nat.le_refl _
  | n + 1 => by
    have := issL_le n
    unfold issL
    split
    · rw [List.length_append]; show _ + 1 ≤ _; omega
    · omega
omit [Gh] in
def issued (bs : Array Value) : List Int := issL bs 32
omit [Gh] in
theorem at_i {i : Nat} (hi : i < 32) : atOk bs (i : Int) = decide (kindAt bs i = 1) ∧ (kindAt bs i = 1 → atI bs (i : Int) = nameI i (ageAt bs i)) := by
  have e : atOk bs (i : Int) = decide (kindAt bs i = 1) := by unfold atOk; rw [decide_eq_true (by omega), Bool.true_and, Int.toNat_natCast]
  refine ⟨e, fun h => ?_⟩
  unfold atI
  rw [e, decide_eq_true h, if_pos rfl, Int.toNat_natCast]
omit [Gh] in
theorem issL_succ (i : Nat) : issL bs (i + 1) = if kindAt bs i = 1 then issL bs i ++ [nameI i (ageAt bs i)] else issL bs i := rfl
omit [Gh] in
theorem issL_pre (bs : Array Value) {i j : Nat} (h : i ≤ j) (e : issL bs j = []) : issL bs i = [] := by
  induction j with
  | zero =>
    obtain rfl : i = 0 := by omega
    exact e
  | succ j ih =>
    by_cases c : i = j + 1
    · rw [c]; exact e
    · refine ih (by omega) ?_
      rw [issL_succ] at e
      split at e
      · simp at e
      · exact e
theorem hS_ok (hb : BkOk bs) : ∀ (k i : Nat), i + k = 32 → Good Tryd.prog (freshA (issued bs).length (u32s (issued bs)) 32) 0 (hS_F bs (i : Int) (issL bs i).length (u32s (issL bs i))) (hS_M bs (i : Int) (issL bs i).length (u32s (issL bs i))) := by
  have hs := hb.sz
  intro k
  induction k with
  | zero =>
    intro i hi
    obtain rfl : i = 32 := by omega
    refine past_vc EH_ok 1000 (idS_s bs ((32 : Nat) : Int) _ _ (issued bs).length (u32s (issued bs)) (fun _ _ _ => False)) ?_ (fun _ _ h => h) (fun fs m hb => hS_good (fun _ _ _ h => h.elim) hb)
    have d : decide (((32 : Nat) : Int) < 32) = false := rfl
    simp only [d, issued, true_implies, Bool.true_eq_false, Bool.false_eq_true, false_implies, and_true, true_and]
  | succ k ih =>
    intro i hi
    refine past_vc EH_ok 1000 (idS_s bs (i : Int) _ _ (issued bs).length (u32s (issued bs)) (fun i' k' c' => i' = ((i + 1 : Nat) : Int) ∧ k' = (issL bs (i + 1)).length ∧ c' = u32s (issL bs (i + 1)))) ?_ (fun _ _ h => h)
      (fun fs m hb => hS_good (fun i' k' c' ⟨e1, e2, e3⟩ => by rw [e1, e2, e3]; exact ih (i + 1) (by omega)) hb)
    have d : decide ((i : Int) < 32) = true := decide_eq_true (by omega)
    have ei : ari .add .i64 (i : Int) 1 = ((i + 1 : Nat) : Int) := by rw [ari_add, i64_in' (by omega) (by omega)]; omega
    obtain ⟨a1, a2⟩ := at_i (bs := bs) (i := i) (by omega)
    have hle := issL_le (bs := bs) i
    by_cases c : kindAt bs i = 1
    · simp only [d, ei, a1, a2 c, hs, c, decide_true, u32s_size, Nat.mul_one, issL_succ, if_true, List.length_append, List.length_cons, List.length_nil, u32s_app, true_implies, Bool.true_eq_false, Bool.false_eq_true, false_implies, and_true, true_and, hZ_d0_ok, hS_d0_ok]
      exact ⟨hb, by omega⟩
    · simp only [d, ei, a1, hs, c, decide_false, issL_succ, if_false, true_implies, Bool.true_eq_false, Bool.false_eq_true, false_implies, and_true, true_and, hZ_d0_ok, hS_d0_ok]
      exact hb
theorem hZS_good {A : SV → SMem → Prop} {QZ : Int → Prop} {QS : Int → Nat → Array Value → Prop} {fs : List SFr} {m : SMem} (hz : ∀ i, QZ i → Good Tryd.prog A 0 (hZ_F bs i) (hZ_M bs i)) (hs : ∀ i k cs, QS i k cs → Good Tryd.prog A 0 (hS_F bs i k cs) (hS_M bs i k cs)) (hb : hZS bs QZ QS fs m) : Good Tryd.prog A 0 fs m := by
  unfold hZS at hb
  split at hb
  · split at hb
    · exact hS_good hs hb
    · exact hZ_good hz hb
  · exact hb.elim
theorem hZ_s (hb : BkOk bs) (hne : issued bs ≠ []) : ∀ (k i : Nat), i + k = 32 → issL bs i = [] → Good Tryd.prog (freshA (issued bs).length (u32s (issued bs)) 32) 0 (hZ_F bs (i : Int)) (hZ_M bs (i : Int)) := by
  have hs := hb.sz
  intro k
  induction k with
  | zero =>
    intro i hi he
    obtain rfl : i = 32 := by omega
    exact absurd he hne
  | succ k ih =>
    intro i hi he
    refine past_vc EH_ok 1000 (idZ_s bs (i : Int) (issued bs).length (u32s (issued bs)) (fun i' => i' = ((i + 1 : Nat) : Int) ∧ issL bs (i + 1) = []) (fun i' k' c' => i' = ((i + 1 : Nat) : Int) ∧ k' = (issL bs (i + 1)).length ∧ c' = u32s (issL bs (i + 1)))) ?_ (fun _ _ h => h)
      (fun fs m hb' => hZS_good (fun i' ⟨e1, e2⟩ => by rw [e1]; exact ih (i + 1) (by omega) e2) (fun i' k' c' ⟨e1, e2, e3⟩ => by rw [e1, e2, e3]; exact hS_ok hb k (i + 1) (by omega)) hb')
    have d : decide ((i : Int) < 32) = true := decide_eq_true (by omega)
    have ei : ari .add .i64 (i : Int) 1 = ((i + 1 : Nat) : Int) := by rw [ari_add, i64_in' (by omega) (by omega)]; omega
    obtain ⟨a1, a2⟩ := at_i (bs := bs) (i := i) (by omega)
    by_cases c : kindAt bs i = 1
    · simp only [d, ei, a1, a2 c, hs, c, he, decide_true, issL_succ, if_true, List.nil_append, List.length_cons, List.length_nil, true_implies, Bool.true_eq_false, Bool.false_eq_true, false_implies, and_true, true_and, hZ_d0_ok, hS_d0_ok]
      exact ⟨hb, rfl⟩
    · simp only [d, ei, a1, hs, c, he, decide_false, issL_succ, if_false, true_implies, Bool.true_eq_false, Bool.false_eq_true, false_implies, and_true, true_and, hZ_d0_ok, hS_d0_ok]
      exact hb
theorem hZ_nn (hb : BkOk bs) (hne : issued bs = []) : ∀ (k i : Nat), i + k = 32 → Good Tryd.prog nilA 0 (hZ_F bs (i : Int)) (hZ_M bs (i : Int)) := by
  have hs := hb.sz
  intro k
  induction k with
  | zero =>
    intro i hi
    obtain rfl : i = 32 := by omega
    refine past_vc EH_ok 1000 (idZ_n bs ((32 : Nat) : Int) (fun _ => False) (fun _ _ _ => False)) ?_ (fun _ _ h => h) (fun fs m hb => hZS_good (fun _ h => h.elim) (fun _ _ _ h => h.elim) hb)
    have d : decide (((32 : Nat) : Int) < 32) = false := rfl
    simp only [d, true_implies, Bool.true_eq_false, Bool.false_eq_true, false_implies, and_true, true_and]
  | succ k ih =>
    intro i hi
    refine past_vc EH_ok 1000 (idZ_n bs (i : Int) (fun i' => i' = ((i + 1 : Nat) : Int)) (fun i' k' c' => False)) ?_ (fun _ _ h => h)
      (fun fs m hb' => hZS_good (fun i' e1 => by rw [e1]; exact ih (i + 1) (by omega)) (fun _ _ _ h => h.elim) hb')
    have d : decide ((i : Int) < 32) = true := decide_eq_true (by omega)
    have ei : ari .add .i64 (i : Int) 1 = ((i + 1 : Nat) : Int) := by rw [ari_add, i64_in' (by omega) (by omega)]; omega
    obtain ⟨a1, a2⟩ := at_i (bs := bs) (i := i) (by omega)
    have he := issL_pre bs (i := i + 1) (by omega) hne
    have c : ¬ kindAt bs i = 1 := by
      intro c
      rw [issL_succ, if_pos c] at he
      simp at he
    simp only [d, ei, a1, hs, c, decide_false, true_implies, Bool.true_eq_false, Bool.false_eq_true, false_implies, and_true, true_and, hZ_d0_ok, hS_d0_ok]
    exact hb
theorem Con.two {E : Env} {g : FuncId} {l : List SV} {m : SMem} {b : Bool} {t e : Tree} (ht : b = true → Con E g l m t) (he : b = false → Con E g l m e) : Con E g l m (.br b t e) := by
  intro A hs
  cases hb : b with
  | true => exact ht hb A (hs.1 hb)
  | false => exact he hb A (hs.2 hb)
omit [Gh] in
noncomputable def rowT (l : List Int) (ty : TypeId) (m : SMem) : Tree := .br (decide (l.length = 0)) (.ret (.s (.c (.f (.lit (.slice none 0 0))))) m) (.ret (.s (.c (.f (.slice m.next (.l 0) (.o l.length) (.full 1))))) (m.new (.pop (u32s l)) ty))
theorem issued_con (m : SMem) : Con E0 39 [bkS bs] m (.need [BkOk bs] (rowT (issued bs) 32 m)) := by
  refine Con.asked fun hq => ?_
  have hb : BkOk bs := hq _ (by simp)
  refine Con.two (fun h => ?_) (fun h => ?_)
  · have he : issued bs = [] := List.eq_nil_of_length_eq_zero (of_decide_eq_true h)
    refine (show Con E0 39 [bkS bs] m (needs [] _) from Con.pure E0_ok (by kernel_rfl : E0.fn 39 = some Tryd.f39) (by kernel_rfl : Tryd.f39.body = some (Tryd.f39.body.getD .skip)) (by kernel_rfl) (by kernel_rfl) fun hq => ?_)
    refine (Good.ret (s0m := e0M) [] (run_vc EH_ok 1000 (id0_vc bs (fun i => i = ((0 : Nat) : Int))) ?_ (fun s m h => h.elim) fun fs m h => id0_go (fun i e => by rw [e]; exact hZ_nn hb he 32 0 (by omega)) h)).mono fun _ _ h => h.1
    simp only [and_true, true_and, hZ_d0_ok]
    rfl
  · have he : issued bs ≠ [] := fun e => by
      have := of_decide_eq_false h
      rw [e] at this
      exact this rfl
    refine (show Con E0 39 [bkS bs] m (needs [] _) from Con.fresh E0_ok (by kernel_rfl : E0.fn 39 = some Tryd.f39) (by kernel_rfl : Tryd.f39.body = some (Tryd.f39.body.getD .skip)) (by kernel_rfl) rfl fun _ => ?_)
    refine Good.retX ((run_vc EH_ok 1000 (id0_vc bs (fun i => i = ((0 : Nat) : Int))) ?_ (fun s m h => h.elim) fun fs m h => id0_go (A := freshA (issued bs).length (u32s (issued bs)) 32) (fun i e => by rw [e]; exact hZ_s hb he 32 0 (by omega) rfl) h).mono fun s m h => ?_)
    · simp only [and_true, true_and, hZ_d0_ok]
      rfl
    · unfold freshA at h
      split at h
      · exact ⟨_, h⟩
      · exact h.elim
end
end Go.Proofs.YtjjeahnbppmigaaDoor
/- Of handle: which handles are good, behind Issue, behind Void; all of them are told once. No condition. -/
namespace Go.Proofs.YtjjeahnbppmigaaDoor
set_option maxRecDepth 100000
section
variable {bs : Array Value}
theorem goodB_iff (hb : BkOk bs) {h : Int} : goodB bs h = true ↔ ∃ i : Nat, i < 32 ∧ kindAt bs i = 1 ∧ h = nameI i (ageAt bs i) := by
  unfold goodB slotI slotOk nameI
  constructor
  · intro hg
    simp only [Bool.and_eq_true, decide_eq_true_eq] at hg
    obtain ⟨h1, h2, h3⟩ := hg
    rw [if_pos h1] at h2 h3
    exact ⟨((h - 1) % 256).toNat, by omega, h3, by rw [h2]; omega⟩
  · rintro ⟨i, hi, hk, rfl⟩
    have hr := hb.ra i hi
    have e1 : (256 * ageAt bs i + i + 1 - 1) % 256 = i := by omega
    have e2 : (256 * ageAt bs i + i + 1 - 1) / 256 = ageAt bs i := by omega
    simp only [Bool.and_eq_true, decide_eq_true_eq]
    have h1 : 256 * ageAt bs i + i + 1 ≠ 0 ∧ (256 * ageAt bs i + i + 1 - 1) % 256 < 32 ∧ (256 * ageAt bs i + i + 1 - 1) / 256 ≤ 8388607 := ⟨by omega, by omega, by omega⟩
    refine ⟨h1, ?_⟩
    rw [if_pos h1, e1, Int.toNat_natCast, e2]
    exact ⟨rfl, hk⟩
theorem goodB_in (hb : BkOk bs) {h : Int} (hg : goodB bs h = true) : inH h ∧ 1 ≤ h := by
  obtain ⟨i, hi, _, rfl⟩ := (goodB_iff hb).1 hg
  have := hb.ra i hi
  unfold inH nameI
  omega
theorem name_inj {i j : Nat} {a b : Int} (hi : i < 32) (hj : j < 32) (h : nameI i a = nameI j b) : i = j ∧ a = b := by
  unfold nameI at h
  omega
theorem goodB_name (hb : BkOk bs) {i : Nat} (hi : i < 32) : goodB bs (nameI i (ageAt bs i)) = decide (kindAt bs i = 1) := by
  rw [Bool.eq_iff_iff, goodB_iff hb, decide_eq_true_eq]
  constructor
  · rintro ⟨j, hj, hk, e⟩
    obtain ⟨rfl, _⟩ := name_inj hi hj e
    exact hk
  · exact fun h => ⟨i, hi, h, rfl⟩
/-! All that are good, each once. -/
theorem issL_mem (hb : BkOk bs) {h : Int} : ∀ {n : Nat}, h ∈ issL bs n ↔ ∃ i : Nat, i < n ∧ kindAt bs i = 1 ∧ h = nameI i (ageAt bs i)
  | 0 => ⟨fun h => (by cases h), fun ⟨_, h, _⟩ => (by omega)⟩
  | n + 1 => by
    rw [issL_succ]
    split
    · rename_i hk
      rw [List.mem_append, issL_mem hb, List.mem_singleton]
      constructor
      · rintro (⟨i, h1, h2, h3⟩ | h)
        · exact ⟨i, by omega, h2, h3⟩
        · exact ⟨n, by omega, hk, h⟩
      · rintro ⟨i, h1, h2, h3⟩
        by_cases e : i = n
        · rw [e] at h3; exact .inr h3
        · exact .inl ⟨i, by omega, h2, h3⟩
    · rename_i hk
      rw [issL_mem hb]
      constructor
      · rintro ⟨i, h1, h2, h3⟩; exact ⟨i, by omega, h2, h3⟩
      · rintro ⟨i, h1, h2, h3⟩
        by_cases e : i = n
        · rw [e] at h2; exact absurd h2 hk
        · exact ⟨i, by omega, h2, h3⟩
theorem issued_mem (hb : BkOk bs) {h : Int} : h ∈ issued bs ↔ goodB bs h = true := by
  rw [goodB_iff hb]; exact issL_mem hb
theorem issL_nodup (hb : BkOk bs) : ∀ {n : Nat}, n ≤ 32 → (issL bs n).Nodup
  | 0, _ => List.nodup_nil
  | n + 1, hn => by
    rw [issL_succ]
    split
    · rw [List.nodup_append]
      refine ⟨issL_nodup hb (by omega), by simp, fun a ha b hb' => ?_⟩
      obtain ⟨i, h1, _, h3⟩ := (issL_mem hb).1 ha
      rw [List.mem_singleton] at hb'
      intro e
      rw [h3, hb'] at e
      have := (name_inj (by omega) (by omega) e).1
      omega
    · exact issL_nodup hb (by omega)
theorem issued_nodup (hb : BkOk bs) : (issued bs).Nodup := issL_nodup hb (Nat.le_refl _)
/-! Behind Issue. -/
theorem freeFrom_some : ∀ {k i j : Nat}, freeFrom bs k i = some j → i ≤ j ∧ j < i + k ∧ kindAt bs j = 0
  | 0, _, _, h => by cases h
  | k + 1, i, j, h => by
    rw [freeFrom_succ] at h
    split at h
    · rename_i hk; cases h; exact ⟨Nat.le_refl _, by omega, hk⟩
    · obtain ⟨h1, h2, h3⟩ := freeFrom_some h; exact ⟨by omega, by omega, h3⟩
theorem freeS_some {j : Nat} (h : freeS bs = some j) : j < 32 ∧ kindAt bs j = 0 := by
  obtain ⟨_, h2, h3⟩ := freeFrom_some (bs := bs) (k := 32) (i := 0) h
  exact ⟨by omega, h3⟩
theorem kind_set {i j : Nat} {x : Int} {k : IntKind} (hs : bs.size = 64) (hi : i < 32) : kindAt (bs.setIfInBounds (i * 2 + 1) (.int k x)) j = if j = i then x else kindAt bs j := by
  unfold kindAt intAt
  by_cases e : j = i
  · rw [if_pos e, e, set_in (by omega)]
  · rw [if_neg e, set_out (by omega)]
theorem age_set {i j : Nat} {v : Value} : ageAt (bs.setIfInBounds (i * 2 + 1) v) j = ageAt bs j := by
  unfold ageAt intAt
  rw [set_out (by omega)]
theorem bk_set (hb : BkOk bs) {i : Nat} {x : Int} (hx : 0 ≤ x ∧ x ≤ 2) (hi : i < 32) : BkOk (bs.setIfInBounds (i * 2 + 1) (.int .u8 x)) := by
  have hs := hb.sz
  refine ⟨by rw [set_size]; exact hs, fun j hj => ?_, fun j hj => ?_, fun j hj => by rw [age_set]; exact hb.ra j hj, fun j hj => ?_⟩
  · have := hb.a j hj
    unfold IsInt intAt at this ⊢
    rw [set_out (by omega)]; exact this
  · by_cases e : j = i
    · rw [e]; exact isI_of (set_in (by omega))
    · have := hb.k j hj
      unfold IsInt intAt at this ⊢
      rw [set_out (by omega)]; exact this
  · rw [kind_set hs hi]
    split
    · exact hx
    · exact hb.rk j hj
theorem issue_cases : (freeS bs = none ∧ issueB bs = bs ∧ issueI bs = 0 ∧ issueOk bs = false) ∨ ∃ i, i < 32 ∧ kindAt bs i = 0 ∧ issueB bs = bs.setIfInBounds (i * 2 + 1) (.int .u8 1) ∧ issueI bs = nameI i (ageAt bs i) ∧ issueOk bs = true ∧ freeS bs = some i := by
  unfold issueB issueI issueOk
  cases h : freeS bs with
  | none => exact .inl ⟨rfl, rfl, rfl, rfl⟩
  | some i =>
    obtain ⟨h1, h2⟩ := freeS_some h
    exact .inr ⟨i, h1, h2, rfl, rfl, rfl, rfl⟩
theorem issue_bk (hb : BkOk bs) : BkOk (issueB bs) := by
  rcases issue_cases (bs := bs) with ⟨_, e, _⟩ | ⟨i, h1, _, e, _⟩
  · rw [e]; exact hb
  · rw [e]; exact bk_set hb (by omega) h1
theorem issue_good (hb : BkOk bs) (h : Int) : goodB (issueB bs) h = (goodB bs h || (issueOk bs && decide (h = issueI bs))) := by
  rcases issue_cases (bs := bs) with ⟨_, e1, _, e3⟩ | ⟨i, h1, h2, e1, e2, e3, _⟩
  · rw [e1, e3]; simp
  · rw [e1, e2, e3, Bool.eq_iff_iff, goodB_iff (bk_set hb (by omega) h1), Bool.or_eq_true, goodB_iff hb, Bool.true_and, decide_eq_true_eq]
    simp only [kind_set hb.sz h1, age_set]
    constructor
    · rintro ⟨j, hj, hk, e⟩
      by_cases c : j = i
      · rw [c] at e; exact .inr e
      · rw [if_neg c] at hk; exact .inl ⟨j, hj, hk, e⟩
    · rintro (⟨j, hj, hk, e⟩ | e)
      · refine ⟨j, hj, ?_, e⟩
        rw [if_neg (fun c => by rw [c] at hk; omega)]; exact hk
      · exact ⟨i, h1, by rw [if_pos rfl], e⟩
/-! Behind Void. -/
theorem void_kind (hs : bs.size = 64) {i j : Nat} (hi : i < 32) : kindAt (voidS bs i) j = if j = i then (if ageAt bs i = 8388607 then 2 else 0) else kindAt bs j := by
  unfold voidS
  by_cases c : ageAt bs i = 8388607
  · rw [if_pos c, kind_set hs hi, if_pos c]
  · rw [if_neg c, if_neg c]
    unfold kindAt intAt
    obtain ⟨_, _, h2, h3⟩ := putAt2 (cs := bs) (p := i * 2) (u := .int .u32 (ageAt bs i + 1)) (v := .int .u8 0) (by omega)
    by_cases e : j = i
    · rw [if_pos e, e, h2]
    · rw [if_neg e, h3 _ (by omega) (by omega)]
theorem void_age (hs : bs.size = 64) {i j : Nat} (hi : i < 32) : ageAt (voidS bs i) j = if j = i then (if ageAt bs i = 8388607 then ageAt bs i else ageAt bs i + 1) else ageAt bs j := by
  unfold voidS
  by_cases c : ageAt bs i = 8388607
  · rw [if_pos c, age_set, if_pos c]
    split
    · rename_i e; rw [e]
    · rfl
  · rw [if_neg c, if_neg c]
    obtain ⟨_, h1, _, h3⟩ := putAt2 (cs := bs) (p := i * 2) (u := .int .u32 (ageAt bs i + 1)) (v := .int .u8 0) (by omega)
    by_cases e : j = i
    · rw [if_pos e, e]
      show intAt _ _ = _
      unfold intAt
      rw [h1]
    · rw [if_neg e]
      show intAt _ _ = intAt _ _
      unfold intAt
      rw [h3 _ (by omega) (by omega)]
theorem voidS_bk (hb : BkOk bs) {i : Nat} (hi : i < 32) : BkOk (voidS bs i) := by
  have hs := hb.sz
  by_cases c : ageAt bs i = 8388607
  · have e : voidS bs i = bs.setIfInBounds (i * 2 + 1) (.int .u8 2) := by unfold voidS; rw [if_pos c]
    rw [e]; exact bk_set hb (by omega) hi
  · have e : voidS bs i = putAt bs (i * 2) [.int .u32 (ageAt bs i + 1), .int .u8 0] := by unfold voidS; rw [if_neg c]
    obtain ⟨_, h1, h2, h3⟩ := putAt2 (cs := bs) (p := i * 2) (u := .int .u32 (ageAt bs i + 1)) (v := .int .u8 0) (by omega)
    have hra := hb.ra i hi
    refine ⟨voidS_size hb hi, fun j hj => ?_, fun j hj => ?_, fun j hj => ?_, fun j hj => ?_⟩
    · rw [e]
      by_cases k : j = i
      · rw [k]; exact isI_of h1
      · have := hb.a j hj
        unfold IsInt intAt at this ⊢
        rw [h3 _ (by omega) (by omega)]; exact this
    · rw [e]
      by_cases k : j = i
      · rw [k]; exact isI_of h2
      · have := hb.k j hj
        unfold IsInt intAt at this ⊢
        rw [h3 _ (by omega) (by omega)]; exact this
    · rw [void_age hs hi, if_neg c]
      split
      · omega
      · exact hb.ra j hj
    · rw [void_kind hs hi, if_neg c]
      split
      · omega
      · exact hb.rk j hj
theorem slotI_name {i : Nat} {a : Int} (hi : i < 32) (ha : 0 ≤ a ∧ a ≤ 8388607) : (slotI (nameI i a)).toNat = i := by
  unfold slotI slotOk nameI
  rw [if_pos (by rw [decide_eq_true_eq]; omega)]
  omega
theorem void_cases (hb : BkOk bs) (x : Int) : (goodB bs x = false ∧ voidB bs x = bs) ∨ ∃ i, i < 32 ∧ kindAt bs i = 1 ∧ x = nameI i (ageAt bs i) ∧ goodB bs x = true ∧ voidB bs x = voidS bs i := by
  unfold voidB
  cases hg : goodB bs x with
  | false => exact .inl ⟨rfl, rfl⟩
  | true =>
    obtain ⟨i, hi, hk, e⟩ := (goodB_iff hb).1 hg
    refine .inr ⟨i, hi, hk, e, rfl, ?_⟩
    rw [if_pos rfl, e, slotI_name hi (hb.ra i hi)]
theorem void_bk (hb : BkOk bs) (x : Int) : BkOk (voidB bs x) := by
  rcases void_cases hb x with ⟨_, e⟩ | ⟨i, hi, _, _, _, e⟩
  · rw [e]; exact hb
  · rw [e]; exact voidS_bk hb hi
theorem void_good (hb : BkOk bs) (x h : Int) : goodB (voidB bs x) h = (goodB bs h && !decide (h = x)) := by
  rcases void_cases hb x with ⟨hg, e⟩ | ⟨i, hi, hk, ex, hg, e⟩
  · rw [e]
    by_cases c : h = x
    · rw [c, hg]; rfl
    · rw [decide_eq_false c]; simp
  · rw [e, Bool.eq_iff_iff, goodB_iff (voidS_bk hb hi), Bool.and_eq_true, goodB_iff hb, Bool.not_eq_true', decide_eq_false_iff_not]
    have hs := hb.sz
    constructor
    · rintro ⟨j, hj, hk', e'⟩
      rw [void_kind hs hi] at hk'
      by_cases c : j = i
      · rw [if_pos c] at hk'
        split at hk' <;> omega
      · rw [if_neg c] at hk'
        rw [void_age hs hi, if_neg c] at e'
        refine ⟨⟨j, hj, hk', e'⟩, fun e2 => ?_⟩
        rw [e2, ex] at e'
        exact c (name_inj hj hi e'.symm).1
    · rintro ⟨⟨j, hj, hk', e'⟩, hne⟩
      have c : j ≠ i := fun c => hne (by rw [e', ex, c])
      exact ⟨j, hj, by rw [void_kind hs hi, if_neg c]; exact hk', by rw [void_age hs hi, if_neg c]; exact e'⟩
/-! What was given out ever. -/
def usedB (bs : Array Value) (h : Int) : Prop := ∃ (i : Nat) (a : Int), i < 32 ∧ 0 ≤ a ∧ h = nameI i a ∧ (a < ageAt bs i ∨ (a = ageAt bs i ∧ kindAt bs i ≠ 0))
theorem used_in (hb : BkOk bs) {h : Int} (hu : usedB bs h) : inH h := by
  obtain ⟨i, a, hi, ha, rfl, hc⟩ := hu
  have := hb.ra i hi
  unfold inH nameI
  omega
theorem used_issue (hb : BkOk bs) {h : Int} (hu : usedB bs h) : usedB (issueB bs) h := by
  rcases issue_cases (bs := bs) with ⟨_, e, _⟩ | ⟨i, h1, _, e, _⟩
  · rw [e]; exact hu
  · obtain ⟨j, a, hj, ha, rfl, hc⟩ := hu
    refine ⟨j, a, hj, ha, rfl, ?_⟩
    rw [e, age_set, kind_set hb.sz h1]
    rcases hc with hc | ⟨h2, h3⟩
    · exact .inl hc
    · refine .inr ⟨h2, ?_⟩
      split
      · omega
      · exact h3
theorem used_new (hb : BkOk bs) (ho : issueOk bs = true) : usedB (issueB bs) (issueI bs) ∧ ¬ usedB bs (issueI bs) := by
  rcases issue_cases (bs := bs) with ⟨_, _, _, e3⟩ | ⟨i, h1, h2, e1, e2, e3, _⟩
  · rw [ho] at e3; cases e3
  · have hr := hb.ra i h1
    refine ⟨⟨i, ageAt bs i, h1, hr.1, e2, .inr ⟨by rw [e1, age_set], by rw [e1, kind_set hb.sz h1, if_pos rfl]; omega⟩⟩, ?_⟩
    rintro ⟨j, a, hj, ha, e, hc⟩
    rw [e2] at e
    obtain ⟨rfl, rfl⟩ := name_inj h1 hj e
    rcases hc with hc | ⟨_, hc⟩
    · omega
    · exact hc h2
theorem used_void (hb : BkOk bs) {x h : Int} (hu : usedB bs h) : usedB (voidB bs x) h := by
  rcases void_cases hb x with ⟨_, e⟩ | ⟨i, hi, hk, ex, _, e⟩
  · rw [e]; exact hu
  · obtain ⟨j, a, hj, ha, rfl, hc⟩ := hu
    refine ⟨j, a, hj, ha, rfl, ?_⟩
    rw [e, void_age hb.sz hi, void_kind hb.sz hi]
    by_cases c : j = i
    · rw [if_pos c, if_pos c]
      subst c
      by_cases d : ageAt bs j = 8388607
      · rw [if_pos d, if_pos d]
        rcases hc with hc | ⟨h2, _⟩
        · exact .inl hc
        · exact .inr ⟨h2, by omega⟩
      · rw [if_neg d, if_neg d]
        rcases hc with hc | ⟨h2, _⟩
        · exact .inl (by omega)
        · exact .inl (by omega)
    · rw [if_neg c, if_neg c]; exact hc
end
end Go.Proofs.YtjjeahnbppmigaaDoor
/- Of handle: Aged: its states. No condition. -/
namespace Go.Proofs.YtjjeahnbppmigaaDoor
set_option linter.unusedSectionVars false
variable [Gh]
set_option linter.unusedVariables false
omit [Gh] in
noncomputable def gnS (off n : Nat) : SV := .s (.c (.f (.slice 0 (.o off) (.o n) .any)))
omit [Gh] in
noncomputable def EA : Env := ⟨Tryd.prog, fnOf, conH1, haltAt [20003, 8003]⟩
omit [Gh] in
noncomputable def hG_d0 : List SIt := sekF Tryd.f20 3
omit [Gh] in
noncomputable def hG_F (off : Nat) (n : Nat) (cs : Array Value) (ty : TypeId) (mn : Int) (i : Int) (bs : Array Value) (zz : Array Value) : List SFr := [frOf 20 Tryd.f20 [(0, gnS off n), (2, ptr 1 (.l 0)), (3, ptr 2 (.l 0)), (7, i64 (.o mn)), (8, i64 (.o i))] hG_d0]
omit [Gh] in
noncomputable def hG_M (off : Nat) (n : Nat) (cs : Array Value) (ty : TypeId) (mn : Int) (i : Int) (bs : Array Value) (zz : Array Value) : SMem := mkM 3 [(0, ⟨.raw cs, ty, false⟩), (1, ⟨.op zz, 31, true⟩), (2, ⟨.op bs, 31, true⟩)]
omit [Gh] in
noncomputable def hG_n (off : Nat) (n : Nat) (cs : Array Value) (ty : TypeId) (mn : Int) (Q : Int → Array Value → Array Value → Prop) (fs : List SFr) (m : SMem) : Prop := (match frNth fs 0 with | some f0 => (match rdI f0 8 with | some i => (match rdP f0 2 with | some p1 => (match rdP f0 3 with | some p2 => (match rdA m p2 with | some bs => (match rdA m p1 with | some zz => Q i bs zz ∧ subOk 1 [(1, p1), (2, p2)] (hG_F off n cs ty mn i bs zz) (hG_M off n cs ty mn i bs zz) fs m | none => False) | none => False) | none => False) | none => False) | none => False) | none => False)
omit [Gh] in
noncomputable def rG_d0 : List SIt := sekF Tryd.f8 3
omit [Gh] in
noncomputable def rG_F (off : Nat) (n : Nat) (cs : Array Value) (ty : TypeId) (i : Int) (bs : Array Value) (zz : Array Value) : List SFr := [frOf 8 Tryd.f8 [(0, gnS off n), (2, ptr 1 (.l 0)), (3, ptr 2 (.l 0)), (4, i64 (.o i))] rG_d0]
omit [Gh] in
noncomputable def rG_M (off : Nat) (n : Nat) (cs : Array Value) (ty : TypeId) (i : Int) (bs : Array Value) (zz : Array Value) : SMem := mkM 3 [(0, ⟨.raw cs, ty, false⟩), (1, ⟨.op zz, 45, true⟩), (2, ⟨.op bs, 45, true⟩)]
omit [Gh] in
noncomputable def rG_n (off : Nat) (n : Nat) (cs : Array Value) (ty : TypeId) (Q : Int → Array Value → Array Value → Prop) (fs : List SFr) (m : SMem) : Prop := (match frNth fs 0 with | some f0 => (match rdI f0 4 with | some i => (match rdP f0 2 with | some p1 => (match rdP f0 3 with | some p2 => (match rdA m p2 with | some bs => (match rdA m p1 with | some zz => Q i bs zz ∧ subOk 1 [(1, p1), (2, p2)] (rG_F off n cs ty i bs zz) (rG_M off n cs ty i bs zz) fs m | none => False) | none => False) | none => False) | none => False) | none => False) | none => False)
omit [Gh] in
noncomputable def rM (cs : Array Value) (ty : TypeId) : SMem := mkM 1 [(0, ⟨.raw cs, ty, false⟩)]
omit [Gh] in
noncomputable def ag0_t (off : Nat) (n : Nat) (cs : Array Value) (ty : TypeId) (mn : Int) : Tree := run EA 1000 1 [callFr 20 Tryd.f20.ntmps [gnS off n] (Tryd.f20.body.getD .skip)] (rM cs ty)
omit [Gh] in
noncomputable def ag0_x (off : Nat) (n : Nat) (cs : Array Value) (ty : TypeId) (mn : Int) (QhG : Int → Array Value → Array Value → Prop) (fs : List SFr) (m : SMem) : Prop := hG_n off n cs ty mn QhG fs m
omit [Gh] in
noncomputable def ar0_t (off : Nat) (n : Nat) (cs : Array Value) (ty : TypeId) : Tree := run EA 1000 1 [callFr 8 Tryd.f8.ntmps [gnS off n] (Tryd.f8.body.getD .skip)] (rM cs ty)
omit [Gh] in
noncomputable def ar0_x (off : Nat) (n : Nat) (cs : Array Value) (ty : TypeId) (QrG : Int → Array Value → Array Value → Prop) (fs : List SFr) (m : SMem) : Prop := rG_n off n cs ty QrG fs m
omit [Gh] in
theorem hG_d0_ok (r : Nat → Option Nat) : TodoOk r hG_d0 hG_d0 := TodoOk.it (by kernel_rfl)
omit [Gh] in
theorem rG_d0_ok (r : Nat → Option Nat) : TodoOk r rG_d0 rG_d0 := TodoOk.it (by kernel_rfl)
theorem hG_good {A : SV → SMem → Prop} {off : Nat} {n : Nat} {cs : Array Value} {ty : TypeId} {mn : Int} {Q : Int → Array Value → Array Value → Prop} {fs : List SFr} {m : SMem} (H : ∀ i bs zz, Q i bs zz → Good Tryd.prog A 1 (hG_F off n cs ty mn i bs zz) (hG_M off n cs ty mn i bs zz)) (hb : hG_n off n cs ty mn Q fs m) : Good Tryd.prog A 1 fs m := by
  unfold hG_n at hb
  split at hb
  rotate_left
  · exact hb.elim
  split at hb
  rotate_left
  · exact hb.elim
  split at hb
  rotate_left
  · exact hb.elim
  split at hb
  rotate_left
  · exact hb.elim
  split at hb
  rotate_left
  · exact hb.elim
  split at hb
  rotate_left
  · exact hb.elim
  exact Good.of_sub hb.2 (H _ _ _ hb.1)
theorem rG_good {A : SV → SMem → Prop} {off : Nat} {n : Nat} {cs : Array Value} {ty : TypeId} {Q : Int → Array Value → Array Value → Prop} {fs : List SFr} {m : SMem} (H : ∀ i bs zz, Q i bs zz → Good Tryd.prog A 1 (rG_F off n cs ty i bs zz) (rG_M off n cs ty i bs zz)) (hb : rG_n off n cs ty Q fs m) : Good Tryd.prog A 1 fs m := by
  unfold rG_n at hb
  split at hb
  rotate_left
  · exact hb.elim
  split at hb
  rotate_left
  · exact hb.elim
  split at hb
  rotate_left
  · exact hb.elim
  split at hb
  rotate_left
  · exact hb.elim
  split at hb
  rotate_left
  · exact hb.elim
  split at hb
  rotate_left
  · exact hb.elim
  exact Good.of_sub hb.2 (H _ _ _ hb.1)
theorem ag0_go {A : SV → SMem → Prop} {off : Nat} {n : Nat} {cs : Array Value} {ty : TypeId} {mn : Int} {QhG : Int → Array Value → Array Value → Prop} {fs : List SFr} {m : SMem} (hhG : ∀ i' bs' zz', QhG i' bs' zz' → Good Tryd.prog A 1 (hG_F off n cs ty mn i' bs' zz') (hG_M off n cs ty mn i' bs' zz')) (hb : ag0_x off n cs ty mn QhG fs m) : Good Tryd.prog A 1 fs m := by
  unfold ag0_x at hb
  exact hG_good hhG hb
theorem ar0_go {A : SV → SMem → Prop} {off : Nat} {n : Nat} {cs : Array Value} {ty : TypeId} {QrG : Int → Array Value → Array Value → Prop} {fs : List SFr} {m : SMem} (hrG : ∀ i' bs' zz', QrG i' bs' zz' → Good Tryd.prog A 1 (rG_F off n cs ty i' bs' zz') (rG_M off n cs ty i' bs' zz')) (hb : ar0_x off n cs ty QrG fs m) : Good Tryd.prog A 1 fs m := by
  unfold ar0_x at hb
  exact rG_good hrG hb
end Go.Proofs.YtjjeahnbppmigaaDoor
/- Of handle: Aged: its states. -/
namespace Go.Proofs.YtjjeahnbppmigaaDoor
set_option maxRecDepth 100000
theorem ag1 (off n : Nat) (cs : Array Value) (ty : TypeId) (mn i : Int) (bs zz o : Array Value) (Q : Int → Array Value → Array Value → Prop) : (stepT EA.go (run EA 1000) 1 (hG_F off n cs ty mn i bs zz) (hG_M off n cs ty mn i bs zz)).vc (retOk 1 [] (bkS o) (rM cs ty)) (hG_n off n cs ty mn Q) =
    ((decide (i < mn) = true → (((0 : Int) ≤ i ∧ i < (↑n : Int)) ∧ True) ∧ (IsInt IntKind.u32 cs (off + Int.toNat i * 1) ∧ True) ∧ (((0 : Int) ≤ i ∧ i < (32 : Int)) ∧ True) ∧ ((0 : Nat) + Int.toNat i * 2 < Array.size bs ∧ True) ∧ Q (ari BinOp.add IntKind.i64 i (1 : Int)) (Array.setIfInBounds bs ((0 : Nat) + Int.toNat i * 2) (Value.int IntKind.u32 (if (8388607 : Int) < intAt cs (off + Int.toNat i * 1) then (8388607 : Int) else intAt cs (off + Int.toNat i * 1)))) zz ∧ CallKind.normal = CallKind.normal ∧ TodoOk (ren 1 [(1, 1), (2, 2)]) hG_d0 hG_d0 ∧ off = off ∧ n = n ∧ mn = mn ∧ ari BinOp.add IntKind.i64 i (1 : Int) = ari BinOp.add IntKind.i64 i (1 : Int) ∧ ty = ty ∧ cs = cs ∧ (31 : TypeId) = (31 : TypeId) ∧ zz = zz ∧ (31 : TypeId) = (31 : TypeId) ∧ Array.setIfInBounds bs ((0 : Nat) + Int.toNat i * 2) (Value.int IntKind.u32 (if (8388607 : Int) < intAt cs (off + Int.toNat i * 1) then (8388607 : Int) else intAt cs (off + Int.toNat i * 1))) = Array.setIfInBounds bs ((0 : Nat) + Int.toNat i * 2) (Value.int IntKind.u32 (if (8388607 : Int) < intAt cs (off + Int.toNat i * 1) then (8388607 : Int) else intAt cs (off + Int.toNat i * 1))) ∧ True) ∧ (decide (i < mn) = false → (Array.size bs = (64 : Nat) ∧ True) ∧ (Array.size bs = (64 : Nat) ∧ Array.size bs = Array.size zz ∧ True) ∧ (Array.size bs = (64 : Nat) ∧ True) ∧ o = bs ∧ ty = ty ∧ cs = cs ∧ True)) := by kernel_rfl
theorem agN (o : Array Value) : (run E0 1000 0 [callFr 20 Tryd.f20.ntmps [.s (.c (.f .e0))] (Tryd.f20.body.getD .skip)] e0M).vc (retOk 0 [] (bkS o) e0M) (fun _ _ => False) =
    (o = #[Value.int IntKind.u32 (0 : Int), Value.int IntKind.u8 (0 : Int), Value.int IntKind.u32 (0 : Int), Value.int IntKind.u8 (0 : Int), Value.int IntKind.u32 (0 : Int), Value.int IntKind.u8 (0 : Int), Value.int IntKind.u32 (0 : Int), Value.int IntKind.u8 (0 : Int), Value.int IntKind.u32 (0 : Int), Value.int IntKind.u8 (0 : Int), Value.int IntKind.u32 (0 : Int), Value.int IntKind.u8 (0 : Int), Value.int IntKind.u32 (0 : Int), Value.int IntKind.u8 (0 : Int), Value.int IntKind.u32 (0 : Int), Value.int IntKind.u8 (0 : Int), Value.int IntKind.u32 (0 : Int), Value.int IntKind.u8 (0 : Int), Value.int IntKind.u32 (0 : Int), Value.int IntKind.u8 (0 : Int), Value.int IntKind.u32 (0 : Int), Value.int IntKind.u8 (0 : Int), Value.int IntKind.u32 (0 : Int), Value.int IntKind.u8 (0 : Int), Value.int IntKind.u32 (0 : Int), Value.int IntKind.u8 (0 : Int), Value.int IntKind.u32 (0 : Int), Value.int IntKind.u8 (0 : Int), Value.int IntKind.u32 (0 : Int), Value.int IntKind.u8 (0 : Int), Value.int IntKind.u32 (0 : Int), Value.int IntKind.u8 (0 : Int), Value.int IntKind.u32 (0 : Int), Value.int IntKind.u8 (0 : Int), Value.int IntKind.u32 (0 : Int), Value.int IntKind.u8 (0 : Int), Value.int IntKind.u32 (0 : Int), Value.int IntKind.u8 (0 : Int), Value.int IntKind.u32 (0 : Int), Value.int IntKind.u8 (0 : Int), Value.int IntKind.u32 (0 : Int), Value.int IntKind.u8 (0 : Int), Value.int IntKind.u32 (0 : Int), Value.int IntKind.u8 (0 : Int), Value.int IntKind.u32 (0 : Int), Value.int IntKind.u8 (0 : Int), Value.int IntKind.u32 (0 : Int), Value.int IntKind.u8 (0 : Int), Value.int IntKind.u32 (0 : Int), Value.int IntKind.u8 (0 : Int), Value.int IntKind.u32 (0 : Int), Value.int IntKind.u8 (0 : Int), Value.int IntKind.u32 (0 : Int), Value.int IntKind.u8 (0 : Int), Value.int IntKind.u32 (0 : Int), Value.int IntKind.u8 (0 : Int), Value.int IntKind.u32 (0 : Int), Value.int IntKind.u8 (0 : Int), Value.int IntKind.u32 (0 : Int), Value.int IntKind.u8 (0 : Int), Value.int IntKind.u32 (0 : Int), Value.int IntKind.u8 (0 : Int), Value.int IntKind.u32 (0 : Int), Value.int IntKind.u8 (0 : Int)] ∧ True) := by kernel_rfl
theorem ar1 (off n : Nat) (cs : Array Value) (ty : TypeId) (i : Int) (bs zz o : Array Value) (Q : Int → Array Value → Array Value → Prop) : (stepT EA.go (run EA 1000) 1 (rG_F off n cs ty i bs zz) (rG_M off n cs ty i bs zz)).vc (retOk 1 [] (bkS o) (rM cs ty)) (rG_n off n cs ty Q) =
    (((decide (i < (32 : Int)) == true) = true → (decide (i < (↑n : Int)) = true → (((0 : Int) ≤ i ∧ i < (↑n : Int)) ∧ True) ∧ (IsInt IntKind.u32 cs (off + Int.toNat i * 1) ∧ True) ∧ (((0 : Int) ≤ i ∧ i < (32 : Int)) ∧ True) ∧ ((0 : Nat) + Int.toNat i * 1 < Array.size bs ∧ True) ∧ Q (ari BinOp.add IntKind.i64 i (1 : Int)) (Array.setIfInBounds bs ((0 : Nat) + Int.toNat i * 1) (Value.int IntKind.i64 (if (8388607 : Int) < IntKind.wrap IntKind.i64 (intAt cs (off + Int.toNat i * 1)) then (8388607 : Int) else IntKind.wrap IntKind.i64 (intAt cs (off + Int.toNat i * 1))))) zz ∧ CallKind.normal = CallKind.normal ∧ TodoOk (ren 1 [(1, 1), (2, 2)]) rG_d0 rG_d0 ∧ off = off ∧ n = n ∧ ari BinOp.add IntKind.i64 i (1 : Int) = ari BinOp.add IntKind.i64 i (1 : Int) ∧ ty = ty ∧ cs = cs ∧ (45 : TypeId) = (45 : TypeId) ∧ zz = zz ∧ (45 : TypeId) = (45 : TypeId) ∧ Array.setIfInBounds bs ((0 : Nat) + Int.toNat i * 1) (Value.int IntKind.i64 (if (8388607 : Int) < IntKind.wrap IntKind.i64 (intAt cs (off + Int.toNat i * 1)) then (8388607 : Int) else IntKind.wrap IntKind.i64 (intAt cs (off + Int.toNat i * 1)))) = Array.setIfInBounds bs ((0 : Nat) + Int.toNat i * 1) (Value.int IntKind.i64 (if (8388607 : Int) < IntKind.wrap IntKind.i64 (intAt cs (off + Int.toNat i * 1)) then (8388607 : Int) else IntKind.wrap IntKind.i64 (intAt cs (off + Int.toNat i * 1)))) ∧ True) ∧ (decide (i < (↑n : Int)) = false → (Array.size bs = (64 : Nat) ∧ True) ∧ (Array.size bs = (64 : Nat) ∧ Array.size bs = Array.size zz ∧ True) ∧ (Array.size bs = (64 : Nat) ∧ True) ∧ o = bs ∧ ty = ty ∧ cs = cs ∧ True)) ∧ ((decide (i < (32 : Int)) == true) = false → (Array.size bs = (64 : Nat) ∧ True) ∧ (Array.size bs = (64 : Nat) ∧ Array.size bs = Array.size zz ∧ True) ∧ (Array.size bs = (64 : Nat) ∧ True) ∧ o = bs ∧ ty = ty ∧ cs = cs ∧ True)) := by kernel_rfl
theorem arN (o : Array Value) : (run E0 1000 0 [callFr 8 Tryd.f8.ntmps [.s (.c (.f .e0))] (Tryd.f8.body.getD .skip)] e0M).vc (retOk 0 [] (bkS o) e0M) (fun _ _ => False) =
    (o = #[Value.int IntKind.i64 (0 : Int), Value.int IntKind.i64 (0 : Int), Value.int IntKind.i64 (0 : Int), Value.int IntKind.i64 (0 : Int), Value.int IntKind.i64 (0 : Int), Value.int IntKind.i64 (0 : Int), Value.int IntKind.i64 (0 : Int), Value.int IntKind.i64 (0 : Int), Value.int IntKind.i64 (0 : Int), Value.int IntKind.i64 (0 : Int), Value.int IntKind.i64 (0 : Int), Value.int IntKind.i64 (0 : Int), Value.int IntKind.i64 (0 : Int), Value.int IntKind.i64 (0 : Int), Value.int IntKind.i64 (0 : Int), Value.int IntKind.i64 (0 : Int), Value.int IntKind.i64 (0 : Int), Value.int IntKind.i64 (0 : Int), Value.int IntKind.i64 (0 : Int), Value.int IntKind.i64 (0 : Int), Value.int IntKind.i64 (0 : Int), Value.int IntKind.i64 (0 : Int), Value.int IntKind.i64 (0 : Int), Value.int IntKind.i64 (0 : Int), Value.int IntKind.i64 (0 : Int), Value.int IntKind.i64 (0 : Int), Value.int IntKind.i64 (0 : Int), Value.int IntKind.i64 (0 : Int), Value.int IntKind.i64 (0 : Int), Value.int IntKind.i64 (0 : Int), Value.int IntKind.i64 (0 : Int), Value.int IntKind.i64 (0 : Int), Value.int IntKind.i64 (0 : Int), Value.int IntKind.i64 (0 : Int), Value.int IntKind.i64 (0 : Int), Value.int IntKind.i64 (0 : Int), Value.int IntKind.i64 (0 : Int), Value.int IntKind.i64 (0 : Int), Value.int IntKind.i64 (0 : Int), Value.int IntKind.i64 (0 : Int), Value.int IntKind.i64 (0 : Int), Value.int IntKind.i64 (0 : Int), Value.int IntKind.i64 (0 : Int), Value.int IntKind.i64 (0 : Int), Value.int IntKind.i64 (0 : Int), Value.int IntKind.i64 (0 : Int), Value.int IntKind.i64 (0 : Int), Value.int IntKind.i64 (0 : Int), Value.int IntKind.i64 (0 : Int), Value.int IntKind.i64 (0 : Int), Value.int IntKind.i64 (0 : Int), Value.int IntKind.i64 (0 : Int), Value.int IntKind.i64 (0 : Int), Value.int IntKind.i64 (0 : Int), Value.int IntKind.i64 (0 : Int), Value.int IntKind.i64 (0 : Int), Value.int IntKind.i64 (0 : Int), Value.int IntKind.i64 (0 : Int), Value.int IntKind.i64 (0 : Int), Value.int IntKind.i64 (0 : Int), Value.int IntKind.i64 (0 : Int), Value.int IntKind.i64 (0 : Int), Value.int IntKind.i64 (0 : Int), Value.int IntKind.i64 (0 : Int)] ∧ True) := by kernel_rfl
theorem ag0_vc (off : Nat) (n : Nat) (cs : Array Value) (ty : TypeId) (mn : Int) (QhG : Int → Array Value → Array Value → Prop) : (ag0_t off n cs ty mn).vc ((fun _ _ => False)) (ag0_x off n cs ty mn QhG) =
    (QhG (0 : Int) #[Value.int IntKind.u32 (0 : Int), Value.int IntKind.u8 (0 : Int), Value.int IntKind.u32 (0 : Int), Value.int IntKind.u8 (0 : Int), Value.int IntKind.u32 (0 : Int), Value.int IntKind.u8 (0 : Int), Value.int IntKind.u32 (0 : Int), Value.int IntKind.u8 (0 : Int), Value.int IntKind.u32 (0 : Int), Value.int IntKind.u8 (0 : Int), Value.int IntKind.u32 (0 : Int), Value.int IntKind.u8 (0 : Int), Value.int IntKind.u32 (0 : Int), Value.int IntKind.u8 (0 : Int), Value.int IntKind.u32 (0 : Int), Value.int IntKind.u8 (0 : Int), Value.int IntKind.u32 (0 : Int), Value.int IntKind.u8 (0 : Int), Value.int IntKind.u32 (0 : Int), Value.int IntKind.u8 (0 : Int), Value.int IntKind.u32 (0 : Int), Value.int IntKind.u8 (0 : Int), Value.int IntKind.u32 (0 : Int), Value.int IntKind.u8 (0 : Int), Value.int IntKind.u32 (0 : Int), Value.int IntKind.u8 (0 : Int), Value.int IntKind.u32 (0 : Int), Value.int IntKind.u8 (0 : Int), Value.int IntKind.u32 (0 : Int), Value.int IntKind.u8 (0 : Int), Value.int IntKind.u32 (0 : Int), Value.int IntKind.u8 (0 : Int), Value.int IntKind.u32 (0 : Int), Value.int IntKind.u8 (0 : Int), Value.int IntKind.u32 (0 : Int), Value.int IntKind.u8 (0 : Int), Value.int IntKind.u32 (0 : Int), Value.int IntKind.u8 (0 : Int), Value.int IntKind.u32 (0 : Int), Value.int IntKind.u8 (0 : Int), Value.int IntKind.u32 (0 : Int), Value.int IntKind.u8 (0 : Int), Value.int IntKind.u32 (0 : Int), Value.int IntKind.u8 (0 : Int), Value.int IntKind.u32 (0 : Int), Value.int IntKind.u8 (0 : Int), Value.int IntKind.u32 (0 : Int), Value.int IntKind.u8 (0 : Int), Value.int IntKind.u32 (0 : Int), Value.int IntKind.u8 (0 : Int), Value.int IntKind.u32 (0 : Int), Value.int IntKind.u8 (0 : Int), Value.int IntKind.u32 (0 : Int), Value.int IntKind.u8 (0 : Int), Value.int IntKind.u32 (0 : Int), Value.int IntKind.u8 (0 : Int), Value.int IntKind.u32 (0 : Int), Value.int IntKind.u8 (0 : Int), Value.int IntKind.u32 (0 : Int), Value.int IntKind.u8 (0 : Int), Value.int IntKind.u32 (0 : Int), Value.int IntKind.u8 (0 : Int), Value.int IntKind.u32 (0 : Int), Value.int IntKind.u8 (0 : Int)] #[Value.int IntKind.u32 (0 : Int), Value.int IntKind.u8 (0 : Int), Value.int IntKind.u32 (0 : Int), Value.int IntKind.u8 (0 : Int), Value.int IntKind.u32 (0 : Int), Value.int IntKind.u8 (0 : Int), Value.int IntKind.u32 (0 : Int), Value.int IntKind.u8 (0 : Int), Value.int IntKind.u32 (0 : Int), Value.int IntKind.u8 (0 : Int), Value.int IntKind.u32 (0 : Int), Value.int IntKind.u8 (0 : Int), Value.int IntKind.u32 (0 : Int), Value.int IntKind.u8 (0 : Int), Value.int IntKind.u32 (0 : Int), Value.int IntKind.u8 (0 : Int), Value.int IntKind.u32 (0 : Int), Value.int IntKind.u8 (0 : Int), Value.int IntKind.u32 (0 : Int), Value.int IntKind.u8 (0 : Int), Value.int IntKind.u32 (0 : Int), Value.int IntKind.u8 (0 : Int), Value.int IntKind.u32 (0 : Int), Value.int IntKind.u8 (0 : Int), Value.int IntKind.u32 (0 : Int), Value.int IntKind.u8 (0 : Int), Value.int IntKind.u32 (0 : Int), Value.int IntKind.u8 (0 : Int), Value.int IntKind.u32 (0 : Int), Value.int IntKind.u8 (0 : Int), Value.int IntKind.u32 (0 : Int), Value.int IntKind.u8 (0 : Int), Value.int IntKind.u32 (0 : Int), Value.int IntKind.u8 (0 : Int), Value.int IntKind.u32 (0 : Int), Value.int IntKind.u8 (0 : Int), Value.int IntKind.u32 (0 : Int), Value.int IntKind.u8 (0 : Int), Value.int IntKind.u32 (0 : Int), Value.int IntKind.u8 (0 : Int), Value.int IntKind.u32 (0 : Int), Value.int IntKind.u8 (0 : Int), Value.int IntKind.u32 (0 : Int), Value.int IntKind.u8 (0 : Int), Value.int IntKind.u32 (0 : Int), Value.int IntKind.u8 (0 : Int), Value.int IntKind.u32 (0 : Int), Value.int IntKind.u8 (0 : Int), Value.int IntKind.u32 (0 : Int), Value.int IntKind.u8 (0 : Int), Value.int IntKind.u32 (0 : Int), Value.int IntKind.u8 (0 : Int), Value.int IntKind.u32 (0 : Int), Value.int IntKind.u8 (0 : Int), Value.int IntKind.u32 (0 : Int), Value.int IntKind.u8 (0 : Int), Value.int IntKind.u32 (0 : Int), Value.int IntKind.u8 (0 : Int), Value.int IntKind.u32 (0 : Int), Value.int IntKind.u8 (0 : Int), Value.int IntKind.u32 (0 : Int), Value.int IntKind.u8 (0 : Int), Value.int IntKind.u32 (0 : Int), Value.int IntKind.u8 (0 : Int)] ∧ CallKind.normal = CallKind.normal ∧ TodoOk (ren 1 [(1, 1), (2, 2)]) hG_d0 hG_d0 ∧ off = off ∧ n = n ∧ (mn = if (32 : Int) < (↑n : Int) then (32 : Int) else (↑n : Int)) ∧ (0 : Int) = (0 : Int) ∧ ty = ty ∧ cs = cs ∧ (31 : TypeId) = (31 : Nat) ∧ #[Value.int IntKind.u32 (0 : Int), Value.int IntKind.u8 (0 : Int), Value.int IntKind.u32 (0 : Int), Value.int IntKind.u8 (0 : Int), Value.int IntKind.u32 (0 : Int), Value.int IntKind.u8 (0 : Int), Value.int IntKind.u32 (0 : Int), Value.int IntKind.u8 (0 : Int), Value.int IntKind.u32 (0 : Int), Value.int IntKind.u8 (0 : Int), Value.int IntKind.u32 (0 : Int), Value.int IntKind.u8 (0 : Int), Value.int IntKind.u32 (0 : Int), Value.int IntKind.u8 (0 : Int), Value.int IntKind.u32 (0 : Int), Value.int IntKind.u8 (0 : Int), Value.int IntKind.u32 (0 : Int), Value.int IntKind.u8 (0 : Int), Value.int IntKind.u32 (0 : Int), Value.int IntKind.u8 (0 : Int), Value.int IntKind.u32 (0 : Int), Value.int IntKind.u8 (0 : Int), Value.int IntKind.u32 (0 : Int), Value.int IntKind.u8 (0 : Int), Value.int IntKind.u32 (0 : Int), Value.int IntKind.u8 (0 : Int), Value.int IntKind.u32 (0 : Int), Value.int IntKind.u8 (0 : Int), Value.int IntKind.u32 (0 : Int), Value.int IntKind.u8 (0 : Int), Value.int IntKind.u32 (0 : Int), Value.int IntKind.u8 (0 : Int), Value.int IntKind.u32 (0 : Int), Value.int IntKind.u8 (0 : Int), Value.int IntKind.u32 (0 : Int), Value.int IntKind.u8 (0 : Int), Value.int IntKind.u32 (0 : Int), Value.int IntKind.u8 (0 : Int), Value.int IntKind.u32 (0 : Int), Value.int IntKind.u8 (0 : Int), Value.int IntKind.u32 (0 : Int), Value.int IntKind.u8 (0 : Int), Value.int IntKind.u32 (0 : Int), Value.int IntKind.u8 (0 : Int), Value.int IntKind.u32 (0 : Int), Value.int IntKind.u8 (0 : Int), Value.int IntKind.u32 (0 : Int), Value.int IntKind.u8 (0 : Int), Value.int IntKind.u32 (0 : Int), Value.int IntKind.u8 (0 : Int), Value.int IntKind.u32 (0 : Int), Value.int IntKind.u8 (0 : Int), Value.int IntKind.u32 (0 : Int), Value.int IntKind.u8 (0 : Int), Value.int IntKind.u32 (0 : Int), Value.int IntKind.u8 (0 : Int), Value.int IntKind.u32 (0 : Int), Value.int IntKind.u8 (0 : Int), Value.int IntKind.u32 (0 : Int), Value.int IntKind.u8 (0 : Int), Value.int IntKind.u32 (0 : Int), Value.int IntKind.u8 (0 : Int), Value.int IntKind.u32 (0 : Int), Value.int IntKind.u8 (0 : Int)] = #[Value.int IntKind.u32 (0 : Int), Value.int IntKind.u8 (0 : Int), Value.int IntKind.u32 (0 : Int), Value.int IntKind.u8 (0 : Int), Value.int IntKind.u32 (0 : Int), Value.int IntKind.u8 (0 : Int), Value.int IntKind.u32 (0 : Int), Value.int IntKind.u8 (0 : Int), Value.int IntKind.u32 (0 : Int), Value.int IntKind.u8 (0 : Int), Value.int IntKind.u32 (0 : Int), Value.int IntKind.u8 (0 : Int), Value.int IntKind.u32 (0 : Int), Value.int IntKind.u8 (0 : Int), Value.int IntKind.u32 (0 : Int), Value.int IntKind.u8 (0 : Int), Value.int IntKind.u32 (0 : Int), Value.int IntKind.u8 (0 : Int), Value.int IntKind.u32 (0 : Int), Value.int IntKind.u8 (0 : Int), Value.int IntKind.u32 (0 : Int), Value.int IntKind.u8 (0 : Int), Value.int IntKind.u32 (0 : Int), Value.int IntKind.u8 (0 : Int), Value.int IntKind.u32 (0 : Int), Value.int IntKind.u8 (0 : Int), Value.int IntKind.u32 (0 : Int), Value.int IntKind.u8 (0 : Int), Value.int IntKind.u32 (0 : Int), Value.int IntKind.u8 (0 : Int), Value.int IntKind.u32 (0 : Int), Value.int IntKind.u8 (0 : Int), Value.int IntKind.u32 (0 : Int), Value.int IntKind.u8 (0 : Int), Value.int IntKind.u32 (0 : Int), Value.int IntKind.u8 (0 : Int), Value.int IntKind.u32 (0 : Int), Value.int IntKind.u8 (0 : Int), Value.int IntKind.u32 (0 : Int), Value.int IntKind.u8 (0 : Int), Value.int IntKind.u32 (0 : Int), Value.int IntKind.u8 (0 : Int), Value.int IntKind.u32 (0 : Int), Value.int IntKind.u8 (0 : Int), Value.int IntKind.u32 (0 : Int), Value.int IntKind.u8 (0 : Int), Value.int IntKind.u32 (0 : Int), Value.int IntKind.u8 (0 : Int), Value.int IntKind.u32 (0 : Int), Value.int IntKind.u8 (0 : Int), Value.int IntKind.u32 (0 : Int), Value.int IntKind.u8 (0 : Int), Value.int IntKind.u32 (0 : Int), Value.int IntKind.u8 (0 : Int), Value.int IntKind.u32 (0 : Int), Value.int IntKind.u8 (0 : Int), Value.int IntKind.u32 (0 : Int), Value.int IntKind.u8 (0 : Int), Value.int IntKind.u32 (0 : Int), Value.int IntKind.u8 (0 : Int), Value.int IntKind.u32 (0 : Int), Value.int IntKind.u8 (0 : Int), Value.int IntKind.u32 (0 : Int), Value.int IntKind.u8 (0 : Int)] ∧ (31 : TypeId) = (31 : Nat) ∧ #[Value.int IntKind.u32 (0 : Int), Value.int IntKind.u8 (0 : Int), Value.int IntKind.u32 (0 : Int), Value.int IntKind.u8 (0 : Int), Value.int IntKind.u32 (0 : Int), Value.int IntKind.u8 (0 : Int), Value.int IntKind.u32 (0 : Int), Value.int IntKind.u8 (0 : Int), Value.int IntKind.u32 (0 : Int), Value.int IntKind.u8 (0 : Int), Value.int IntKind.u32 (0 : Int), Value.int IntKind.u8 (0 : Int), Value.int IntKind.u32 (0 : Int), Value.int IntKind.u8 (0 : Int), Value.int IntKind.u32 (0 : Int), Value.int IntKind.u8 (0 : Int), Value.int IntKind.u32 (0 : Int), Value.int IntKind.u8 (0 : Int), Value.int IntKind.u32 (0 : Int), Value.int IntKind.u8 (0 : Int), Value.int IntKind.u32 (0 : Int), Value.int IntKind.u8 (0 : Int), Value.int IntKind.u32 (0 : Int), Value.int IntKind.u8 (0 : Int), Value.int IntKind.u32 (0 : Int), Value.int IntKind.u8 (0 : Int), Value.int IntKind.u32 (0 : Int), Value.int IntKind.u8 (0 : Int), Value.int IntKind.u32 (0 : Int), Value.int IntKind.u8 (0 : Int), Value.int IntKind.u32 (0 : Int), Value.int IntKind.u8 (0 : Int), Value.int IntKind.u32 (0 : Int), Value.int IntKind.u8 (0 : Int), Value.int IntKind.u32 (0 : Int), Value.int IntKind.u8 (0 : Int), Value.int IntKind.u32 (0 : Int), Value.int IntKind.u8 (0 : Int), Value.int IntKind.u32 (0 : Int), Value.int IntKind.u8 (0 : Int), Value.int IntKind.u32 (0 : Int), Value.int IntKind.u8 (0 : Int), Value.int IntKind.u32 (0 : Int), Value.int IntKind.u8 (0 : Int), Value.int IntKind.u32 (0 : Int), Value.int IntKind.u8 (0 : Int), Value.int IntKind.u32 (0 : Int), Value.int IntKind.u8 (0 : Int), Value.int IntKind.u32 (0 : Int), Value.int IntKind.u8 (0 : Int), Value.int IntKind.u32 (0 : Int), Value.int IntKind.u8 (0 : Int), Value.int IntKind.u32 (0 : Int), Value.int IntKind.u8 (0 : Int), Value.int IntKind.u32 (0 : Int), Value.int IntKind.u8 (0 : Int), Value.int IntKind.u32 (0 : Int), Value.int IntKind.u8 (0 : Int), Value.int IntKind.u32 (0 : Int), Value.int IntKind.u8 (0 : Int), Value.int IntKind.u32 (0 : Int), Value.int IntKind.u8 (0 : Int), Value.int IntKind.u32 (0 : Int), Value.int IntKind.u8 (0 : Int)] = #[Value.int IntKind.u32 (0 : Int), Value.int IntKind.u8 (0 : Int), Value.int IntKind.u32 (0 : Int), Value.int IntKind.u8 (0 : Int), Value.int IntKind.u32 (0 : Int), Value.int IntKind.u8 (0 : Int), Value.int IntKind.u32 (0 : Int), Value.int IntKind.u8 (0 : Int), Value.int IntKind.u32 (0 : Int), Value.int IntKind.u8 (0 : Int), Value.int IntKind.u32 (0 : Int), Value.int IntKind.u8 (0 : Int), Value.int IntKind.u32 (0 : Int), Value.int IntKind.u8 (0 : Int), Value.int IntKind.u32 (0 : Int), Value.int IntKind.u8 (0 : Int), Value.int IntKind.u32 (0 : Int), Value.int IntKind.u8 (0 : Int), Value.int IntKind.u32 (0 : Int), Value.int IntKind.u8 (0 : Int), Value.int IntKind.u32 (0 : Int), Value.int IntKind.u8 (0 : Int), Value.int IntKind.u32 (0 : Int), Value.int IntKind.u8 (0 : Int), Value.int IntKind.u32 (0 : Int), Value.int IntKind.u8 (0 : Int), Value.int IntKind.u32 (0 : Int), Value.int IntKind.u8 (0 : Int), Value.int IntKind.u32 (0 : Int), Value.int IntKind.u8 (0 : Int), Value.int IntKind.u32 (0 : Int), Value.int IntKind.u8 (0 : Int), Value.int IntKind.u32 (0 : Int), Value.int IntKind.u8 (0 : Int), Value.int IntKind.u32 (0 : Int), Value.int IntKind.u8 (0 : Int), Value.int IntKind.u32 (0 : Int), Value.int IntKind.u8 (0 : Int), Value.int IntKind.u32 (0 : Int), Value.int IntKind.u8 (0 : Int), Value.int IntKind.u32 (0 : Int), Value.int IntKind.u8 (0 : Int), Value.int IntKind.u32 (0 : Int), Value.int IntKind.u8 (0 : Int), Value.int IntKind.u32 (0 : Int), Value.int IntKind.u8 (0 : Int), Value.int IntKind.u32 (0 : Int), Value.int IntKind.u8 (0 : Int), Value.int IntKind.u32 (0 : Int), Value.int IntKind.u8 (0 : Int), Value.int IntKind.u32 (0 : Int), Value.int IntKind.u8 (0 : Int), Value.int IntKind.u32 (0 : Int), Value.int IntKind.u8 (0 : Int), Value.int IntKind.u32 (0 : Int), Value.int IntKind.u8 (0 : Int), Value.int IntKind.u32 (0 : Int), Value.int IntKind.u8 (0 : Int), Value.int IntKind.u32 (0 : Int), Value.int IntKind.u8 (0 : Int), Value.int IntKind.u32 (0 : Int), Value.int IntKind.u8 (0 : Int), Value.int IntKind.u32 (0 : Int), Value.int IntKind.u8 (0 : Int)] ∧ True) := by kernel_rfl
theorem ar0_vc (off : Nat) (n : Nat) (cs : Array Value) (ty : TypeId) (QrG : Int → Array Value → Array Value → Prop) : (ar0_t off n cs ty).vc ((fun _ _ => False)) (ar0_x off n cs ty QrG) =
    (QrG (0 : Int) #[Value.int IntKind.i64 (0 : Int), Value.int IntKind.i64 (0 : Int), Value.int IntKind.i64 (0 : Int), Value.int IntKind.i64 (0 : Int), Value.int IntKind.i64 (0 : Int), Value.int IntKind.i64 (0 : Int), Value.int IntKind.i64 (0 : Int), Value.int IntKind.i64 (0 : Int), Value.int IntKind.i64 (0 : Int), Value.int IntKind.i64 (0 : Int), Value.int IntKind.i64 (0 : Int), Value.int IntKind.i64 (0 : Int), Value.int IntKind.i64 (0 : Int), Value.int IntKind.i64 (0 : Int), Value.int IntKind.i64 (0 : Int), Value.int IntKind.i64 (0 : Int), Value.int IntKind.i64 (0 : Int), Value.int IntKind.i64 (0 : Int), Value.int IntKind.i64 (0 : Int), Value.int IntKind.i64 (0 : Int), Value.int IntKind.i64 (0 : Int), Value.int IntKind.i64 (0 : Int), Value.int IntKind.i64 (0 : Int), Value.int IntKind.i64 (0 : Int), Value.int IntKind.i64 (0 : Int), Value.int IntKind.i64 (0 : Int), Value.int IntKind.i64 (0 : Int), Value.int IntKind.i64 (0 : Int), Value.int IntKind.i64 (0 : Int), Value.int IntKind.i64 (0 : Int), Value.int IntKind.i64 (0 : Int), Value.int IntKind.i64 (0 : Int), Value.int IntKind.i64 (0 : Int), Value.int IntKind.i64 (0 : Int), Value.int IntKind.i64 (0 : Int), Value.int IntKind.i64 (0 : Int), Value.int IntKind.i64 (0 : Int), Value.int IntKind.i64 (0 : Int), Value.int IntKind.i64 (0 : Int), Value.int IntKind.i64 (0 : Int), Value.int IntKind.i64 (0 : Int), Value.int IntKind.i64 (0 : Int), Value.int IntKind.i64 (0 : Int), Value.int IntKind.i64 (0 : Int), Value.int IntKind.i64 (0 : Int), Value.int IntKind.i64 (0 : Int), Value.int IntKind.i64 (0 : Int), Value.int IntKind.i64 (0 : Int), Value.int IntKind.i64 (0 : Int), Value.int IntKind.i64 (0 : Int), Value.int IntKind.i64 (0 : Int), Value.int IntKind.i64 (0 : Int), Value.int IntKind.i64 (0 : Int), Value.int IntKind.i64 (0 : Int), Value.int IntKind.i64 (0 : Int), Value.int IntKind.i64 (0 : Int), Value.int IntKind.i64 (0 : Int), Value.int IntKind.i64 (0 : Int), Value.int IntKind.i64 (0 : Int), Value.int IntKind.i64 (0 : Int), Value.int IntKind.i64 (0 : Int), Value.int IntKind.i64 (0 : Int), Value.int IntKind.i64 (0 : Int), Value.int IntKind.i64 (0 : Int)] #[Value.int IntKind.i64 (0 : Int), Value.int IntKind.i64 (0 : Int), Value.int IntKind.i64 (0 : Int), Value.int IntKind.i64 (0 : Int), Value.int IntKind.i64 (0 : Int), Value.int IntKind.i64 (0 : Int), Value.int IntKind.i64 (0 : Int), Value.int IntKind.i64 (0 : Int), Value.int IntKind.i64 (0 : Int), Value.int IntKind.i64 (0 : Int), Value.int IntKind.i64 (0 : Int), Value.int IntKind.i64 (0 : Int), Value.int IntKind.i64 (0 : Int), Value.int IntKind.i64 (0 : Int), Value.int IntKind.i64 (0 : Int), Value.int IntKind.i64 (0 : Int), Value.int IntKind.i64 (0 : Int), Value.int IntKind.i64 (0 : Int), Value.int IntKind.i64 (0 : Int), Value.int IntKind.i64 (0 : Int), Value.int IntKind.i64 (0 : Int), Value.int IntKind.i64 (0 : Int), Value.int IntKind.i64 (0 : Int), Value.int IntKind.i64 (0 : Int), Value.int IntKind.i64 (0 : Int), Value.int IntKind.i64 (0 : Int), Value.int IntKind.i64 (0 : Int), Value.int IntKind.i64 (0 : Int), Value.int IntKind.i64 (0 : Int), Value.int IntKind.i64 (0 : Int), Value.int IntKind.i64 (0 : Int), Value.int IntKind.i64 (0 : Int), Value.int IntKind.i64 (0 : Int), Value.int IntKind.i64 (0 : Int), Value.int IntKind.i64 (0 : Int), Value.int IntKind.i64 (0 : Int), Value.int IntKind.i64 (0 : Int), Value.int IntKind.i64 (0 : Int), Value.int IntKind.i64 (0 : Int), Value.int IntKind.i64 (0 : Int), Value.int IntKind.i64 (0 : Int), Value.int IntKind.i64 (0 : Int), Value.int IntKind.i64 (0 : Int), Value.int IntKind.i64 (0 : Int), Value.int IntKind.i64 (0 : Int), Value.int IntKind.i64 (0 : Int), Value.int IntKind.i64 (0 : Int), Value.int IntKind.i64 (0 : Int), Value.int IntKind.i64 (0 : Int), Value.int IntKind.i64 (0 : Int), Value.int IntKind.i64 (0 : Int), Value.int IntKind.i64 (0 : Int), Value.int IntKind.i64 (0 : Int), Value.int IntKind.i64 (0 : Int), Value.int IntKind.i64 (0 : Int), Value.int IntKind.i64 (0 : Int), Value.int IntKind.i64 (0 : Int), Value.int IntKind.i64 (0 : Int), Value.int IntKind.i64 (0 : Int), Value.int IntKind.i64 (0 : Int), Value.int IntKind.i64 (0 : Int), Value.int IntKind.i64 (0 : Int), Value.int IntKind.i64 (0 : Int), Value.int IntKind.i64 (0 : Int)] ∧ CallKind.normal = CallKind.normal ∧ TodoOk (ren 1 [(1, 1), (2, 2)]) rG_d0 rG_d0 ∧ off = off ∧ n = n ∧ (0 : Int) = (0 : Int) ∧ ty = ty ∧ cs = cs ∧ (45 : TypeId) = (45 : Nat) ∧ #[Value.int IntKind.i64 (0 : Int), Value.int IntKind.i64 (0 : Int), Value.int IntKind.i64 (0 : Int), Value.int IntKind.i64 (0 : Int), Value.int IntKind.i64 (0 : Int), Value.int IntKind.i64 (0 : Int), Value.int IntKind.i64 (0 : Int), Value.int IntKind.i64 (0 : Int), Value.int IntKind.i64 (0 : Int), Value.int IntKind.i64 (0 : Int), Value.int IntKind.i64 (0 : Int), Value.int IntKind.i64 (0 : Int), Value.int IntKind.i64 (0 : Int), Value.int IntKind.i64 (0 : Int), Value.int IntKind.i64 (0 : Int), Value.int IntKind.i64 (0 : Int), Value.int IntKind.i64 (0 : Int), Value.int IntKind.i64 (0 : Int), Value.int IntKind.i64 (0 : Int), Value.int IntKind.i64 (0 : Int), Value.int IntKind.i64 (0 : Int), Value.int IntKind.i64 (0 : Int), Value.int IntKind.i64 (0 : Int), Value.int IntKind.i64 (0 : Int), Value.int IntKind.i64 (0 : Int), Value.int IntKind.i64 (0 : Int), Value.int IntKind.i64 (0 : Int), Value.int IntKind.i64 (0 : Int), Value.int IntKind.i64 (0 : Int), Value.int IntKind.i64 (0 : Int), Value.int IntKind.i64 (0 : Int), Value.int IntKind.i64 (0 : Int), Value.int IntKind.i64 (0 : Int), Value.int IntKind.i64 (0 : Int), Value.int IntKind.i64 (0 : Int), Value.int IntKind.i64 (0 : Int), Value.int IntKind.i64 (0 : Int), Value.int IntKind.i64 (0 : Int), Value.int IntKind.i64 (0 : Int), Value.int IntKind.i64 (0 : Int), Value.int IntKind.i64 (0 : Int), Value.int IntKind.i64 (0 : Int), Value.int IntKind.i64 (0 : Int), Value.int IntKind.i64 (0 : Int), Value.int IntKind.i64 (0 : Int), Value.int IntKind.i64 (0 : Int), Value.int IntKind.i64 (0 : Int), Value.int IntKind.i64 (0 : Int), Value.int IntKind.i64 (0 : Int), Value.int IntKind.i64 (0 : Int), Value.int IntKind.i64 (0 : Int), Value.int IntKind.i64 (0 : Int), Value.int IntKind.i64 (0 : Int), Value.int IntKind.i64 (0 : Int), Value.int IntKind.i64 (0 : Int), Value.int IntKind.i64 (0 : Int), Value.int IntKind.i64 (0 : Int), Value.int IntKind.i64 (0 : Int), Value.int IntKind.i64 (0 : Int), Value.int IntKind.i64 (0 : Int), Value.int IntKind.i64 (0 : Int), Value.int IntKind.i64 (0 : Int), Value.int IntKind.i64 (0 : Int), Value.int IntKind.i64 (0 : Int)] = #[Value.int IntKind.i64 (0 : Int), Value.int IntKind.i64 (0 : Int), Value.int IntKind.i64 (0 : Int), Value.int IntKind.i64 (0 : Int), Value.int IntKind.i64 (0 : Int), Value.int IntKind.i64 (0 : Int), Value.int IntKind.i64 (0 : Int), Value.int IntKind.i64 (0 : Int), Value.int IntKind.i64 (0 : Int), Value.int IntKind.i64 (0 : Int), Value.int IntKind.i64 (0 : Int), Value.int IntKind.i64 (0 : Int), Value.int IntKind.i64 (0 : Int), Value.int IntKind.i64 (0 : Int), Value.int IntKind.i64 (0 : Int), Value.int IntKind.i64 (0 : Int), Value.int IntKind.i64 (0 : Int), Value.int IntKind.i64 (0 : Int), Value.int IntKind.i64 (0 : Int), Value.int IntKind.i64 (0 : Int), Value.int IntKind.i64 (0 : Int), Value.int IntKind.i64 (0 : Int), Value.int IntKind.i64 (0 : Int), Value.int IntKind.i64 (0 : Int), Value.int IntKind.i64 (0 : Int), Value.int IntKind.i64 (0 : Int), Value.int IntKind.i64 (0 : Int), Value.int IntKind.i64 (0 : Int), Value.int IntKind.i64 (0 : Int), Value.int IntKind.i64 (0 : Int), Value.int IntKind.i64 (0 : Int), Value.int IntKind.i64 (0 : Int), Value.int IntKind.i64 (0 : Int), Value.int IntKind.i64 (0 : Int), Value.int IntKind.i64 (0 : Int), Value.int IntKind.i64 (0 : Int), Value.int IntKind.i64 (0 : Int), Value.int IntKind.i64 (0 : Int), Value.int IntKind.i64 (0 : Int), Value.int IntKind.i64 (0 : Int), Value.int IntKind.i64 (0 : Int), Value.int IntKind.i64 (0 : Int), Value.int IntKind.i64 (0 : Int), Value.int IntKind.i64 (0 : Int), Value.int IntKind.i64 (0 : Int), Value.int IntKind.i64 (0 : Int), Value.int IntKind.i64 (0 : Int), Value.int IntKind.i64 (0 : Int), Value.int IntKind.i64 (0 : Int), Value.int IntKind.i64 (0 : Int), Value.int IntKind.i64 (0 : Int), Value.int IntKind.i64 (0 : Int), Value.int IntKind.i64 (0 : Int), Value.int IntKind.i64 (0 : Int), Value.int IntKind.i64 (0 : Int), Value.int IntKind.i64 (0 : Int), Value.int IntKind.i64 (0 : Int), Value.int IntKind.i64 (0 : Int), Value.int IntKind.i64 (0 : Int), Value.int IntKind.i64 (0 : Int), Value.int IntKind.i64 (0 : Int), Value.int IntKind.i64 (0 : Int), Value.int IntKind.i64 (0 : Int), Value.int IntKind.i64 (0 : Int)] ∧ (45 : TypeId) = (45 : Nat) ∧ #[Value.int IntKind.i64 (0 : Int), Value.int IntKind.i64 (0 : Int), Value.int IntKind.i64 (0 : Int), Value.int IntKind.i64 (0 : Int), Value.int IntKind.i64 (0 : Int), Value.int IntKind.i64 (0 : Int), Value.int IntKind.i64 (0 : Int), Value.int IntKind.i64 (0 : Int), Value.int IntKind.i64 (0 : Int), Value.int IntKind.i64 (0 : Int), Value.int IntKind.i64 (0 : Int), Value.int IntKind.i64 (0 : Int), Value.int IntKind.i64 (0 : Int), Value.int IntKind.i64 (0 : Int), Value.int IntKind.i64 (0 : Int), Value.int IntKind.i64 (0 : Int), Value.int IntKind.i64 (0 : Int), Value.int IntKind.i64 (0 : Int), Value.int IntKind.i64 (0 : Int), Value.int IntKind.i64 (0 : Int), Value.int IntKind.i64 (0 : Int), Value.int IntKind.i64 (0 : Int), Value.int IntKind.i64 (0 : Int), Value.int IntKind.i64 (0 : Int), Value.int IntKind.i64 (0 : Int), Value.int IntKind.i64 (0 : Int), Value.int IntKind.i64 (0 : Int), Value.int IntKind.i64 (0 : Int), Value.int IntKind.i64 (0 : Int), Value.int IntKind.i64 (0 : Int), Value.int IntKind.i64 (0 : Int), Value.int IntKind.i64 (0 : Int), Value.int IntKind.i64 (0 : Int), Value.int IntKind.i64 (0 : Int), Value.int IntKind.i64 (0 : Int), Value.int IntKind.i64 (0 : Int), Value.int IntKind.i64 (0 : Int), Value.int IntKind.i64 (0 : Int), Value.int IntKind.i64 (0 : Int), Value.int IntKind.i64 (0 : Int), Value.int IntKind.i64 (0 : Int), Value.int IntKind.i64 (0 : Int), Value.int IntKind.i64 (0 : Int), Value.int IntKind.i64 (0 : Int), Value.int IntKind.i64 (0 : Int), Value.int IntKind.i64 (0 : Int), Value.int IntKind.i64 (0 : Int), Value.int IntKind.i64 (0 : Int), Value.int IntKind.i64 (0 : Int), Value.int IntKind.i64 (0 : Int), Value.int IntKind.i64 (0 : Int), Value.int IntKind.i64 (0 : Int), Value.int IntKind.i64 (0 : Int), Value.int IntKind.i64 (0 : Int), Value.int IntKind.i64 (0 : Int), Value.int IntKind.i64 (0 : Int), Value.int IntKind.i64 (0 : Int), Value.int IntKind.i64 (0 : Int), Value.int IntKind.i64 (0 : Int), Value.int IntKind.i64 (0 : Int), Value.int IntKind.i64 (0 : Int), Value.int IntKind.i64 (0 : Int), Value.int IntKind.i64 (0 : Int), Value.int IntKind.i64 (0 : Int)] = #[Value.int IntKind.i64 (0 : Int), Value.int IntKind.i64 (0 : Int), Value.int IntKind.i64 (0 : Int), Value.int IntKind.i64 (0 : Int), Value.int IntKind.i64 (0 : Int), Value.int IntKind.i64 (0 : Int), Value.int IntKind.i64 (0 : Int), Value.int IntKind.i64 (0 : Int), Value.int IntKind.i64 (0 : Int), Value.int IntKind.i64 (0 : Int), Value.int IntKind.i64 (0 : Int), Value.int IntKind.i64 (0 : Int), Value.int IntKind.i64 (0 : Int), Value.int IntKind.i64 (0 : Int), Value.int IntKind.i64 (0 : Int), Value.int IntKind.i64 (0 : Int), Value.int IntKind.i64 (0 : Int), Value.int IntKind.i64 (0 : Int), Value.int IntKind.i64 (0 : Int), Value.int IntKind.i64 (0 : Int), Value.int IntKind.i64 (0 : Int), Value.int IntKind.i64 (0 : Int), Value.int IntKind.i64 (0 : Int), Value.int IntKind.i64 (0 : Int), Value.int IntKind.i64 (0 : Int), Value.int IntKind.i64 (0 : Int), Value.int IntKind.i64 (0 : Int), Value.int IntKind.i64 (0 : Int), Value.int IntKind.i64 (0 : Int), Value.int IntKind.i64 (0 : Int), Value.int IntKind.i64 (0 : Int), Value.int IntKind.i64 (0 : Int), Value.int IntKind.i64 (0 : Int), Value.int IntKind.i64 (0 : Int), Value.int IntKind.i64 (0 : Int), Value.int IntKind.i64 (0 : Int), Value.int IntKind.i64 (0 : Int), Value.int IntKind.i64 (0 : Int), Value.int IntKind.i64 (0 : Int), Value.int IntKind.i64 (0 : Int), Value.int IntKind.i64 (0 : Int), Value.int IntKind.i64 (0 : Int), Value.int IntKind.i64 (0 : Int), Value.int IntKind.i64 (0 : Int), Value.int IntKind.i64 (0 : Int), Value.int IntKind.i64 (0 : Int), Value.int IntKind.i64 (0 : Int), Value.int IntKind.i64 (0 : Int), Value.int IntKind.i64 (0 : Int), Value.int IntKind.i64 (0 : Int), Value.int IntKind.i64 (0 : Int), Value.int IntKind.i64 (0 : Int), Value.int IntKind.i64 (0 : Int), Value.int IntKind.i64 (0 : Int), Value.int IntKind.i64 (0 : Int), Value.int IntKind.i64 (0 : Int), Value.int IntKind.i64 (0 : Int), Value.int IntKind.i64 (0 : Int), Value.int IntKind.i64 (0 : Int), Value.int IntKind.i64 (0 : Int), Value.int IntKind.i64 (0 : Int), Value.int IntKind.i64 (0 : Int), Value.int IntKind.i64 (0 : Int), Value.int IntKind.i64 (0 : Int)] ∧ True) := by kernel_rfl
end Go.Proofs.YtjjeahnbppmigaaDoor
/- Of handle: the contract of Aged. No condition. -/
namespace Go.Proofs.YtjjeahnbppmigaaDoor
set_option linter.unusedSectionVars false
variable [Gh]
set_option maxRecDepth 100000
set_option linter.unusedSimpArgs false
set_option linter.unusedVariables false
/-! What only reads a block. -/
theorem Con.roA {E : Env} (hE : EnvOk E) {g : FuncId} {fn : Func} {c : Code} {l l' : List SV} {m ms : SMem} {q : List Prop} {s0 : SV} {A : SV → SMem → Prop} (h1 : E.fn g = some fn) (h2 : fn.body = some c) (hxs : ms.xs = []) (ι : Nat → Nat)
    (hm : ∀ i b, getB ms.bl i = some b → i < ms.next ∧ b.wr = false ∧ ∃ d, getB m.bl (ι i) = some d ∧ b.ty = d.ty ∧ ∀ R cs, d.arr.okM R cs → b.arr.okM (pull ι ms.next R) cs)
    (hl : ∀ R vs, All2 (SV.ok R) l vs → All2 (SV.ok (pull ι ms.next R)) l' vs) (good : (∀ p ∈ q, p) → Good E.P A ms.next [callFr g fn.ntmps l' c] ms)
    (hs : ∀ s m' R R' v, A s m' → s.ok R' v → s0.ok R v) : Con E g l m (needs q (.ret s0 m)) := by
  intro B hB
  obtain ⟨hq, hA⟩ := Tree.sat_needs hB
  refine ⟨fn, h1, by rw [h2]; rfl, fun n0 F w0 w R args ha hR => ?_⟩
  refine (frame_ro (hE.fns _ _ h1).1 h2 (good hq) hxs hm (hl R _ ha) hR).mono ?_
  rintro v w' ⟨k1, k2, s, m', R', k3, k4⟩
  exact ⟨s0, m, R, hA, ⟨fun _ _ h => h, fun _ _ h => .inl h, k2, Nat.le_refl _⟩, k1, hs _ _ _ _ _ k3 k4⟩
omit [Gh] in
def bkL : Nat → List Value
  | 0 => []
  | n + 1 => .int .u32 0 :: .int .u8 0 :: bkL n
omit [Gh] in
noncomputable def bkZ : Array Value := (bkL 32).toArray
omit [Gh] in
theorem bkL_at : ∀ (n i : Nat), i < n → (bkL n)[i * 2]? = some (.int .u32 0) ∧ (bkL n)[i * 2 + 1]? = some (.int .u8 0)
  | n + 1, 0, _ => ⟨rfl, rfl⟩
  | n + 1, i + 1, h => by
    have := bkL_at n i (by omega)
    rw [show (i + 1) * 2 = i * 2 + 1 + 1 by omega]
    exact this
  | 0, _, h => by omega
omit [Gh] in
def minL (x : Int) : Int := if 8388607 < x then 8388607 else x
omit [Gh] in
noncomputable def agB (cs : Array Value) (off : Nat) : Nat → Array Value
  | 0 => bkZ
  | i + 1 => (agB cs off i).setIfInBounds (i * 2) (.int .u32 (minL (intAt cs (off + i))))
omit [Gh] in
def min32 (n : Nat) : Nat := if 32 < n then 32 else n
omit [Gh] in
noncomputable def agedB (cs : Array Value) (off n : Nat) : Array Value := agB cs off (min32 n)
omit [Gh] in
def GensOk (cs : Array Value) (off n : Nat) : Prop := ∀ i, i < n → IsInt .u32 cs (off + i) ∧ 0 ≤ intAt cs (off + i)
section
variable {cs : Array Value} {off n : Nat} {ty : TypeId}
omit [Gh] in
theorem bkZ_kind (i : Nat) (hi : i < 32) : bkZ[i * 2]? = some (.int .u32 0) ∧ bkZ[i * 2 + 1]? = some (.int .u8 0) := by
  unfold bkZ
  rw [List.getElem?_toArray, List.getElem?_toArray]
  exact bkL_at 32 i hi
omit [Gh] in
theorem bkZ_size : bkZ.size = 64 := by kernel_rfl
omit [Gh] in
theorem agB_size : ∀ i, (agB cs off i).size = 64
  | 0 => bkZ_size
  | i + 1 => by unfold agB; rw [set_size]; exact agB_size i
omit [Gh] in
theorem agB_kind : ∀ (i j : Nat), j < 32 → (agB cs off i)[j * 2 + 1]? = some (.int .u8 0)
  | 0, j, h => (bkZ_kind j h).2
  | i + 1, j, h => by unfold agB; rw [set_out (by omega)]; exact agB_kind i j h
omit [Gh] in
theorem agB_age (hg : GensOk cs off n) : ∀ (i j : Nat), i ≤ n → i ≤ 32 → j < 32 → ∃ a, (agB cs off i)[j * 2]? = some (.int .u32 a) ∧ 0 ≤ a ∧ a ≤ 8388607
  | 0, j, _, _, h => ⟨0, (bkZ_kind j h).1, by omega, by omega⟩
  | i + 1, j, h1, h2, h => by
    unfold agB
    by_cases e : j = i
    · rw [e, set_in (by rw [agB_size]; omega)]
      refine ⟨_, rfl, ?_⟩
      have := (hg i (by omega)).2
      unfold minL
      split <;> omega
    · rw [set_out (by omega)]
      exact agB_age hg i j (by omega) (by omega) h
omit [Gh] in
theorem aged_bk (hg : GensOk cs off n) {i : Nat} (h1 : i ≤ n) (h2 : i ≤ 32) : BkOk (agB cs off i) := by
  refine ⟨agB_size i, fun j hj => ?_, fun j hj => isI_of (agB_kind i j hj), fun j hj => ?_, fun j hj => ?_⟩
  · obtain ⟨a, e, _⟩ := agB_age hg i j h1 h2 hj
    exact isI_of e
  · obtain ⟨a, e, k⟩ := agB_age hg i j h1 h2 hj
    show 0 ≤ intAt _ _ ∧ intAt _ _ ≤ _
    rw [intAt_of e]; exact k
  · show 0 ≤ intAt _ _ ∧ intAt _ _ ≤ _
    rw [intAt_of (agB_kind i j hj)]; omega
omit [Gh] in
theorem aged_kind (i j : Nat) (hj : j < 32) : kindAt (agB cs off i) j = 0 := intAt_of (agB_kind i j hj)
omit [Gh] in
theorem min32_le : min32 n ≤ n ∧ min32 n ≤ 32 := by unfold min32; split <;> omega
theorem EA_ok : EnvOk EA := EnvOk.with E0_ok _ _ conH1_ok
theorem hG_ok (hg : GensOk cs off n) {zz : Array Value} (hz : zz.size = 64) : ∀ (k i : Nat), i + k = min32 n → Good Tryd.prog (retOk 1 [] (bkS (agedB cs off n)) (rM cs ty)) 1 (hG_F off n cs ty (min32 n : Nat) (i : Int) (agB cs off i) zz) (hG_M off n cs ty (min32 n : Nat) (i : Int) (agB cs off i) zz) := by
  obtain ⟨m1, m2⟩ := min32_le (n := n)
  intro k
  induction k with
  | zero =>
    intro i hi
    refine past_vc EA_ok 1000 (ag1 off n cs ty (min32 n : Nat) (i : Int) (agB cs off i) zz (agedB cs off n) (fun _ _ _ => False)) ?_ (fun _ _ h => h) (fun fs m hb => hG_good (fun _ _ _ h => h.elim) hb)
    have d : decide ((i : Int) < (min32 n : Nat)) = false := decide_eq_false (by omega)
    have e : agedB cs off n = agB cs off i := by unfold agedB; rw [show min32 n = i by omega]
    simp only [d, e, hz, agB_size, true_implies, Bool.true_eq_false, Bool.false_eq_true, false_implies, and_true, true_and]
  | succ k ih =>
    intro i hi
    refine past_vc EA_ok 1000 (ag1 off n cs ty (min32 n : Nat) (i : Int) (agB cs off i) zz (agedB cs off n) (fun i' b' z' => i' = ((i + 1 : Nat) : Int) ∧ b' = agB cs off (i + 1) ∧ z' = zz)) ?_ (fun _ _ h => h)
      (fun fs m hb => hG_good (fun i' b' z' ⟨e1, e2, e3⟩ => by rw [e1, e2, e3]; exact ih (i + 1) (by omega)) hb)
    have d : decide ((i : Int) < (min32 n : Nat)) = true := decide_eq_true (by omega)
    have ei : ari .add .i64 (i : Int) 1 = ((i + 1 : Nat) : Int) := by rw [ari_add, i64_in' (by omega) (by omega)]; omega
    simp only [d, ei, agB_size, Nat.zero_add, Nat.mul_one, Int.toNat_natCast, true_implies, Bool.true_eq_false, Bool.false_eq_true, false_implies, and_true, true_and, hG_d0_ok]
    exact ⟨by omega, (hg i (by omega)).1, by omega, by omega, rfl⟩
omit [Gh] in
theorem fnA : E0.fn 20 = some Tryd.f20 := by kernel_rfl
omit [Gh] in
theorem bodyA : Tryd.f20.body = some (Tryd.f20.body.getD .skip) := by kernel_rfl
theorem aged_good (hg : GensOk cs off n) : Good Tryd.prog (fun s m => s = bkS (agedB cs off n) ∧ m = rM cs ty) 1 [callFr 20 Tryd.f20.ntmps [gnS off n] (Tryd.f20.body.getD .skip)] (rM cs ty) := by
  refine Good.ret [] (run_vc EA_ok 1000 (ag0_vc off n cs ty (min32 n : Nat) (fun i b z => i = ((0 : Nat) : Int) ∧ b = agB cs off 0 ∧ z.size = 64)) ?_ (fun s m h => h.elim) fun fs m h => ag0_go (fun i b z ⟨e1, e2, e3⟩ => by rw [e1, e2]; exact hG_ok hg e3 (min32 n) 0 (by omega)) h)
  have eL : bkZ = #[.int .u32 0, .int .u8 0, .int .u32 0, .int .u8 0, .int .u32 0, .int .u8 0, .int .u32 0, .int .u8 0, .int .u32 0, .int .u8 0, .int .u32 0, .int .u8 0, .int .u32 0, .int .u8 0, .int .u32 0, .int .u8 0, .int .u32 0, .int .u8 0, .int .u32 0, .int .u8 0, .int .u32 0, .int .u8 0, .int .u32 0, .int .u8 0, .int .u32 0, .int .u8 0, .int .u32 0, .int .u8 0, .int .u32 0, .int .u8 0, .int .u32 0, .int .u8 0, .int .u32 0, .int .u8 0, .int .u32 0, .int .u8 0, .int .u32 0, .int .u8 0, .int .u32 0, .int .u8 0, .int .u32 0, .int .u8 0, .int .u32 0, .int .u8 0, .int .u32 0, .int .u8 0, .int .u32 0, .int .u8 0, .int .u32 0, .int .u8 0, .int .u32 0, .int .u8 0, .int .u32 0, .int .u8 0, .int .u32 0, .int .u8 0, .int .u32 0, .int .u8 0, .int .u32 0, .int .u8 0, .int .u32 0, .int .u8 0, .int .u32 0, .int .u8 0] := by kernel_rfl
  have e : ((min32 n : Nat) : Int) = if (32 : Int) < (n : Int) then 32 else (n : Int) := by unfold min32; split <;> split <;> omega
  have ez : agB cs off 0 = bkZ := rfl
  simp only [← e, ez, eL, and_true, true_and, hG_d0_ok]
  exact ⟨rfl, rfl⟩
theorem aged_con {m : SMem} {i : Nat} {o k : SN} {cap : SK} {wr : Bool} (hb : getB m.bl i = some ⟨.raw cs, ty, wr⟩) : Con E0 20 [.s (.c (.f (.slice i o k cap)))] m (needs [GensOk cs o.den k.den] (.ret (bkS (agedB cs o.den k.den)) m)) := by
  refine Con.roA E0_ok (l' := [gnS o.den k.den]) (ms := rM cs ty) (A := fun s m => s = bkS (agedB cs o.den k.den) ∧ m = rM cs ty) fnA bodyA rfl (fun _ => i) ?_ ?_ (fun hq => aged_good (hq _ (List.mem_cons_self ..))) ?_
  · intro j b hj
    cases j with
    | zero => cases hj; exact ⟨Nat.zero_lt_one, rfl, _, hb, rfl, fun R cs' h => h⟩
    | succ j =>
      have hj : (Tr.node .nil (some ⟨.raw cs, ty, false⟩) .nil : Tr SBlk).get (j + 1) = some b := hj
      rw [Tr.get_succ, Tr.get_nil, ite_self] at hj
      cases hj
  · intro R vs ha
    match vs, ha with
    | [x], ha =>
      obtain ⟨⟨gl, cp, e1, e2, e3, e4⟩, _⟩ := ha
      exact ⟨⟨gl, cp, by unfold pull; exact e1, e2, trivial, e4⟩, trivial⟩
  · rintro s m' R R' v ⟨rfl, _⟩ hv
    exact hv
theorem aged_none (m : SMem) : Con E0 20 [.s (.c (.f .e0))] m (needs [] (.ret (bkS bkZ) m)) := by
  refine Con.pure E0_ok fnA bodyA (by kernel_rfl) (by kernel_rfl) fun hq => ?_
  refine (Good.ret [] (run_vc E0_ok 1000 ((show _ from agN bkZ)) ?_ (fun s m h => h) fun _ _ h => h.elim)).mono fun _ _ h => h.1
  simp only [and_true, true_and]
  kernel_rfl
end
end Go.Proofs.YtjjeahnbppmigaaDoor
/- Of extents: a row that was copied. No condition. -/
namespace Go.Proofs.YtjjeahnbppmigaaDoor
set_option maxRecDepth 100000
noncomputable def cloR (b k : Nat) (cs : Array Value) (t : TypeId) (s : SV) (m : SMem) : Prop := match s with
  | .s (.c (.f (.slice id (.l 0) (.o n) (.full 2)))) => (match getB m.bl id with
    | some ⟨.pop ds, ty, true⟩ => Nat.ble b id = true ∧ n = k ∧ ds = cs ∧ ty = t
    | _ => False)
  | _ => False
theorem cloR_made {b k : Nat} {cs : Array Value} {t : TypeId} {s : SV} {m : SMem} (h : cloR b k cs t s m) : madeA b (.o k) (.full 2) (.pop cs) t s m := by
  unfold cloR at h
  split at h
  · rename_i id n
    split at h
    · rename_i ds ty hb
      obtain ⟨h1, rfl, rfl, rfl⟩ := h
      exact ⟨id, Nat.le_of_ble_eq_true h1, rfl, hb⟩
    · exact h.elim
  · exact h.elim
noncomputable def popM (cs : Array Value) (ty : TypeId) : SMem := ⟨1, Tr.nil.set 0 (some ⟨.pop cs, ty, false⟩), []⟩
theorem popM_get {cs : Array Value} {ty : TypeId} {i : Nat} {x : SBlk} (h : getB (popM cs ty).bl i = some x) : i = 0 ∧ x = ⟨.pop cs, ty, false⟩ := by
  have h : getB (Tr.nil.set 0 (some ⟨.pop cs, ty, false⟩)) i = some x := h
  rw [getB_set] at h
  split at h
  · rename_i e
    cases h
    exact ⟨e, rfl⟩
  · have h : (Tr.nil : Tr SBlk).get i = some x := h
    rw [Tr.get_nil] at h
    cases h
end Go.Proofs.YtjjeahnbppmigaaDoor
/- Of extents: Clone of a row. -/
namespace Go.Proofs.YtjjeahnbppmigaaDoor
set_option maxRecDepth 100000
theorem cl0 (cells : List Value) (ty : TypeId) (off n : Nat) : (run E0 1000 1 [callFr 28 Tryd.f28.ntmps [.s (.c (.f (.slice 0 (.o off) (.o n) .any)))] (Tryd.f28.body.getD .skip)] (seeM cells ty)).vc (cloR 1 n (cells.toArray.extract off (off + n * 2)) 89) (fun _ _ => False) =
    ((off + n * 2 ≤ Array.size (List.toArray cells) ∧ (∀ (v : Value), List.Mem v (Array.toList (Array.extract (List.toArray cells) off (off + n * 2))) → Value.oneCell' v = true) ∧ (((0 : Nat) + n) * 16 ≤ (140737488355328 : Nat) ∧ (0 : Nat) + n ≤ (140737488355328 : Nat)) ∧ True) ∧ true = true ∧ (0 : Nat) + n = n ∧ Array.extract (List.toArray cells) off (off + n * 2) = Array.extract (List.toArray cells) off (off + n * 2) ∧ (89 : Nat) = (89 : TypeId)) := by kernel_rfl
theorem cl1 (cs : Array Value) (ty : TypeId) (off n : Nat) : (run E0 1000 1 [callFr 28 Tryd.f28.ntmps [.s (.c (.f (.slice 0 (.o off) (.o n) .any)))] (Tryd.f28.body.getD .skip)] (popM cs ty)).vc (cloR 1 n (cs.extract off (off + n * 2)) 89) (fun _ _ => False) =
    ((off + n * 2 ≤ Array.size cs ∧ (((0 : Nat) + n) * 16 ≤ (140737488355328 : Nat) ∧ (0 : Nat) + n ≤ (140737488355328 : Nat)) ∧ True) ∧ true = true ∧ (0 : Nat) + n = n ∧ Array.extract cs off (off + n * 2) = Array.extract cs off (off + n * 2) ∧ (89 : Nat) = (89 : TypeId)) := by kernel_rfl
end Go.Proofs.YtjjeahnbppmigaaDoor
/- Of extents: Clone of a row of which no place is known. No condition. -/
namespace Go.Proofs.YtjjeahnbppmigaaDoor
set_option linter.unusedSectionVars false
variable [Gh]
set_option maxRecDepth 100000
theorem clone_opq {m : SMem} {b off n c : Nat} {cells : List Value} (h : GlP b cells) (hc : n ≤ c) (hin : off + n * 2 ≤ cells.length) (h1 : ∀ v ∈ (cells.toArray.extract off (off + n * 2)).toList, v.oneCell' = true) (hn : n ≤ 1000) :
    Con E0 28 [.s (.c (.f (.opq (.slice (some ⟨b, off, none⟩) n c))))] m (needs [] (.ret (.s (.c (.f (.slice m.next (.l 0) (.o n) (.full 2))))) (m.new (.pop (cells.toArray.extract off (off + n * 2))) 89))) := by
  refine Con.seeN E0_ok (by kernel_rfl : E0.fn 28 = some Tryd.f28) (by kernel_rfl : Tryd.f28.body = some (Tryd.f28.body.getD .skip)) (fun _ => Looks.opq h hc) rfl fun _ ty => ?_
  refine (run_vc E0_ok 1000 (cl0 cells ty off n) ?_ (fun s m h => h) fun _ _ h => h.elim).mono fun s m h => cloR_made h
  have hm : ∀ (v : Value), List.Mem v (cells.toArray.extract off (off + n * 2)).toList → v.oneCell' = true := h1
  refine ⟨⟨by simpa using hin, hm, ⟨by omega, by omega⟩, trivial⟩, rfl, by omega, rfl, rfl⟩
theorem clone_row {m : SMem} {i off n : Nat} {cap : SK} {cs : Array Value} {ty : TypeId} {wr : Bool} (hb : getB m.bl i = some ⟨.pop cs, ty, wr⟩) (hin : off + n * 2 ≤ cs.size) (hn : n ≤ 1000) :
    Con E0 28 [.s (.c (.f (.slice i (.o off) (.o n) cap)))] m (needs [] (.ret (.s (.c (.f (.slice m.next (.l 0) (.o n) (.full 2))))) (m.new (.pop (cs.extract off (off + n * 2))) 89))) := by
  refine Con.readN (ms := popM cs ty) (l' := [.s (.c (.f (.slice 0 (.o off) (.o n) .any)))]) E0_ok (by kernel_rfl : E0.fn 28 = some Tryd.f28) (by kernel_rfl : Tryd.f28.body = some (Tryd.f28.body.getD .skip)) rfl (fun _ => i) (fun j b hj => ?_) (fun R vs ha => ?_) rfl fun _ => ?_
  · obtain ⟨rfl, rfl⟩ := popM_get hj
    exact ⟨Nat.zero_lt_one, rfl, _, hb, rfl, fun R cs' h => h⟩
  · match vs, ha with
    | [x], ha =>
      obtain ⟨⟨gl, cp, e1, e2, e3, e4⟩, _⟩ := ha
      exact ⟨⟨gl, cp, by unfold pull; exact e1, e2, trivial, e4⟩, trivial⟩
  · refine (run_vc E0_ok 1000 (cl1 cs ty off n) ?_ (fun s m h => h) fun _ _ h => h.elim).mono fun s m h => cloR_made h
    refine ⟨⟨by simpa using hin, ⟨by omega, by omega⟩, trivial⟩, rfl, by omega, rfl, rfl⟩
end Go.Proofs.YtjjeahnbppmigaaDoor
/- Of tables: slices that are kept in cells; contracts of functions that answer with a row of their own within a struct. No condition. -/
namespace Go.Proofs.YtjjeahnbppmigaaDoor
set_option linter.unusedSectionVars false
variable [Gh]
set_option maxRecDepth 100000
set_option linter.unusedVariables false
omit [Gh] in
structure PrOk (cs : Array Value) (off n : Nat) : Prop where
  sz : off + n * 2 ≤ cs.size
  le : n ≤ 80
  a : ∀ i, i < n → IsInt .i64 cs (off + i * 2)
  b : ∀ i, i < n → IsInt .i64 cs (off + i * 2 + 1)
def SlQ (v : Value) (row : Array Value) : Prop :=
  (v = .slice none 0 0 ∧ row = #[]) ∨ ∃ b off n c, ∃ cs : List Value, v = .slice (some ⟨b, off, none⟩) n c ∧ GlP b cs ∧ PrOk cs.toArray off n ∧ 1 ≤ n ∧ n ≤ c ∧ row = cs.toArray.extract off (off + n * 2)
def SlV (v : Value) : Prop := ∃ row, SlQ v row
open Classical in
noncomputable def rowK (v : Value) : Array Value := if h : SlV v then h.choose else #[]
theorem rowK_ok {v : Value} (h : SlV v) : SlQ v (rowK v) := by unfold rowK; rw [dif_pos h]; exact h.choose_spec
omit [Gh] in
def nV (v : Value) : Nat := match v with
  | .slice _ n _ => n
  | _ => 0
omit [Gh] in
theorem pr_ext {cs : Array Value} {off n : Nat} (h : PrOk cs off n) : PrOk (cs.extract off (off + n * 2)) 0 n := by
  have hs := h.sz
  have e : ∀ k, k < n * 2 → (cs.extract off (off + n * 2))[0 + k]? = cs[off + k]? := fun k hk => by rw [Nat.zero_add]; exact ext_get hs (by omega)
  have i : ∀ k, k < n * 2 → IsInt .i64 cs (off + k) → IsInt .i64 (cs.extract off (off + n * 2)) (0 + k) := fun k hk hi => by
    unfold IsInt intAt at *
    rw [e k hk]; exact hi
  exact ⟨by rw [ext_size hs]; omega, h.le, fun k hk => i (k * 2) (by omega) (h.a k hk), fun k hk => i (k * 2 + 1) (by omega) (h.b k hk)⟩
omit [Gh] in
theorem pr_one {cs : Array Value} {off n : Nat} (h : PrOk cs off n) : ∀ v ∈ (cs.extract off (off + n * 2)).toList, v.oneCell' = true := by
  intro v hv
  obtain ⟨j, hj, rfl⟩ := List.getElem_of_mem hv
  have hs := h.sz
  have hl : j < n * 2 := by
    have hj' := hj
    rw [Array.length_toList, ext_size hs] at hj'
    omega
  have e : (cs.extract off (off + n * 2)).toList[j]? = cs[off + j]? := by rw [Array.getElem?_toList]; exact ext_get hs (by omega)
  rw [List.getElem?_eq_getElem hj] at e
  have one : ∀ p, IsInt .i64 cs p → cs[p]? = some ((cs.extract off (off + n * 2)).toList[j]) → ((cs.extract off (off + n * 2)).toList[j]).oneCell' = true := fun p hp he => by
    unfold IsInt at hp
    rw [hp] at he
    rw [← Option.some.inj he]; rfl
  rcases Nat.mod_two_eq_zero_or_one j with k | k
  · exact one (off + j / 2 * 2) (h.a _ (by omega)) (by rw [e]; congr 1; omega)
  · exact one (off + j / 2 * 2 + 1) (h.b _ (by omega)) (by rw [e]; congr 1; omega)
theorem SlQ.nil {v : Value} {row : Array Value} (h : SlQ v row) (hn : nV v = 0) : v = .slice none 0 0 := by
  rcases h with ⟨e, _⟩ | ⟨b, off, n, c, cs, rfl, _, _, h1, _⟩
  · exact e
  · exact absurd hn (by show n ≠ 0; omega)
theorem SlQ.pr {v : Value} {row : Array Value} (h : SlQ v row) : PrOk row 0 (nV v) ∧ row.size = nV v * 2 := by
  rcases h with ⟨rfl, rfl⟩ | ⟨b, off, n, c, cs, rfl, _, h1, h2, h3, rfl⟩
  · exact ⟨⟨Nat.le_refl _, by decide, fun i hi => absurd hi (Nat.not_lt_zero _), fun i hi => absurd hi (Nat.not_lt_zero _)⟩, rfl⟩
  · exact ⟨pr_ext h1, by rw [ext_size h1.sz]; show off + n * 2 - off = n * 2; omega⟩
/-! Structs with one slice. -/
omit [Gh] in
theorem sc_any {d : SC} (h : SC.lt 0 d = true) {R R' : Ren} {v : Value} (hv : d.ok R v) : d.ok R' v := ok_any (s := .s (.c d)) (R := R) (R' := R') h hv
omit [Gh] in
theorem all2_mid {R R' : Ren} {c c' : SC} (hc : ∀ v, c.ok R v → c'.ok R' v) {y : List SC} (hy : allB (SC.lt 0) y = true) : ∀ {x : List SC} {vs : List Value}, allB (SC.lt 0) x = true → All2 (SC.ok R) (x ++ c :: y) vs → All2 (SC.ok R') (x ++ c' :: y) vs := by
  have all : ∀ {z : List SC} {vs : List Value}, allB (SC.lt 0) z = true → All2 (SC.ok R) z vs → All2 (SC.ok R') z vs := by
    intro z
    induction z with
    | nil => intro vs _ h; cases vs with | nil => trivial | cons _ _ => exact h.elim
    | cons d z ih =>
      intro vs hz h
      rw [allB_cons, Bool.and_eq_true] at hz
      match vs, h with
      | v :: vs, h => exact ⟨sc_any hz.1 h.1, ih hz.2 h.2⟩
  intro x
  induction x with
  | nil =>
    intro vs _ h
    match vs, h with
    | v :: vs, h => exact ⟨hc v h.1, all hy h.2⟩
  | cons d x ih =>
    intro vs hx h
    rw [allB_cons, Bool.and_eq_true] at hx
    match vs, h with
    | v :: vs, h => exact ⟨sc_any hx.1 h.1, ih hx.2 h.2⟩
omit [Gh] in
def slC (id n : Nat) : SC := .f (.slice id (.l 0) (.o n) (.full 2))
omit [Gh] in
theorem slC_move {R R' : Ren} {id id' n : Nat} {g : Loc} (h : R id = some g) (h' : R' id' = some g) {v : Value} (hv : (slC id n).ok R v) : (slC id' n).ok R' v := by
  obtain ⟨g', c, e1, e2, e3, e4⟩ := hv
  rw [h] at e1
  cases e1
  exact ⟨g, c, h', e2, e3, e4⟩
omit [Gh] in
def Moves (S : Nat → SV) : Prop := ∀ (R R' : Ren) (id id' : Nat) (x : Loc) (v : Value), R id = some x → R' id' = some x → (S id).ok R v → (S id').ok R' v
theorem Con.seeS [Gh] {E : Env} (hE : EnvOk E) {g : FuncId} {fn : Func} {c : Code} {l l' : List SV} {m m0 : SMem} {ms : TypeId → SMem} {q : List Prop} {S : Nat → SV} {a : SA} {ty : TypeId} {k0 : Nat} (h1 : E.fn g = some fn) (h2 : fn.body = some c)
    (hl : (∀ p ∈ q, p) → Looks l l' m ms) (ha : freeA a = true) (hS : Moves S) (hb0 : getB m0.bl k0 = some ⟨a, ty, true⟩) (good : (∀ p ∈ q, p) → ∀ t, Good E.P (fun s m' => s = S k0 ∧ m' = m0) (ms t).next [callFr g fn.ntmps l' c] (ms t)) :
    Con E g l m (needs q (.ret (S m.next) (m.new a ty))) := by
  intro B hB
  obtain ⟨hq, hA⟩ := Tree.sat_needs hB
  refine ⟨fn, h1, by rw [h2]; rfl, fun n0 F w0 w R args hal hR => ?_⟩
  obtain ⟨t, Rs, k1, k2⟩ := hl hq n0 F w0 w R _ hR hal
  refine (answers_of_good (hE.fns _ _ h1).1 h2 (good hq t) k1 k2).mono ?_
  rintro v w' ⟨s, m', R', ⟨rfl, rfl⟩, hX, hR', hv⟩
  obtain ⟨gl, cs, fz, e1, e2, e3, e4, e5⟩ := hR'.blk k0 _ hb0
  obtain ⟨e6, ez⟩ := e5 rfl
  have e7 : w.heap.size ≤ gl.b := e6.resolve_right fun x => x
  obtain ⟨R2, k1, k2, k3⟩ := hR.grow hR'.fr.to e7 (hR'.lt k0 gl e1) e2 e3 (free_ok (R' := R) ha e4) ez
  exact ⟨_, _, R2, hA, k1, k3, hS _ _ _ _ _ _ e1 k2 hv⟩
theorem Looks.flat [Gh] {l l' : List SV} {m : SMem} (h : ∀ R vs, All2 (SV.ok R) l vs → All2 (SV.ok (fun _ => none)) l' vs) : Looks l l' m (fun _ => ⟨0, .nil, []⟩) := by
  intro n0 F w0 w R vs hR hv
  exact ⟨0, _, h R vs hv, hR.none⟩
theorem Looks.row [Gh] {l l' : List SV} {m : SMem} {i : Nat} {cs : Array Value} {ty : TypeId} {wr : Bool} (hb : getB m.bl i = some ⟨.pop cs, ty, wr⟩) (h : ∀ (R R' : Ren) vs, (∀ g, R i = some g → R' 0 = some g) → All2 (SV.ok R) l vs → All2 (SV.ok R') l' vs) : Looks l l' m (fun _ => popM cs ty) := by
  intro n0 F w0 w R vs hR hv
  refine ⟨0, pull (fun _ => i) 1 R, h R _ vs (fun g e => by unfold pull; rw [if_pos Nat.zero_lt_one]; exact e) hv, rel_ro (ms := popM cs ty) rfl (fun j b hj => ?_) hR⟩
  obtain ⟨rfl, rfl⟩ := popM_get hj
  exact ⟨Nat.zero_lt_one, rfl, _, hb, rfl, fun R cs' h => h⟩
theorem Looks.known [Gh] {l l' : List SV} {m : SMem} {b : Nat} {cs : List Value} (hg : GlP b cs) (h : ∀ (R R' : Ren) vs, R' 0 = some ⟨b, cs.length⟩ → All2 (SV.ok R) l vs → All2 (SV.ok R') l' vs) : Looks l l' m (seeM cs) := by
  intro n0 F w0 w R vs hR hv
  obtain ⟨ty, hS⟩ := hR.see1 hg
  exact ⟨ty, _, h R _ vs rfl hv, hS⟩
/-! Clone. -/
omit [Gh] in
def nilS : SV := .s (.c (.f (.lit (.slice none 0 0))))
omit [Gh] in
def rowS (n id : Nat) : SV := .s (.c (slC id n))
noncomputable def cloV (v : Value) (m : SMem) : Tree := .need [SlV v] (.br (decide (nV v = 0)) (.ret nilS m) (.ret (rowS (nV v) m.next) (m.new (.pop (rowK v)) 89)))
end Go.Proofs.YtjjeahnbppmigaaDoor
/- Of extents: Clone of nil. -/
namespace Go.Proofs.YtjjeahnbppmigaaDoor
set_option maxRecDepth 100000
theorem cl2 (x : Nat) : (run E0 1000 0 [callFr 28 Tryd.f28.ntmps [nilS] (Tryd.f28.body.getD .skip)] e0M).vc (retOk 0 [] nilS e0M) (fun _ _ => False) =
    (Value.slice none (0 : Nat) (0 : Nat) = Value.slice none (0 : Nat) (0 : Nat) ∧ True) := by kernel_rfl
end Go.Proofs.YtjjeahnbppmigaaDoor
/- Of tables: Clone: its contracts. No condition. -/
namespace Go.Proofs.YtjjeahnbppmigaaDoor
set_option linter.unusedSectionVars false
variable [Gh]
set_option maxRecDepth 100000
set_option linter.unusedVariables false
theorem clone_nil (m : SMem) : Con E0 28 [nilS] m (.ret nilS m) := by
  have h : Con E0 28 [nilS] m (needs [] (.ret nilS m)) := Con.pure E0_ok (by kernel_rfl : E0.fn 28 = some Tryd.f28) (by kernel_rfl : Tryd.f28.body = some (Tryd.f28.body.getD .skip)) (by kernel_rfl) (by kernel_rfl) fun hq =>
    (Good.ret [] (run_vc E0_ok 1000 (cl2 0) (by repeat' first | exact trivial | exact rfl | apply And.intro) (fun s m h => h) fun _ _ h => h.elim)).mono fun _ _ h => h.1
  intro A hA
  exact h A hA
theorem clone_val (v : Value) (m : SMem) : Con E0 28 [.s (.c (.f (.opq v)))] m (cloV v m) := by
  refine Con.asked fun hq => ?_
  have hv := rowK_ok (hq _ (List.mem_singleton.2 rfl) : SlV v)
  refine Con.two (fun h => ?_) (fun h => ?_)
  · have e := hv.nil (of_decide_eq_true h)
    refine Con.args (l' := [nilS]) (fun R vs ha => ?_) (clone_nil m)
    match vs, ha with
    | [u], ha =>
      rw [e] at ha
      exact ⟨ha.1, trivial⟩
  · have hn := of_decide_eq_false h
    rcases hv with ⟨rfl, _⟩ | ⟨b, off, n, c, cs, rfl, h1, h3, h4, h5, h6⟩
    · exact absurd rfl hn
    · intro A hA
      refine clone_opq h1 h5 (by simpa using h3.sz) (pr_one h3) (by have := h3.le; omega) A ?_
      rw [← h6]
      exact hA
theorem clone_named {m : SMem} {i : Nat} {off n : SN} {cap : SK} {cs : Array Value} {ty : TypeId} {wr : Bool} (hb : getB m.bl i = some ⟨.pop cs, ty, wr⟩) : Con E0 28 [.s (.c (.f (.slice i off n cap)))] m (.need [PrOk cs off.den n.den] (.ret (rowS n.den m.next) (m.new (.pop (cs.extract off.den (off.den + n.den * 2))) 89))) := by
  refine Con.asked fun hq => ?_
  have hp := (hq _ (List.mem_singleton.2 rfl) : PrOk cs off.den n.den)
  refine Con.args (l' := [.s (.c (.f (.slice i (.o off.den) (.o n.den) cap)))]) (fun R vs ha => ?_) ?_
  · match vs, ha with
    | [u], ha => exact ⟨ha.1, trivial⟩
  · intro A hA
    exact clone_row hb hp.sz (by have := hp.le; omega) A hA
end Go.Proofs.YtjjeahnbppmigaaDoor
/- Of runs: contracts of the functions of numbers. No condition. -/
namespace Go.Proofs.YtjjeahnbppmigaaDoor
set_option linter.unusedSectionVars false
variable [Gh]
section
variable (p n : Int)
omit [Gh] in
def mayB : Bool := decide (1 ≤ n ∧ 0 ≤ p ∧ p < 64 ∧ n ≤ 64 - p)
omit [Gh] in
theorem may_run (b : Bool) : (run E0 1000 0 [callFr 50 Tryd.f50.ntmps [i64 (.o p), i64 (.o n)] (Tryd.f50.body.getD .skip)] ⟨0, .nil, []⟩).vc (retOk 0 [] (sB (.o b)) ⟨0, .nil, []⟩) (fun _ _ => False) =
    (((decide (n ≥ 1) == true) = true →
        ((decide (p ≥ 0) == true) = true →
            ((decide (p < 64) == true) = true → b = decide (n ≤ IntKind.i64.wrap (64 - p)) ∧ True) ∧
              ((decide (p < 64) == true) = false → b = false ∧ True)) ∧
          ((decide (p ≥ 0) == true) = false → b = false ∧ True)) ∧
      ((decide (n ≥ 1) == true) = false → b = false ∧ True)) := by kernel_rfl
omit [Gh] in
theorem may_fn : E0.fn 50 = some Tryd.f50 := by kernel_rfl
omit [Gh] in
theorem may_body : Tryd.f50.body = some (Tryd.f50.body.getD .skip) := by kernel_rfl
theorem may_con (m : SMem) : Con E0 50 [i64 (.o p), i64 (.o n)] m (needs [] (.ret (sB (.o (mayB p n))) m)) := by
  refine Con.pure E0_ok may_fn may_body (by kernel_rfl) (by kernel_rfl) fun _ => ?_
  have hw : 0 ≤ p → p < 64 → IntKind.i64.wrap (64 - p) = 64 - p := fun h1 h2 => by
    exact Go.IntWalk.i64_in _ (by omega)
  refine (Good.ret [] (run_vc E0_ok 1000 (may_run p n (mayB p n)) ?_ (fun s m h => h) fun _ _ h => h.elim)).mono fun _ _ h => h.1
  unfold mayB
  by_cases h1 : n ≥ 1 <;> by_cases h2 : p ≥ 0 <;> by_cases h3 : p < 64 <;> simp [h1, h2, h3] <;> first | (rw [hw h2 h3]; omega) | omega | skip
omit [Gh] in
def spanI : Int := IntKind.u64.wrap (Int.fdiv 18446744073709551615 (2 ^ min (IntKind.i64.wrap (64 - n)).toNat 64) * 2 ^ min p.toNat 64)
omit [Gh] in
theorem span_run (x : Int) : (run E0 1000 0 [callFr 53 Tryd.f53.ntmps [i64 (.o p), i64 (.o n)] (Tryd.f53.body.getD .skip)] ⟨0, .nil, []⟩).vc (retOk 0 [] (.s (.c (.f (.int .u64 (.o x))))) ⟨0, .nil, []⟩) (fun _ _ => False) =
    ((0 ≤ IntKind.i64.wrap (64 - n) ∧ True) ∧ (0 ≤ p ∧ True) ∧ x = spanI p n ∧ True) := by kernel_rfl
omit [Gh] in
theorem span_fn : E0.fn 53 = some Tryd.f53 := by kernel_rfl
omit [Gh] in
theorem span_body : Tryd.f53.body = some (Tryd.f53.body.getD .skip) := by kernel_rfl
theorem span_con (m : SMem) : Con E0 53 [i64 (.o p), i64 (.o n)] m (needs [0 ≤ IntKind.i64.wrap (64 - n), 0 ≤ p] (.ret (.s (.c (.f (.int .u64 (.o (spanI p n)))))) m)) := by
  refine Con.pure E0_ok span_fn span_body (by kernel_rfl) (by kernel_rfl) fun hq => ?_
  refine (Good.ret [] (run_vc E0_ok 1000 (span_run p n (spanI p n)) ?_ (fun s m h => h) fun _ _ h => h.elim)).mono fun _ _ h => h.1
  exact ⟨⟨hq _ (by simp), trivial⟩, ⟨hq _ (by simp), trivial⟩, rfl, trivial⟩
end
end Go.Proofs.YtjjeahnbppmigaaDoor
/- Of runs: the functions of math/bits, as propositions. No condition. -/
namespace Go.Proofs.YtjjeahnbppmigaaDoor
set_option maxRecDepth 100000
theorem tz_run (p x : Int) : (run E0 1000 0 [callFr 57 Tryd.f57.ntmps [.s (.c (.f (.int .u64 (.o p))))] (Tryd.f57.body.getD .skip)] ⟨0, .nil, []⟩).vc (retOk 0 [] (i64 (.o x)) ⟨0, .nil, []⟩) (fun _ _ => False) =
    (((p == (0 : Int)) = true → x = (64 : Int) ∧ True) ∧ ((p == (0 : Int)) = false → (((0 : Int) ≤ ari BinOp.shr IntKind.u64 (ari BinOp.mul IntKind.u64 (ari BinOp.and IntKind.u64 p (ari BinOp.sub IntKind.u64 (0 : Int) p)) (285870213051353865 : Int)) (58 : Int) ∧ ari BinOp.shr IntKind.u64 (ari BinOp.mul IntKind.u64 (ari BinOp.and IntKind.u64 p (ari BinOp.sub IntKind.u64 (0 : Int) p)) (285870213051353865 : Int)) (58 : Int) < (64 : Int)) ∧ True) ∧ (IsInt IntKind.u8 #[Value.int IntKind.u8 (0 : Int), Value.int IntKind.u8 (1 : Int), Value.int IntKind.u8 (56 : Int), Value.int IntKind.u8 (2 : Int), Value.int IntKind.u8 (57 : Int), Value.int IntKind.u8 (49 : Int), Value.int IntKind.u8 (28 : Int), Value.int IntKind.u8 (3 : Int), Value.int IntKind.u8 (61 : Int), Value.int IntKind.u8 (58 : Int), Value.int IntKind.u8 (42 : Int), Value.int IntKind.u8 (50 : Int), Value.int IntKind.u8 (38 : Int), Value.int IntKind.u8 (29 : Int), Value.int IntKind.u8 (17 : Int), Value.int IntKind.u8 (4 : Int), Value.int IntKind.u8 (62 : Int), Value.int IntKind.u8 (47 : Int), Value.int IntKind.u8 (59 : Int), Value.int IntKind.u8 (36 : Int), Value.int IntKind.u8 (45 : Int), Value.int IntKind.u8 (43 : Int), Value.int IntKind.u8 (51 : Int), Value.int IntKind.u8 (22 : Int), Value.int IntKind.u8 (53 : Int), Value.int IntKind.u8 (39 : Int), Value.int IntKind.u8 (33 : Int), Value.int IntKind.u8 (30 : Int), Value.int IntKind.u8 (24 : Int), Value.int IntKind.u8 (18 : Int), Value.int IntKind.u8 (12 : Int), Value.int IntKind.u8 (5 : Int), Value.int IntKind.u8 (63 : Int), Value.int IntKind.u8 (55 : Int), Value.int IntKind.u8 (48 : Int), Value.int IntKind.u8 (27 : Int), Value.int IntKind.u8 (60 : Int), Value.int IntKind.u8 (41 : Int), Value.int IntKind.u8 (37 : Int), Value.int IntKind.u8 (16 : Int), Value.int IntKind.u8 (46 : Int), Value.int IntKind.u8 (35 : Int), Value.int IntKind.u8 (44 : Int), Value.int IntKind.u8 (21 : Int), Value.int IntKind.u8 (52 : Int), Value.int IntKind.u8 (32 : Int), Value.int IntKind.u8 (23 : Int), Value.int IntKind.u8 (11 : Int), Value.int IntKind.u8 (54 : Int), Value.int IntKind.u8 (26 : Int), Value.int IntKind.u8 (40 : Int), Value.int IntKind.u8 (15 : Int), Value.int IntKind.u8 (34 : Int), Value.int IntKind.u8 (20 : Int), Value.int IntKind.u8 (31 : Int), Value.int IntKind.u8 (10 : Int), Value.int IntKind.u8 (25 : Int), Value.int IntKind.u8 (14 : Int), Value.int IntKind.u8 (19 : Int), Value.int IntKind.u8 (9 : Int), Value.int IntKind.u8 (13 : Int), Value.int IntKind.u8 (8 : Int), Value.int IntKind.u8 (7 : Int), Value.int IntKind.u8 (6 : Int)] ((0 : Nat) + Int.toNat (ari BinOp.shr IntKind.u64 (ari BinOp.mul IntKind.u64 (ari BinOp.and IntKind.u64 p (ari BinOp.sub IntKind.u64 (0 : Int) p)) (285870213051353865 : Int)) (58 : Int)) * 1) ∧ True) ∧ x = IntKind.wrap IntKind.i64 (intAt #[Value.int IntKind.u8 (0 : Int), Value.int IntKind.u8 (1 : Int), Value.int IntKind.u8 (56 : Int), Value.int IntKind.u8 (2 : Int), Value.int IntKind.u8 (57 : Int), Value.int IntKind.u8 (49 : Int), Value.int IntKind.u8 (28 : Int), Value.int IntKind.u8 (3 : Int), Value.int IntKind.u8 (61 : Int), Value.int IntKind.u8 (58 : Int), Value.int IntKind.u8 (42 : Int), Value.int IntKind.u8 (50 : Int), Value.int IntKind.u8 (38 : Int), Value.int IntKind.u8 (29 : Int), Value.int IntKind.u8 (17 : Int), Value.int IntKind.u8 (4 : Int), Value.int IntKind.u8 (62 : Int), Value.int IntKind.u8 (47 : Int), Value.int IntKind.u8 (59 : Int), Value.int IntKind.u8 (36 : Int), Value.int IntKind.u8 (45 : Int), Value.int IntKind.u8 (43 : Int), Value.int IntKind.u8 (51 : Int), Value.int IntKind.u8 (22 : Int), Value.int IntKind.u8 (53 : Int), Value.int IntKind.u8 (39 : Int), Value.int IntKind.u8 (33 : Int), Value.int IntKind.u8 (30 : Int), Value.int IntKind.u8 (24 : Int), Value.int IntKind.u8 (18 : Int), Value.int IntKind.u8 (12 : Int), Value.int IntKind.u8 (5 : Int), Value.int IntKind.u8 (63 : Int), Value.int IntKind.u8 (55 : Int), Value.int IntKind.u8 (48 : Int), Value.int IntKind.u8 (27 : Int), Value.int IntKind.u8 (60 : Int), Value.int IntKind.u8 (41 : Int), Value.int IntKind.u8 (37 : Int), Value.int IntKind.u8 (16 : Int), Value.int IntKind.u8 (46 : Int), Value.int IntKind.u8 (35 : Int), Value.int IntKind.u8 (44 : Int), Value.int IntKind.u8 (21 : Int), Value.int IntKind.u8 (52 : Int), Value.int IntKind.u8 (32 : Int), Value.int IntKind.u8 (23 : Int), Value.int IntKind.u8 (11 : Int), Value.int IntKind.u8 (54 : Int), Value.int IntKind.u8 (26 : Int), Value.int IntKind.u8 (40 : Int), Value.int IntKind.u8 (15 : Int), Value.int IntKind.u8 (34 : Int), Value.int IntKind.u8 (20 : Int), Value.int IntKind.u8 (31 : Int), Value.int IntKind.u8 (10 : Int), Value.int IntKind.u8 (25 : Int), Value.int IntKind.u8 (14 : Int), Value.int IntKind.u8 (19 : Int), Value.int IntKind.u8 (9 : Int), Value.int IntKind.u8 (13 : Int), Value.int IntKind.u8 (8 : Int), Value.int IntKind.u8 (7 : Int), Value.int IntKind.u8 (6 : Int)] ((0 : Nat) + Int.toNat (ari BinOp.shr IntKind.u64 (ari BinOp.mul IntKind.u64 (ari BinOp.and IntKind.u64 p (ari BinOp.sub IntKind.u64 (0 : Int) p)) (285870213051353865 : Int)) (58 : Int)) * 1)) ∧ True)) := by kernel_rfl
end Go.Proofs.YtjjeahnbppmigaaDoor
/- Numbers of 64 bits: what the operations of whole numbers make of them. No condition. -/
namespace Go.Proofs.YtjjeahnbppmigaaDoor
def uw (X : BitVec 64) : Int := (X.toNat : Int)
theorem wrap_u64 (n : Int) : IntKind.u64.wrap n = n % 18446744073709551616 := rfl
theorem uw_range (X : BitVec 64) : 0 ≤ uw X ∧ uw X < 18446744073709551616 := by
  have := X.isLt
  unfold uw
  omega
theorem ofInt_uw (X : BitVec 64) : BitVec.ofInt 64 (uw X) = X := by
  unfold uw
  rw [BitVec.ofInt_natCast, BitVec.ofNat_toNat, BitVec.setWidth_eq]
theorem wrap_uw (X : BitVec 64) : IntKind.u64.wrap (uw X) = uw X := by
  rw [wrap_u64]
  have := uw_range X
  omega
theorem wrap_toNat (X : BitVec 64) : IntKind.u64.wrap (X.toNat : Int) = uw X := wrap_uw X
theorem wrap_ofInt (n : Int) : IntKind.u64.wrap n = uw (BitVec.ofInt 64 n) := by
  unfold uw
  rw [wrap_u64, BitVec.toNat_ofInt]
  have : 0 ≤ n % (2 ^ 64 : Nat) := Int.emod_nonneg _ (by decide)
  rw [Int.toNat_of_nonneg this]
  rfl
theorem uw_inj {X Y : BitVec 64} : uw X = uw Y ↔ X = Y := by
  unfold uw
  constructor
  · intro h
    exact BitVec.eq_of_toNat_eq (by omega)
  · intro h; rw [h]
theorem uw_and (X Y : BitVec 64) : IntKind.u64.wrap ((BitVec.ofInt 64 (uw X) &&& BitVec.ofInt 64 (uw Y)).toNat : Int) = uw (X &&& Y) := by rw [ofInt_uw, ofInt_uw, wrap_toNat]
theorem uw_or (X Y : BitVec 64) : IntKind.u64.wrap ((BitVec.ofInt 64 (uw X) ||| BitVec.ofInt 64 (uw Y)).toNat : Int) = uw (X ||| Y) := by rw [ofInt_uw, ofInt_uw, wrap_toNat]
theorem uw_andNot (X Y : BitVec 64) : IntKind.u64.wrap ((BitVec.ofInt 64 (uw X) &&& ~~~ BitVec.ofInt 64 (uw Y)).toNat : Int) = uw (X &&& ~~~ Y) := by rw [ofInt_uw, ofInt_uw, wrap_toNat]
theorem uw_not (X : BitVec 64) : IntKind.u64.wrap ((BitVec.ofInt 64 18446744073709551615 ^^^ BitVec.ofInt 64 (uw X)).toNat : Int) = uw (~~~ X) := by
  rw [ofInt_uw, wrap_toNat]
  have : BitVec.ofInt 64 18446744073709551615 = BitVec.allOnes 64 := by decide
  rw [this, BitVec.allOnes_xor]
theorem uw_mul (X Y : BitVec 64) : IntKind.u64.wrap (uw X * uw Y) = uw (X * Y) := by
  unfold uw
  rw [wrap_u64, BitVec.toNat_mul]
  omega
theorem uw_neg (X : BitVec 64) : IntKind.u64.wrap (0 - uw X) = uw (- X) := by
  have h := X.isLt
  unfold uw
  rw [wrap_u64, BitVec.toNat_neg]
  omega
theorem uw_shl (X : BitVec 64) (p : Nat) : IntKind.u64.wrap (uw X * 2 ^ min p 64) = uw (X <<< p) := by
  unfold uw
  rw [wrap_u64, BitVec.toNat_shiftLeft, Nat.shiftLeft_eq]
  by_cases h : p ≤ 64
  · rw [Nat.min_eq_left h]
    rw [Int.natCast_emod, Int.natCast_mul, Int.natCast_pow]
    rfl
  · rw [Nat.min_eq_right (by omega)]
    have e : 2 ^ p = 2 ^ 64 * 2 ^ (p - 64) := by rw [← Nat.pow_add]; congr 1; omega
    rw [e, ← Nat.mul_assoc, Nat.mul_comm X.toNat, Nat.mul_assoc, Nat.mul_mod_right]
    have : ((2 : Int) ^ 64) = 18446744073709551616 := by decide
    rw [this]
    simp
theorem uw_shr (X : BitVec 64) (p : Nat) : Int.fdiv (uw X) (2 ^ min p 64) = uw (X >>> p) := by
  unfold uw
  rw [BitVec.toNat_ushiftRight, Nat.shiftRight_eq_div_pow]
  have e2 : ∀ k : Nat, ((2 : Int) ^ k) = ((2 ^ k : Nat) : Int) := fun k => by rw [Int.natCast_pow]; rfl
  rw [e2, Int.fdiv_eq_ediv_of_nonneg _ (Int.natCast_nonneg _), ← Int.natCast_ediv]
  by_cases h : p ≤ 64
  · rw [Nat.min_eq_left h]
  · rw [Nat.min_eq_right (by omega)]
    have h1 : X.toNat / 2 ^ 64 = 0 := Nat.div_eq_of_lt X.isLt
    have h2 : X.toNat / 2 ^ p = 0 := Nat.div_eq_of_lt (Nat.lt_of_lt_of_le X.isLt (Nat.pow_le_pow_right (by decide) (by omega)))
    rw [h1, h2]
theorem uw_zero_iff (X : BitVec 64) : (uw X == 0) = decide (X = 0#64) := by
  have : (uw X = 0) ↔ X = 0#64 := by rw [← uw_inj]; rfl
  rw [Bool.eq_iff_iff, beq_iff_eq, decide_eq_true_eq, this]
theorem uw_lit (n : Nat) (h : n < 18446744073709551616) : (n : Int) = uw (BitVec.ofNat 64 n) := by
  unfold uw
  rw [BitVec.toNat_ofNat]
  omega
end Go.Proofs.YtjjeahnbppmigaaDoor
/- The lowest bit of a word, as math/bits finds it. No condition. -/
namespace Go.Proofs.YtjjeahnbppmigaaDoor
def tz (X : BitVec 64) : Nat := X.ctz.toNat
theorem tz_zero : tz 0#64 = 64 := by decide +kernel
theorem tz_lt {X : BitVec 64} (h : X ≠ 0#64) : tz X < 64 := by
  rcases Nat.lt_or_ge (tz X) 64 with h1 | h1
  · exact h1
  · have : X.getLsbD (tz X) = true := BitVec.getLsbD_true_ctz_of_ne_zero h
    rw [BitVec.getLsbD_of_ge _ _ h1] at this
    cases this
theorem tz_le (X : BitVec 64) : tz X ≤ 64 := by
  by_cases h : X = 0#64
  · subst h; rw [tz_zero]; exact Nat.le_refl _
  · exact Nat.le_of_lt (tz_lt h)
theorem tz_bit {X : BitVec 64} (h : X ≠ 0#64) : X.getLsbD (tz X) = true := BitVec.getLsbD_true_ctz_of_ne_zero h
theorem tz_below {X : BitVec 64} {i : Nat} (h : i < tz X) : X.getLsbD i = false := BitVec.getLsbD_false_of_lt_ctz h
theorem tz_unique {X : BitVec 64} {k : Nat} (h1 : X.getLsbD k = true) (h2 : ∀ i, i < k → X.getLsbD i = false) : tz X = k := by
  have hne : X ≠ 0#64 := by
    intro h; subst h; simp at h1
  rcases Nat.lt_trichotomy (tz X) k with h | h | h
  · have := h2 _ h
    rw [tz_bit hne] at this
    cases this
  · exact h
  · have := tz_below h
    rw [h1] at this
    cases this
theorem low_bit {X : BitVec 64} (h : X ≠ 0#64) : X &&& (-X) = BitVec.twoPow 64 (tz X) := by
  have h0 : X.toNat ≠ 0 := fun e => h (BitVec.eq_of_toNat_eq (by simpa using e))
  obtain ⟨h1, h2⟩ := Go.Lib.lowest_bit 64 X.toNat h0 X.isLt
  have e : X &&& (-X) = BitVec.twoPow 64 (Go.Lib.ctz 64 X.toNat) := by
    apply BitVec.eq_of_toNat_eq
    have e1 : (-X).toNat = 2 ^ 64 - X.toNat := by
      rw [BitVec.toNat_neg, Nat.mod_eq_of_lt]
      have := X.isLt
      omega
    rw [BitVec.toNat_and, e1, h1, BitVec.toNat_twoPow, Nat.mod_eq_of_lt]
    exact Nat.pow_lt_pow_right (by decide) h2
  have key : ∀ i, (X &&& (-X)).getLsbD i = decide (i = Go.Lib.ctz 64 X.toNat) := by
    intro i
    rw [e, BitVec.getLsbD_twoPow]
    by_cases hi : i = Go.Lib.ctz 64 X.toNat
    · subst hi; simp [h2]
    · have : ¬ Go.Lib.ctz 64 X.toNat = i := fun x => hi x.symm
      simp [hi, this]
  obtain ⟨m, hm, _⟩ := Go.Lib.ctzFrom_spec 64 X.toNat (by omega) X.isLt
  have hc : Go.Lib.ctz 64 X.toNat = Go.Lib.ctzFrom 64 X.toNat := by simp [Go.Lib.ctz, h0]
  rw [e]
  congr 1
  refine (tz_unique ?_ fun i hi => ?_).symm
  · have := key (Go.Lib.ctz 64 X.toNat)
    rw [BitVec.getLsbD_and] at this
    simp at this
    exact this.1
  · unfold BitVec.getLsbD
    rw [hc] at hi
    rw [hm, Nat.mul_comm, Nat.testBit_mul_two_pow]
    simp
    omega
def deB : List Nat := Go.Lib.deBruijn64tab
theorem deB_at (k : Nat) (h : k < 64) : ((BitVec.twoPow 64 k * 285870213051353865#64) >>> 58).toNat < 64 ∧ deB.getD ((BitVec.twoPow 64 k * 285870213051353865#64) >>> 58).toNat 0 = k := by
  have := Go.Lib.deBruijn64_at k h
  have e : ((BitVec.twoPow 64 k * 285870213051353865#64) >>> 58).toNat = 2 ^ k * 285870213051353865 % 18446744073709551616 / 288230376151711744 := by
    rw [BitVec.toNat_ushiftRight, BitVec.toNat_mul, BitVec.toNat_twoPow, Nat.shiftRight_eq_div_pow, Nat.mod_eq_of_lt (Nat.pow_lt_pow_right (by decide) h)]
    rfl
  rw [e]
  exact this
theorem tz_at {X : BitVec 64} (h : X ≠ 0#64) : (((X &&& (-X)) * 285870213051353865#64) >>> 58).toNat < 64 ∧ deB.getD (((X &&& (-X)) * 285870213051353865#64) >>> 58).toNat 0 = tz X := by
  rw [low_bit h]
  exact deB_at _ (tz_lt h)
end Go.Proofs.YtjjeahnbppmigaaDoor
/- Operations of words, as the conditions name them. No condition. -/
namespace Go.Proofs.YtjjeahnbppmigaaDoor
theorem ari_uw_and (X Y : BitVec 64) : ari .and .u64 (uw X) (uw Y) = uw (X &&& Y) := uw_and X Y
theorem ari_uw_or (X Y : BitVec 64) : ari .or .u64 (uw X) (uw Y) = uw (X ||| Y) := uw_or X Y
theorem ari_uw_andNot (X Y : BitVec 64) : ari .andNot .u64 (uw X) (uw Y) = uw (X &&& ~~~ Y) := uw_andNot X Y
theorem ari_uw_mul (X Y : BitVec 64) : ari .mul .u64 (uw X) (uw Y) = uw (X * Y) := uw_mul X Y
theorem ari_uw_neg (X : BitVec 64) : ari .sub .u64 0 (uw X) = uw (- X) := uw_neg X
theorem ari_uw_not (X : BitVec 64) : ari .xor .u64 18446744073709551615 (uw X) = uw (~~~ X) := uw_not X
theorem ari_uw_add (X Y : BitVec 64) : ari .add .u64 (uw X) (uw Y) = uw (X + Y) := by
  rw [ari_add, wrap_u64]
  unfold uw
  rw [BitVec.toNat_add]
  omega
theorem ari_uw_shl (X : BitVec 64) (p : Int) : ari .shl .u64 (uw X) p = uw (X <<< p.toNat) := uw_shl X p.toNat
theorem ari_uw_shr (X : BitVec 64) (p : Int) : ari .shr .u64 (uw X) p = uw (X >>> p.toNat) := uw_shr X p.toNat
theorem uw_toNat (X : BitVec 64) : (uw X).toNat = X.toNat := Int.toNat_natCast _
def tabL : List Value := (glTab.headD (0, [])).2
def tabOk (i : Nat) : Bool := match tabL[i]? with | some (.int .u8 n) => n == (deB.getD i 0 : Nat) | _ => false
theorem tab_all : ∀ i : Fin 64, tabOk i.val = true := by decide +kernel
theorem tab_at {i : Nat} (h : i < 64) : IsInt .u8 tabL.toArray i ∧ intAt tabL.toArray i = (deB.getD i 0 : Nat) := by
  have := tab_all ⟨i, h⟩
  unfold tabOk at this
  dsimp only at this
  split at this
  · rename_i n hn
    have e : intAt tabL.toArray i = n := by
      unfold intAt
      rw [List.getElem?_toArray, hn]
    have hn' : n = (deB.getD i 0 : Nat) := by simpa using this
    refine ⟨?_, e.trans hn'⟩
    unfold IsInt
    rw [e, List.getElem?_toArray, hn]
  · cases this
end Go.Proofs.YtjjeahnbppmigaaDoor
/- Of runs: the lowest bit: its contract. No condition. -/
namespace Go.Proofs.YtjjeahnbppmigaaDoor
set_option linter.unusedSectionVars false
variable [Gh]
omit [Gh] in
def u64S (p : Int) : SV := .s (.c (.f (.int .u64 (.o p))))
omit [Gh] in
theorem tz_fn : E0.fn 57 = some Tryd.f57 := by kernel_rfl
omit [Gh] in
theorem tz_body : Tryd.f57.body = some (Tryd.f57.body.getD .skip) := by kernel_rfl
omit [Gh] in
def tzI (p : Int) : Int := (tz (BitVec.ofInt 64 p) : Nat)
omit [Gh] in
theorem tzI_uw (X : BitVec 64) : tzI (uw X) = (tz X : Nat) := by unfold tzI; rw [ofInt_uw]
theorem tz_good (X : BitVec 64) : Good Tryd.prog (retOk 0 [] (i64 (.o (tzI (uw X)))) ⟨0, .nil, []⟩) 0 [callFr 57 Tryd.f57.ntmps [u64S (uw X)] (Tryd.f57.body.getD .skip)] ⟨0, .nil, []⟩ := by
  refine run_vc E0_ok 1000 (tz_run (uw X) (tzI (uw X))) ?_ (fun s m h => h) fun _ _ h => h.elim
  rw [tzI_uw]
  refine ⟨fun h => ⟨?_, trivial⟩, fun h => ?_⟩
  · rw [uw_zero_iff, decide_eq_true_eq] at h
    rw [h, tz_zero]
    rfl
  · rw [uw_zero_iff, decide_eq_false_iff_not] at h
    obtain ⟨h1, h2⟩ := tz_at h
    have ec : (285870213051353865 : Int) = uw 285870213051353865#64 := rfl
    have e58 : (58 : Int).toNat = 58 := rfl
    rw [ari_uw_neg, ari_uw_and, ec, ari_uw_mul, ari_uw_shr, e58]
    generalize hY : (((X &&& (-X)) * 285870213051353865#64) >>> 58) = Y at h1 h2
    have hr := uw_range Y
    obtain ⟨k1, k2⟩ := tab_at h1
    have hlt : Y.toNat < 64 := h1
    have e0 : 0 + (uw Y).toNat * 1 = Y.toNat := by rw [uw_toNat]; omega
    rw [e0]
    refine ⟨⟨⟨hr.1, ?_⟩, trivial⟩, ⟨k1, trivial⟩, ?_, trivial⟩
    · unfold uw; omega
    · refine Eq.trans ?_ (congrArg (IntKind.wrap .i64) k2).symm
      rw [h2]
      have := tz_le X
      exact (Go.IntWalk.i64_in _ (by omega)).symm
theorem tz_con (p : Int) (m : SMem) : Con E0 57 [u64S p] m (needs [uw (BitVec.ofInt 64 p) = p] (.ret (i64 (.o (tzI p))) m)) := by
  refine Con.pure E0_ok tz_fn tz_body (by kernel_rfl) (by kernel_rfl) fun hq => ?_
  have hp : uw (BitVec.ofInt 64 p) = p := hq _ (by simp)
  have := tz_good (BitVec.ofInt 64 p)
  rw [hp] at this
  exact (Good.ret [] this).mono fun _ _ h => h.1
end Go.Proofs.YtjjeahnbppmigaaDoor
/- Of runs: Of, as a proposition. No condition. -/
namespace Go.Proofs.YtjjeahnbppmigaaDoor
set_option maxRecDepth 100000
theorem of_run (p x : Int) : (run E0 1000 0 [callFr 45 Tryd.f45.ntmps [i64 (.o p)] (Tryd.f45.body.getD .skip)] ⟨0, .nil, []⟩).vc (retOk 0 [] (.s (.agg (.ls [.f (.int .u64 (.o x))]))) ⟨0, .nil, []⟩) (fun _ _ => False) =
    ((((if (64 : Int) < if (0 : Int) > p then (0 : Int) else p then (64 : Int) else if (0 : Int) > p then (0 : Int) else p) == (0 : Int)) = true → x = (0 : Int) ∧ True) ∧ (((if (64 : Int) < if (0 : Int) > p then (0 : Int) else p then (64 : Int) else if (0 : Int) > p then (0 : Int) else p) == (0 : Int)) = false → ((0 : Int) ≤ ari BinOp.sub IntKind.i64 (64 : Int) (if (64 : Int) < if (0 : Int) > p then (0 : Int) else p then (64 : Int) else if (0 : Int) > p then (0 : Int) else p) ∧ True) ∧ x = ari BinOp.shr IntKind.u64 (18446744073709551615 : Int) (ari BinOp.sub IntKind.i64 (64 : Int) (if (64 : Int) < if (0 : Int) > p then (0 : Int) else p then (64 : Int) else if (0 : Int) > p then (0 : Int) else p)) ∧ True)) := by kernel_rfl
end Go.Proofs.YtjjeahnbppmigaaDoor
/- Of runs: contracts: Of. No condition. -/
namespace Go.Proofs.YtjjeahnbppmigaaDoor
set_option linter.unusedSectionVars false
variable [Gh]
omit [Gh] in
def lowW (k : Nat) : BitVec 64 := BitVec.allOnes 64 >>> (64 - k)
omit [Gh] in
theorem lowW_bit (k i : Nat) (hk : k ≤ 64) : (lowW k).getLsbD i = decide (i < k) := by
  unfold lowW
  rw [BitVec.getLsbD_ushiftRight, BitVec.getLsbD_allOnes]
  by_cases h : i < k
  · rw [decide_eq_true h, decide_eq_true (by omega)]
  · rw [decide_eq_false h, decide_eq_false (by omega)]
omit [Gh] in
def clampN (p : Int) : Nat := if p < 0 then 0 else if 64 < p then 64 else p.toNat
theorem of_con (p : Int) (m : SMem) : Con E0 45 [i64 (.o p)] m (needs [] (.ret (.s (.agg (.ls [.f (.int .u64 (.o (uw (lowW (clampN p)))))]))) m)) := by
  refine Con.pure E0_ok (by kernel_rfl : E0.fn 45 = some Tryd.f45) (by kernel_rfl : Tryd.f45.body = some (Tryd.f45.body.getD .skip)) (by kernel_rfl) (by kernel_rfl) fun _ => ?_
  refine (Good.ret [] (run_vc E0_ok 1000 (of_run p (uw (lowW (clampN p)))) ?_ (fun s m h => h) fun _ _ h => h.elim)).mono fun _ _ h => h.1
  have hc : (if (64 : Int) < if (0 : Int) > p then (0 : Int) else p then (64 : Int) else if (0 : Int) > p then (0 : Int) else p) = (clampN p : Nat) := by
    unfold clampN
    split <;> split <;> first | omega | (split <;> omega)
  have hk : clampN p ≤ 64 := by unfold clampN; split <;> first | omega | (split <;> omega)
  rw [hc]
  have e64 : ari .sub .i64 64 (clampN p : Nat) = (64 - clampN p : Nat) := by
    rw [ari_sub]
    have := Go.IntWalk.i64_in (64 - (clampN p : Nat) : Int) (by omega)
    rw [this]
    omega
  rw [e64]
  have eA : (18446744073709551615 : Int) = uw (BitVec.allOnes 64) := rfl
  refine ⟨fun h => ?_, fun h => ⟨⟨by omega, trivial⟩, ?_, trivial⟩⟩
  · have h0 : clampN p = 0 := by
      have := eq_of_beq h
      omega
    rw [h0]
    exact ⟨rfl, trivial⟩
  · rw [eA, ari_uw_shr, Int.toNat_natCast]
    rfl
end Go.Proofs.YtjjeahnbppmigaaDoor
/- Of runs: the environment of its functions. No condition. -/
namespace Go.Proofs.YtjjeahnbppmigaaDoor
set_option linter.unusedSectionVars false
variable [Gh]
omit [Gh] in
def conC (g : FuncId) (l : List SV) (m : SMem) : Option Tree :=
  match g, l with
  | 50, [.s (.c (.f (.int .i64 (.o p)))), .s (.c (.f (.int .i64 (.o n))))] => some (.ret (sB (.o (mayB p n))) m)
  | 53, [.s (.c (.f (.int .i64 (.o p)))), .s (.c (.f (.int .i64 (.o n))))] => some (.need [0 ≤ IntKind.i64.wrap (64 - n), 0 ≤ p] (.ret (.s (.c (.f (.int .u64 (.o (spanI p n)))))) m))
  | 57, [.s (.c (.f (.int .u64 (.o p))))] => some (.need [uw (BitVec.ofInt 64 p) = p] (.ret (i64 (.o (tzI p))) m))
  | _, _ => none
theorem conC_ok : ∀ g l m t, conC g l m = some t → Con E0 g l m t := by
  intro g l m t h
  unfold conC at h
  split at h
  · cases h; exact may_con _ _ m
  · cases h; exact span_con _ _ m
  · cases h; exact tz_con _ m
  · cases h
omit [Gh] in
noncomputable def EC : Env := ⟨Tryd.prog, fnOf, conC, fun _ f x => Nat.beq f 56 && isLoop x⟩
theorem EC_ok : EnvOk EC := EnvOk.with E0_ok _ _ conC_ok
end Go.Proofs.YtjjeahnbppmigaaDoor
/- Of runs: the loop of each below Give, Take, Find and All: its states. No condition. -/
namespace Go.Proofs.YtjjeahnbppmigaaDoor
noncomputable section
def setTop (d : Nat) (v : SV) : List SFr → List SFr
  | ⟨fn, tm, td, dfs, md, kind, rnd⟩ :: cs => ⟨fn, tm.set d (some v), td, dfs, md, kind, rnd⟩ :: cs
  | [] => []
def tdAt (k : Nat) (l : List SFr) : List SIt := match nth l k with
  | some f => f.todo
  | none => []
def loopAt (k : Nat) (m : SMem) : Option LoopP := match nth m.xs k with
  | some ⟨_, .loop st pe fn _ ps ag bd _⟩ => some ⟨st, pe, fn, ps, ag, bd⟩
  | _ => none
def getLp (o : Option LoopP) : LoopP := match o with
  | some l => l
  | none => ⟨.ready, none, 0, #[], .skip, .skip⟩
def setIs (x : Int) : SV := .s (.agg (.ls [.f (.int .u64 (.o x))]))
def topInt (d : Nat) : List SFr → Option Int
  | f :: _ => svInt (f.tm.get d)
  | [] => none
def opR (c : List SFr) : Tree := run EC 1000 0 c ⟨0, .nil, []⟩
def opF (c : List SFr) (left : Int) : List SFr := setTop 3 (u64S left) ((opR c).fsE.map SFr.bare)
def opM (c : List SFr) : SMem := (opR c).memE.bare
def opH (c : List SFr) (left : Int) : List SFr := headF (opF c left)
def opS (c : List SFr) (left : Int) : Tree := stepT EC.go (run EC 1000) 0 (opH c left) (opM c)
def opN0 (c : List SFr) (Q : Int → Prop) (fs : List SFr) (m : SMem) : Prop :=
  match topInt 3 fs with
  | some left => Q left ∧ subOk 0 (idπ (opM c).next) (opF c left) (opM c) fs m
  | none => False
def opN (c : List SFr) (Q : Int → Prop) (fs : List SFr) (m : SMem) : Prop :=
  match topInt 3 fs with
  | some left => Q left ∧ subOk 0 (idπ (opM c).next) (opH c left) (opM c) fs m
  | none => False
def takeC (x p n : Int) : List SFr := [callFr 46 Tryd.f46.ntmps [setIs x, i64 (.o p), i64 (.o n)] (Tryd.f46.body.getD .skip)]
def takeT0 : List SIt := tdAt 0 (opF (takeC 0 0 0) 0)
def takeH0 : List SIt := tdAt 0 (opH (takeC 0 0 0) 0)
def takeT1 : List SIt := tdAt 1 (opF (takeC 0 0 0) 0)
def takeH1 : List SIt := tdAt 1 (opH (takeC 0 0 0) 0)
def takeT2 : List SIt := tdAt 2 (opF (takeC 0 0 0) 0)
def takeH2 : List SIt := tdAt 2 (opH (takeC 0 0 0) 0)
def takeLp : LoopP := getLp (loopAt 0 (opM (takeC 0 0 0)))
def setB (x : Int) (b : Bool) : SV := .tup [.agg (.ls [.f (.int .u64 (.o x))]), .c (.f (.bool (.o b)))]
def intB (x : Int) (b : Bool) : SV := .tup [.c (.f (.int .i64 (.o x))), .c (.f (.bool (.o b)))]
def opA (v : SV) : SV → SMem → Prop := retOk 0 [] v ⟨0, .nil, []⟩
end
end Go.Proofs.YtjjeahnbppmigaaDoor
/- Of runs: the loop of each below Take, as propositions. No condition. -/
namespace Go.Proofs.YtjjeahnbppmigaaDoor
set_option maxRecDepth 100000
theorem take_start (x p n y : Int) (b : Bool) (Q : Int → Prop) : (opR (takeC x p n)).vc (opA (setB y b)) (opN0 (takeC x p n) Q) =
    (((!mayB p n) = true → y = x ∧ b = false ∧ True) ∧ ((!mayB p n) = false → Q x ∧ CallKind.normal = CallKind.normal ∧ TodoOk (ren 0 [(0, 0), (1, 1), (2, 2), (3, 3), (4, 4), (5, 5), (6, 6), (7, 7), (8, 8), (9, 9)]) takeT0 takeT0 ∧ x = x ∧ x = x ∧ CallKind.normal = CallKind.normal ∧ TodoOk (ren 0 [(0, 0), (1, 1), (2, 2), (3, 3), (4, 4), (5, 5), (6, 6), (7, 7), (8, 8), (9, 9)]) takeT1 takeT1 ∧ x = x ∧ Fn.func (52 : Nat) = Fn.func (52 : Nat) ∧ Fn.func (56 : Nat) = Fn.func (56 : Nat) ∧ x = x ∧ CallKind.normal = CallKind.normal ∧ TodoOk (ren 0 [(0, 0), (1, 1), (2, 2), (3, 3), (4, 4), (5, 5), (6, 6), (7, 7), (8, 8), (9, 9)]) takeT2 takeT2 ∧ x = x ∧ p = p ∧ Fn.func (52 : Nat) = Fn.func (52 : Nat) ∧ mayB p n = mayB p n ∧ p = p ∧ n = n ∧ n = n ∧ x = x ∧ (112 : Nat) = (112 : Nat) ∧ x = x ∧ (3 : Nat) = (3 : Nat) ∧ p = p ∧ (112 : Nat) = (112 : Nat) ∧ (112 : Nat) = (112 : Nat) ∧ x = x ∧ (122 : Nat) = (122 : Nat) ∧ Fn.func (52 : Nat) = Fn.func (52 : Nat) ∧ (3 : Nat) = (3 : Nat) ∧ n = n ∧ (112 : Nat) = (112 : Nat) ∧ x = x ∧ (89 : Nat) = (89 : Nat) ∧ EqL takeLp takeLp ∧ x = x ∧ Fn.func (52 : Nat) = Fn.func (52 : Nat) ∧ Fn.func (56 : Nat) = Fn.func (56 : Nat) ∧ x = x ∧ True)) := by kernel_rfl
theorem take_step (x p n left y : Int) (b : Bool) (Q : Int → Prop) : (opS (takeC x p n) left).vc (opA (setB y b)) (opN (takeC x p n) Q) =
    (((left != (0 : Int)) = true → (uw (BitVec.ofInt (64 : Nat) left) = left ∧ True) ∧ ((0 : Int) ≤ tzI left ∧ True) ∧ (uw (BitVec.ofInt (64 : Nat) (ari BinOp.xor IntKind.u64 (18446744073709551615 : Int) (ari BinOp.shr IntKind.u64 left (tzI left)))) = ari BinOp.xor IntKind.u64 (18446744073709551615 : Int) (ari BinOp.shr IntKind.u64 left (tzI left)) ∧ True) ∧ ((decide (tzI left ≤ p) == true) = true → (decide (ari BinOp.add IntKind.i64 p n ≤ ari BinOp.add IntKind.i64 (tzI left) (tzI (ari BinOp.xor IntKind.u64 (18446744073709551615 : Int) (ari BinOp.shr IntKind.u64 left (tzI left))))) = true → ((tzI left == (0 : Int) && tzI (ari BinOp.xor IntKind.u64 (18446744073709551615 : Int) (ari BinOp.shr IntKind.u64 left (tzI left))) == (0 : Int)) = true → y = x ∧ b = false ∧ True) ∧ ((tzI left == (0 : Int) && tzI (ari BinOp.xor IntKind.u64 (18446744073709551615 : Int) (ari BinOp.shr IntKind.u64 left (tzI left))) == (0 : Int)) = false → ((0 : Int) ≤ IntKind.wrap IntKind.i64 ((64 : Int) - n) ∧ (0 : Int) ≤ p ∧ True) ∧ y = ari BinOp.andNot IntKind.u64 x (spanI p n) ∧ b = true ∧ True)) ∧ (decide (ari BinOp.add IntKind.i64 p n ≤ ari BinOp.add IntKind.i64 (tzI left) (tzI (ari BinOp.xor IntKind.u64 (18446744073709551615 : Int) (ari BinOp.shr IntKind.u64 left (tzI left))))) = false → ((0 : Int) ≤ IntKind.wrap IntKind.i64 ((64 : Int) - tzI (ari BinOp.xor IntKind.u64 (18446744073709551615 : Int) (ari BinOp.shr IntKind.u64 left (tzI left)))) ∧ (0 : Int) ≤ tzI left ∧ True) ∧ Q (ari BinOp.andNot IntKind.u64 left (spanI (tzI left) (tzI (ari BinOp.xor IntKind.u64 (18446744073709551615 : Int) (ari BinOp.shr IntKind.u64 left (tzI left)))))) ∧ CallKind.normal = CallKind.normal ∧ TodoOk (ren 0 [(0, 0), (1, 1), (2, 2), (3, 3), (4, 4), (5, 5), (6, 6), (7, 7), (8, 8), (9, 9)]) takeH0 takeH0 ∧ ari BinOp.andNot IntKind.u64 left (spanI (tzI left) (tzI (ari BinOp.xor IntKind.u64 (18446744073709551615 : Int) (ari BinOp.shr IntKind.u64 left (tzI left))))) = ari BinOp.andNot IntKind.u64 left (spanI (tzI left) (tzI (ari BinOp.xor IntKind.u64 (18446744073709551615 : Int) (ari BinOp.shr IntKind.u64 left (tzI left))))) ∧ x = x ∧ CallKind.normal = CallKind.normal ∧ TodoOk (ren 0 [(0, 0), (1, 1), (2, 2), (3, 3), (4, 4), (5, 5), (6, 6), (7, 7), (8, 8), (9, 9)]) takeH1 takeH1 ∧ x = x ∧ Fn.func (52 : Nat) = Fn.func (52 : Nat) ∧ Fn.func (56 : Nat) = Fn.func (56 : Nat) ∧ x = x ∧ CallKind.normal = CallKind.normal ∧ TodoOk (ren 0 [(0, 0), (1, 1), (2, 2), (3, 3), (4, 4), (5, 5), (6, 6), (7, 7), (8, 8), (9, 9)]) takeH2 takeH2 ∧ x = x ∧ p = p ∧ Fn.func (52 : Nat) = Fn.func (52 : Nat) ∧ mayB p n = mayB p n ∧ p = p ∧ n = n ∧ n = n ∧ x = x ∧ (112 : Nat) = (112 : Nat) ∧ x = x ∧ (3 : Nat) = (3 : Nat) ∧ p = p ∧ (112 : Nat) = (112 : Nat) ∧ (112 : Nat) = (112 : Nat) ∧ x = x ∧ (122 : Nat) = (122 : Nat) ∧ Fn.func (52 : Nat) = Fn.func (52 : Nat) ∧ (3 : Nat) = (3 : Nat) ∧ n = n ∧ (112 : Nat) = (112 : Nat) ∧ x = x ∧ (89 : Nat) = (89 : Nat) ∧ EqL takeLp takeLp ∧ x = x ∧ Fn.func (52 : Nat) = Fn.func (52 : Nat) ∧ Fn.func (56 : Nat) = Fn.func (56 : Nat) ∧ x = x ∧ True)) ∧ ((decide (tzI left ≤ p) == true) = false → ((0 : Int) ≤ IntKind.wrap IntKind.i64 ((64 : Int) - tzI (ari BinOp.xor IntKind.u64 (18446744073709551615 : Int) (ari BinOp.shr IntKind.u64 left (tzI left)))) ∧ (0 : Int) ≤ tzI left ∧ True) ∧ Q (ari BinOp.andNot IntKind.u64 left (spanI (tzI left) (tzI (ari BinOp.xor IntKind.u64 (18446744073709551615 : Int) (ari BinOp.shr IntKind.u64 left (tzI left)))))) ∧ CallKind.normal = CallKind.normal ∧ TodoOk (ren 0 [(0, 0), (1, 1), (2, 2), (3, 3), (4, 4), (5, 5), (6, 6), (7, 7), (8, 8), (9, 9)]) takeH0 takeH0 ∧ ari BinOp.andNot IntKind.u64 left (spanI (tzI left) (tzI (ari BinOp.xor IntKind.u64 (18446744073709551615 : Int) (ari BinOp.shr IntKind.u64 left (tzI left))))) = ari BinOp.andNot IntKind.u64 left (spanI (tzI left) (tzI (ari BinOp.xor IntKind.u64 (18446744073709551615 : Int) (ari BinOp.shr IntKind.u64 left (tzI left))))) ∧ x = x ∧ CallKind.normal = CallKind.normal ∧ TodoOk (ren 0 [(0, 0), (1, 1), (2, 2), (3, 3), (4, 4), (5, 5), (6, 6), (7, 7), (8, 8), (9, 9)]) takeH1 takeH1 ∧ x = x ∧ Fn.func (52 : Nat) = Fn.func (52 : Nat) ∧ Fn.func (56 : Nat) = Fn.func (56 : Nat) ∧ x = x ∧ CallKind.normal = CallKind.normal ∧ TodoOk (ren 0 [(0, 0), (1, 1), (2, 2), (3, 3), (4, 4), (5, 5), (6, 6), (7, 7), (8, 8), (9, 9)]) takeH2 takeH2 ∧ x = x ∧ p = p ∧ Fn.func (52 : Nat) = Fn.func (52 : Nat) ∧ mayB p n = mayB p n ∧ p = p ∧ n = n ∧ n = n ∧ x = x ∧ (112 : Nat) = (112 : Nat) ∧ x = x ∧ (3 : Nat) = (3 : Nat) ∧ p = p ∧ (112 : Nat) = (112 : Nat) ∧ (112 : Nat) = (112 : Nat) ∧ x = x ∧ (122 : Nat) = (122 : Nat) ∧ Fn.func (52 : Nat) = Fn.func (52 : Nat) ∧ (3 : Nat) = (3 : Nat) ∧ n = n ∧ (112 : Nat) = (112 : Nat) ∧ x = x ∧ (89 : Nat) = (89 : Nat) ∧ EqL takeLp takeLp ∧ x = x ∧ Fn.func (52 : Nat) = Fn.func (52 : Nat) ∧ Fn.func (56 : Nat) = Fn.func (56 : Nat) ∧ x = x ∧ True)) ∧ ((left != (0 : Int)) = false → y = x ∧ b = false ∧ True)) := by kernel_rfl
end Go.Proofs.YtjjeahnbppmigaaDoor
/- Runs of a word's bits, one behind the other. No condition. -/
namespace Go.Proofs.YtjjeahnbppmigaaDoor
def spanW (a n : Nat) : BitVec 64 := (BitVec.allOnes 64 >>> (64 - n)) <<< a
theorem spanW_bit (a n i : Nat) (h : a + n ≤ 64) : (spanW a n).getLsbD i = decide (a ≤ i ∧ i < a + n) := by
  unfold spanW
  rw [BitVec.getLsbD_shiftLeft, BitVec.getLsbD_ushiftRight, BitVec.getLsbD_allOnes]
  by_cases h1 : a ≤ i <;> by_cases h2 : i < a + n
  · rw [decide_eq_true (show a ≤ i ∧ i < a + n from ⟨h1, h2⟩), decide_eq_true (show i < 64 by omega), decide_eq_false (show ¬ i < a by omega), decide_eq_true (show 64 - n + (i - a) < 64 by omega)]
    rfl
  · rw [decide_eq_false (show ¬ (a ≤ i ∧ i < a + n) from fun x => h2 x.2), decide_eq_false (show ¬ 64 - n + (i - a) < 64 by omega)]
    simp
  · rw [decide_eq_false (show ¬ (a ≤ i ∧ i < a + n) from fun x => h1 x.1), decide_eq_true (show i < a by omega)]
    simp
  · rw [decide_eq_false (show ¬ (a ≤ i ∧ i < a + n) from fun x => h1 x.1), decide_eq_true (show i < a by omega)]
    simp
theorem spanI_uw (p n : Int) (hp : 0 ≤ p) (hn : 0 ≤ n) (h : p + n ≤ 64) : spanI p n = uw (spanW p.toNat n.toNat) := by
  have h1 : IntKind.i64.wrap (64 - n) = 64 - n := Go.IntWalk.i64_in _ (by omega)
  have eA : (18446744073709551615 : Int) = uw (BitVec.allOnes 64) := rfl
  unfold spanI
  rw [h1, eA, uw_shr, uw_shl]
  unfold spanW
  congr 3
  omega
def tzn (L : BitVec 64) : Nat := tz (~~~ (L >>> tz L))
def nextW (L : BitVec 64) : BitVec 64 := L &&& ~~~ spanW (tz L) (tzn L)
theorem nbit (L : BitVec 64) (i : Nat) : (~~~ (L >>> tz L)).getLsbD i = (decide (i < 64) && !L.getLsbD (tz L + i)) := by
  rw [BitVec.getLsbD_not, BitVec.getLsbD_ushiftRight]
theorem nne {L : BitVec 64} (h : L ≠ 0#64) (h1 : tzn L = 64) : tz L = 0 ∧ ∀ i, i < 64 → L.getLsbD i = true := by
  have hz := tz_lt h
  have hb : ∀ i, i < 64 → L.getLsbD (tz L + i) = true := by
    intro i hi
    have := tz_below (X := ~~~ (L >>> tz L)) (i := i) (by show i < tzn L; omega)
    rw [nbit, decide_eq_true hi] at this
    simpa using this
  have h0 : tz L = 0 := by
    rcases Nat.eq_zero_or_pos (tz L) with h | h
    · exact h
    · have := hb (64 - tz L) (by omega)
      rw [BitVec.getLsbD_of_ge _ _ (by omega)] at this
      cases this
  refine ⟨h0, fun i hi => ?_⟩
  have := hb i hi
  rwa [h0, Nat.zero_add] at this
theorem low_run {L : BitVec 64} (h : L ≠ 0#64) : 1 ≤ tzn L ∧ tz L + tzn L ≤ 64 ∧ (∀ i, i < tz L → L.getLsbD i = false) ∧ (∀ i, tz L ≤ i → i < tz L + tzn L → L.getLsbD i = true) ∧ L.getLsbD (tz L + tzn L) = false := by
  have hz := tz_lt h
  have hk : tzn L ≤ 64 := tz_le _
  have hone : ∀ i, i < tzn L → L.getLsbD (tz L + i) = true := by
    intro i hi
    have := tz_below (X := ~~~ (L >>> tz L)) (i := i) hi
    rw [nbit, decide_eq_true (show i < 64 by omega)] at this
    simpa using this
  refine ⟨?_, ?_, fun i hi => tz_below hi, fun i h1 h2 => ?_, ?_⟩
  · rcases Nat.eq_zero_or_pos (tzn L) with h0 | h0
    · have hne : ~~~ (L >>> tz L) ≠ 0#64 := by
        intro e
        have : tzn L = 64 := by unfold tzn; rw [e, tz_zero]
        omega
      have := tz_bit hne
      rw [show tz (~~~ (L >>> tz L)) = 0 from h0, nbit] at this
      rw [Nat.add_zero, tz_bit h] at this
      simp at this
    · exact h0
  · rcases Nat.lt_or_ge 64 (tz L + tzn L) with h1 | h1
    · have := hone (64 - tz L) (by omega)
      rw [BitVec.getLsbD_of_ge _ _ (by omega)] at this
      cases this
    · exact h1
  · have := hone (i - tz L) (by omega)
    rwa [show tz L + (i - tz L) = i by omega] at this
  · by_cases hne : ~~~ (L >>> tz L) = 0#64
    · have : tzn L = 64 := by unfold tzn; rw [hne, tz_zero]
      exact BitVec.getLsbD_of_ge _ _ (by omega)
    · have := tz_bit hne
      rw [nbit] at this
      simp at this
      exact this.2
theorem nextW_bit {L : BitVec 64} (h : L ≠ 0#64) (i : Nat) : (nextW L).getLsbD i = (decide (tz L + tzn L ≤ i) && L.getLsbD i) := by
  obtain ⟨h1, h2, h3, h4, h5⟩ := low_run h
  unfold nextW
  rw [BitVec.getLsbD_and, BitVec.getLsbD_not, spanW_bit _ _ _ h2]
  by_cases k1 : i < tz L
  · rw [h3 i k1]; simp
  · by_cases k2 : i < tz L + tzn L
    · rw [decide_eq_true (show tz L ≤ i ∧ i < tz L + tzn L by omega), decide_eq_false (show ¬ tz L + tzn L ≤ i by omega)]
      simp
    · rw [decide_eq_false (show ¬ (tz L ≤ i ∧ i < tz L + tzn L) by omega), decide_eq_true (show tz L + tzn L ≤ i by omega)]
      by_cases k3 : i < 64
      · rw [decide_eq_true k3]; simp
      · rw [BitVec.getLsbD_of_ge _ _ (by omega)]; simp
structure Part (X L : BitVec 64) (p : Nat) : Prop where
  le : p ≤ 64
  bits : ∀ i, L.getLsbD i = (decide (p ≤ i) && X.getLsbD i)
  at0 : p = 0 ∨ X.getLsbD p = false
theorem Part.start (X : BitVec 64) : Part X X 0 := ⟨Nat.zero_le _, fun i => by simp, .inl rfl⟩
structure NextRun (X : BitVec 64) (p a n : Nat) : Prop where
  pa : p ≤ a
  n1 : 1 ≤ n
  le : a + n ≤ 64
  gap : ∀ i, p ≤ i → i < a → X.getLsbD i = false
  all : ∀ i, a ≤ i → i < a + n → X.getLsbD i = true
  hi : X.getLsbD (a + n) = false
  lo : a = 0 ∨ X.getLsbD (a - 1) = false
theorem Part.next {X L : BitVec 64} {p : Nat} (hp : Part X L p) (h : L ≠ 0#64) : NextRun X p (tz L) (tzn L) ∧ Part X (nextW L) (tz L + tzn L) := by
  obtain ⟨h1, h2, h3, h4, h5⟩ := low_run h
  have hpa : p ≤ tz L := by
    have := hp.bits (tz L)
    rw [tz_bit h] at this
    simp at this
    exact this.1
  have hx : ∀ i, p ≤ i → X.getLsbD i = L.getLsbD i := fun i hi => by rw [hp.bits i, decide_eq_true hi, Bool.true_and]
  have hX5 : X.getLsbD (tz L + tzn L) = false := by rw [hx _ (by omega)]; exact h5
  refine ⟨⟨hpa, h1, h2, fun i k1 k2 => ?_, fun i k1 k2 => ?_, hX5, ?_⟩, ⟨h2, fun i => ?_, .inr hX5⟩⟩
  · rw [hx i k1]; exact h3 i k2
  · rw [hx i (by omega)]; exact h4 i k1 k2
  · rcases Nat.eq_zero_or_pos (tz L) with k | k
    · exact .inl k
    · refine .inr ?_
      by_cases k2 : p ≤ tz L - 1
      · rw [hx _ k2]; exact h3 _ (by omega)
      · have e : p = tz L := by omega
        rcases hp.at0 with k3 | k3
        · omega
        · have := hx p (Nat.le_refl _)
          rw [k3, e, tz_bit h] at this
          cases this
  · rw [nextW_bit h]
    by_cases k : tz L + tzn L ≤ i
    · rw [decide_eq_true k, hx i (by omega)]
    · rw [decide_eq_false k]; simp
theorem Part.done {X : BitVec 64} {p : Nat} (hp : Part X 0#64 p) (i : Nat) (h : p ≤ i) : X.getLsbD i = false := by
  have := hp.bits i
  rw [decide_eq_true h] at this
  simpa using this.symm
/-! As the program's operations make them. -/
theorem ari_n (L : BitVec 64) : ari .xor .u64 18446744073709551615 (ari .shr .u64 (uw L) (tz L : Nat)) = uw (~~~ (L >>> tz L)) := by
  rw [ari_uw_shr, ari_uw_not, Int.toNat_natCast]
theorem tzI_n (L : BitVec 64) : tzI (ari .xor .u64 18446744073709551615 (ari .shr .u64 (uw L) (tz L : Nat))) = (tzn L : Nat) := by
  rw [ari_n, tzI_uw]; rfl
theorem ari_next {L : BitVec 64} (h : L ≠ 0#64) : ari .andNot .u64 (uw L) (spanI (tz L : Nat) (tzn L : Nat)) = uw (nextW L) := by
  obtain ⟨h1, h2, _⟩ := low_run h
  rw [spanI_uw _ _ (by omega) (by omega) (by omega), ari_uw_andNot, Int.toNat_natCast, Int.toNat_natCast]
  rfl
end Go.Proofs.YtjjeahnbppmigaaDoor
