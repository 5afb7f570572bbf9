/- What a table of bytes that the program lays holds, for the symbolic machine; a call that is told of no block. No condition. -/
import Derived.Test.YtdopckcockgefaaDoorRows
import Derived.Test.YtdopckcockgefaaDoorE1
import Derived.ProofKit
import Derived.LaidMore
import Derived.OpenShut
import Derived.ChangeSame
import Derived.Deep.Slices
import Derived.Deep.Fields
import Derived.Stop.Joined
import Derived.Test.YtdopckcockgefaaDoorK15
import Derived.Test.YtdopckcockgefaaDoorK24
import Derived.IntWalk
import Derived.Test.YtdopckcockgefaaDoorK23
import Derived.Test.YtdopckcockgefaaDoorK14b
import Derived.Test.YtdopckcockgefaaDoorK27
import Derived.Test.YtdopckcockgefaaDoorK29
set_option linter.unusedVariables false
set_option linter.unusedSimpArgs false
namespace Go.Proofs.YtdopckcockgefaaDoor
open Go.ChangeShapes Go.WideShapes Go.ChangeAt Go.WideMaps Go.WideElems Go.RowKit
theorem own : ownKnob Tryd.prog.godebug = none := by kernel_rfl
theorem laidOut : laidOutB Tryd.prog = true := by kernel_rfl
theorem gTab : Tryd.prog.globalNamed "math/bits.deBruijn64tab" = some 0 := by kernel_rfl
theorem tTab : (Tryd.prog.globals[0]?).map (·.type) = some 159 := by kernel_rfl
def tabV : List Value := (glTab.headD (0, [])).2
def tabD {H : Type} : List (DataW H) := tabV.map fun | .int k n => .lit (.int k n) | _ => .nil
theorem tabD_eq {H : Type} : (Rows.laid_math_bits_deBruijn64tab : DataW H) = .agg tabD := rfl
theorem tab_byte : ∀ i : Nat, i < 64 → ∃ n, tabV[i]? = some (.int .u8 n) := by
 intro i hi
 have : ∀ i : Fin 64, (match tabV[i.val]? with | some (.int .u8 _) => true | _ => false) = true := by decide +kernel
 have := this ⟨i, hi⟩
 revert this
 generalize tabV[i]? = v
 intro h
 split at h
 ·rename_i n; exact ⟨n, rfl⟩
 ·cases h
def laidL : List (String × DataW Unit) := [("math/bits.deBruijn64tab", Rows.laid_math_bits_deBruijn64tab)]
theorem tab_lies {W : World} (h : laidMetH Tryd.prog laidL W) : ∃ cs ty fz, W.heap[0]? = some (.cells cs ty fz) ∧ cs.size = tabV.length ∧ ∀ i : Nat, i < tabV.length → cs[i]? = tabV[i]? := by
 rw [MakeChecks.laidMetH_plain _ _ _ (by kernel_rfl)] at h
 obtain ⟨ps, ⟨g0, t0, cs0, f0, p0, q0, hg0, ht0, hv0, hd0, _, _⟩, _, _⟩ := h
 obtain rfl := Option.some.inj (gTab.symm.trans hg0)
 obtain rfl := Option.some.inj (tTab.symm.trans ht0)
 have hv0' := hv0
 unfold World.var? at hv0
 rw [gTab] at hv0
 simp only [Option.bind_some] at hv0
 split at hv0
 ·rename_i cs ty fz hb
  cases hv0
  obtain ⟨xs, m1, rfl, hx1, hlen, hn3, hel⟩ := DataW.trod_array Tryd.underlying159 hd0
  have c5 : Tryd.prog.cellsOf 5 = 1 := by kernel_rfl
  have cT : Tryd.prog.cellsOf 159 = 64 := by kernel_rfl
  rw [cT] at hlen
  have hlen : cs0.size = 64 := by simpa using hlen
  simp only [Prod.mk.injEq, tabD_eq, DataW.agg.injEq] at hx1
  refine ⟨cs0, ty, fz, hb, hlen, ?_⟩
  intro i hi
  have hi : i < 64 := hi
  obtain ⟨n, hn⟩ := tab_byte i hi
  have h0 := hel i hi
  have hxi : xs[i]? = some (xs[i]'(by omega)) := List.getElem?_eq_getElem (by omega)
  rw [c5, Nat.mul_one, hxi] at h0
  have hci : cs0.toList[i]? = some (cs0[i]'(by omega)) := by rw [Array.getElem?_toList, Array.getElem?_eq_getElem (by omega)]
  have hdrop : (cs0.toList.drop i).take 1 = [cs0[i]'(by omega)] := by
   rw [List.drop_eq_getElem_cons (by rw [Array.length_toList]; omega)]
   simp
  rw [hdrop] at h0
  obtain ⟨k, e1, e2, _⟩ := DataW.trod_int Tryd.underlying5 h0
  have e3 : (xs.map (·.1))[i]? = (tabD : List (DataW Unit))[i]? := by rw [hx1.1]
  rw [List.getElem?_map, hxi] at e3
  unfold tabD at e3
  rw [List.getElem?_map, hn] at e3
  rw [e2] at e3
  simp only [Option.map_some, Option.some.injEq, DataW.lit.injEq, Lit.int.injEq] at e3
  simp only [List.cons.injEq, and_true] at e1
  rw [← Array.getElem?_toList, hci, e1, hn, e3.2]
 ·cases hv0
theorem tab_small {W : World} (h : laidMetH Tryd.prog laidL W) : 0 < W.heap.size := by
 obtain ⟨cs, ty, fz, hb, _⟩ := tab_lies h
 exact (Array.getElem?_eq_some_iff.1 hb).1
theorem rel_start {W : World} (h : laidMetH Tryd.prog laidL W) (n : Nat) : Rel W.heap.size (fun _ => False) W (fun _ => none) ⟨n, .nil, []⟩ W :=
 ⟨fun _ _ _ _ _ _ h => by (cases h), fun _ _ h => by (cases h), fun _ _ h => by (cases h), fun i b h => by (have h : (Tr.nil : Tr SBlk).get i = some b := h; rw [Tr.get_nil] at h; cases h), Nat.le_refl _, BelowF.refl _ _ _, fun _ _ h => by (cases h), fun _ _ _ _ _ _ h => by (cases h), fun g cs hg => by
  have e : (g, cs) = (0, tabV) := by
   have : glTab = [(0, tabV)] := rfl
   rw [this] at hg
   simpa using hg
  cases e
  obtain ⟨cs', ty, fz, h1, h2⟩ := tab_lies h
  exact ⟨tab_small h, fun x => x, cs', ty, fz, h1, h2⟩⟩
theorem below_of {n0 : Nat} {w0 w : World} (h : BelowF n0 (fun _ => False) w0 w) : Below n0 w0 w := ⟨h.os, h.tape, h.output, h.size, fun k hk => h.block k hk fun x => x⟩
section
variable {H : Type} {enc : TypeId × Value → H} {P : Program}
theorem post_of_below {f : Func} {s : ChangeSpec} {apart fresh handsOn again : Bool} {W W' : World} {args : Array Value} {v : Value} {ds gs : List (DataW H)} {before pa pv : List MemPlace}
  (hW : DataW.Whole enc P f.params.toList s.vars apart W args.toList ds gs before)
  (hres : ∀ (b : Nat) (sp : Nat → Bool) (hd : Bool), DataW.TrodAll enc P W' b sp hd f.resultTypes.toList (v.resultList f.resultTypes.size) (s.fn H (ds ++ gs)).results [])
  (hargs : ∀ sp : Nat → Bool, (∀ p ∈ before, sp p.block = true) → DataW.TrodAll enc P W' 0 sp true f.params.toList args.toList (s.fn H (ds ++ gs)).args pa)
  (hvars : ∀ sp : Nat → Bool, (∀ p ∈ before, sp p.block = true) → DataW.TrodVars enc P W' sp s.vars (s.fn H (ds ++ gs)).vars pv)
  (hps : before = pa ++ pv) (hb : Below W.heap.size W W')
  (hok : ∀ (j : Nat) (t : TypeId) (r : Value), f.resultTypes[j]? = some t → (v.resultList f.resultTypes.size)[j]? = some r → Value.okWide P W' .any 0 t r) :
  s.post enc P f apart fresh handsOn again W args v W' := by
 have hlt : ∀ p ∈ before, p.block < W.heap.size := fun p hp => hW.lt p hp
 have hold : ∀ p ∈ before, (fun b => decide (b < W.heap.size)) p.block = true := fun p hp => by simpa using hlt p hp
 refine ⟨ds, gs, before, [], pa, pv, hW, hres _ _ _, hargs _ hold, hvars _ hold, World.keptBut_mono (fun p hp => ⟨hp, ?_⟩) (hb.frame (· ∈ before)), fun _ => ?_⟩
 ·rw [hps, List.mem_append] at hp
  exact Or.inr hp
 ·obtain ⟨_, _, _, _, _, hz, hn⟩ := hW
  refine ⟨hok, _, _, ([] ++ pa) ++ pv, ⟨[] ++ pa, pv, trodAll_append (hargs _ (fun _ _ => rfl)) (hres _ _ _), hvars _ (fun _ _ => rfl), rfl, ?_, ?_⟩, ?_⟩
  ·intro b off hp
   have hin : MemPlace.cell b off ∈ before := by rw [hps]; simpa using hp
   rw [hb.frozen (hlt _ hin)]
   exact hz b off hin
  ·intro ha
   have := hn ha
   rw [hps] at this
   simpa using this
  ·intro p hp _
   rw [hps]
   simpa using hp
end
end Go.Proofs.YtdopckcockgefaaDoor
/- Blocks that came in, told to the symbolic machine one by one; slices that came in. No condition. -/
namespace Go.Proofs.YtdopckcockgefaaDoor
noncomputable section
open Go.ChangeShapes Go.WideShapes Go.ChangeAt Go.RowKit Go.Deep
theorem sub_get {l : List Value} {a b o : Nat} {v : Value} (h : ((l.drop a).take b)[o]? = some v) : l[a + o]? = some v := by
 rw [List.getElem?_take] at h
 split at h
 ·rw [List.getElem?_drop] at h; exact h
 ·cases h
theorem sub_one {l : List Value} {a b : Nat} {v : Value} (h : (l.drop a).take b = [v]) : l[a]? = some v := by
 have : ((l.drop a).take b)[0]? = some v := by rw [h]; rfl
 exact sub_get this
section
variable {H : Type} {enc : TypeId × Value → H} {P : Program} {w : World} {base : Nat} {spare : Nat → Bool} {held : Bool}
theorem field_of {t : TypeId} {fs : Array Field} {fuel : Nat} {cs : List Value} {x : DataW H × List MemPlace} (ht : P.underlying t = some (.struct fs)) (h : DataW.trod enc P w base spare held fuel t cs = some x)
  (i : Nat) {f : Field} (hf : fs[i]? = some f) : ∃ n y, DataW.trod enc P w base spare held n f.type ((cs.drop f.offset).take (P.cellsOf f.type)) = some y := by
 obtain ⟨ys, n, _, _, _, hyl, hg⟩ := DataW.trod_struct ht h
 have hlt : i < fs.size := (Array.getElem?_eq_some_iff.1 hf).1
 have hys : ys[i]? = some (ys[i]'(by omega)) := List.getElem?_eq_getElem (by omega)
 exact ⟨n, _, (hg i f hf).trans hys⟩
theorem add_none (b off n : Nat) : (⟨b, off, none⟩ : Addr).add n = ⟨b, off + n, none⟩ := by
 unfold Addr.add
 split
 ·rename_i e; subst e; rfl
 ·rfl
theorem slice_cells {t e : TypeId} {base' C : Nat} {fuel : Nat} {A : Option Addr} {len cap : Nat} {x : DataW H × List MemPlace} (ht : P.underlying t = some (.slice e)) (hC : P.cellsOf e = C)
  (hok : Value.okWide P w .any base t (.slice A len cap)) (h : DataW.trod enc P w base' (fun _ => true) held fuel t [.slice A len cap] = some x) :
  (A = none ∧ len = 0 ∧ cap = 0) ∨ ∃ b off cs ty fz, A = some ⟨b, off, none⟩ ∧ len ≤ cap ∧ cap ≤ maxLen ∧ w.heap[b]? = some (.cells cs ty fz) ∧
   ∀ j, j < len → ∃ n y, DataW.trod enc P w base' (fun _ => true) held n e ((cs.toList.drop (off + j * C)).take C) = some y := by
 rcases open_slice ht h with ⟨hcs, hx⟩ | ⟨a, len', cap', m, n, D, Pl, hcs, _, hl, hmx, hm, hx, hi⟩
 ·simp at hcs
  exact .inl hcs
 ·simp at hcs
  obtain ⟨rfl, rfl, rfl⟩ := hcs
  simp at hm
  subst hm
  obtain ⟨b, off, spot⟩ := a
  simp only [Value.okWide, ht, Cell.okWide, Cell.ok] at hok
  obtain ⟨_, _, _, hs, _, _, hsh, _⟩ := hok
  have hs : spot = none := hs
  subst hs
  cases ho : w.heap[b]? with
  | none => simp [World.shape?, ho] at hsh
  | some o =>
   have hcells : ∃ cs ty fz, o = .cells cs ty fz := by
    cases o <;> first | exact ⟨_, _, _, rfl⟩ | simp [World.shape?, ho] at hsh
   obtain ⟨cs, ty, fz, rfl⟩ := hcells
   refine .inr ⟨b, off, cs, ty, fz, rfl, hl, hmx, ho, fun j hj => ?_⟩
   obtain ⟨cs', hc, ht'⟩ := hi j (by omega)
   rw [hC] at hc
   obtain ⟨_, hcl, hat⟩ := World.cells?_some hc
   refine ⟨n, (D j, Pl j), ?_⟩
   rw [← ht']
   congr 1
   apply List.ext_getElem?
   intro i
   rw [List.getElem?_take]
   by_cases hi' : i < C
   ·rw [if_pos hi', ← hat i hi', add_none, add_none]
    simp [World.cell?, ho, Nat.add_assoc]
   ·rw [if_neg hi', List.getElem?_eq_none (by omega)]
end
def OnlyRead (m : SMem) : Prop := m.xs = [] ∧ ∀ i b, getB m.bl i = some b → b.wr = false
theorem rel_add {W : World} {R : Ren} {m : SMem} (hR : Rel W.heap.size (fun _ => False) W R m W) (ho : OnlyRead m) {i b : Nat} {cs : Array Value} {ty : TypeId} {fz : Nat × Nat} (hi : i < m.next) (hn : R i = none) (hb : W.heap[b]? = some (.cells cs ty fz)) :
  Rel W.heap.size (fun _ => False) W (fun j => if j = i then some ⟨b, cs.size⟩ else R j) ⟨m.next, m.bl.set i (some ⟨.raw cs, ty, false⟩), m.xs⟩ W ∧ OnlyRead ⟨m.next, m.bl.set i (some ⟨.raw cs, ty, false⟩), m.xs⟩ := by
 have ho' : OnlyRead ⟨m.next, m.bl.set i (some ⟨.raw cs, ty, false⟩), m.xs⟩ := by
  refine ⟨ho.1, fun j c hc => ?_⟩
  have hc : (m.bl.set i (some ⟨.raw cs, ty, false⟩)).get j = some c := hc
  rw [Tr.get_set] at hc
  split at hc
  ·cases hc; rfl
  ·exact ho.2 j c hc
 have hlt : b < W.heap.size := (Array.getElem?_eq_some_iff.1 hb).1
 refine ⟨⟨fun j k g h x y h1 h2 h3 h4 h5 h6 => ?_, fun j g h => ?_, fun j g h => ?_, fun j c hc => ?_, Nat.le_refl _, BelowF.refl _ _ _, fun j x hx => ?_, fun j k g h x y _ _ _ h4 => ?_, fun g cs hg => ?_⟩, ho'⟩
 ·have e1 := ho'.2 _ _ h4
  have e2 := ho'.2 _ _ h5
  rw [e1, e2] at h6
  rcases h6 with h6 | h6 <;> cases h6
 ·split at h
  ·cases h; exact hlt
  ·exact hR.lt j g h
 ·split at h
  ·rename_i e; rw [e]; exact hi
  ·exact hR.nx j g h
 ·have hc : (m.bl.set i (some ⟨.raw cs, ty, false⟩)).get j = some c := hc
  rw [Tr.get_set] at hc
  split at hc
  ·rename_i e
   cases hc
   exact ⟨⟨b, cs.size⟩, cs, fz, by simp [e], hb, rfl, rfl, fun h => by cases h⟩
  ·rename_i e
   obtain ⟨g, cs', fz', k1, k2, k3, k4, k5⟩ := hR.blk j c hc
   refine ⟨g, cs', fz', by simp [e, k1], k2, k3, SA.monoM (fun l g hl => ?_) k4, k5⟩
   by_cases el : l = i
   ·rw [el, hn] at hl; cases hl
   ·rw [if_neg el]; exact hl
 ·have hx : getX m.xs j = some x := hx
  rw [ho.1] at hx; cases hx
 ·have h4 : getX m.xs j = some x := h4
  rw [ho.1] at h4; cases h4
 ·exact hR.gl g cs hg
theorem onlyRead_nil (n : Nat) : OnlyRead ⟨n, .nil, []⟩ := ⟨rfl, fun i b h => by
 have h : (Tr.nil : Tr SBlk).get i = some b := h
 rw [Tr.get_nil] at h; cases h⟩
theorem isInt_of {k : IntKind} {cs : Array Value} {i : Nat} {n : Int} (h : cs.toList[i]? = some (.int k n)) : IsInt k cs i := by
 rw [Array.getElem?_toList] at h
 unfold IsInt intAt
 rw [h]
end
end Go.Proofs.YtdopckcockgefaaDoor
/- Of handle: a book's slots, as numbers. No condition. -/
namespace Go.Proofs.YtdopckcockgefaaDoor
set_option maxRecDepth 100000
def ageAt (bs : Array Value) (i : Nat) : Int := intAt bs (i * 2)
def kindAt (bs : Array Value) (i : Nat) : Int := intAt bs (i * 2 + 1)
structure BkOk (bs : Array Value) : Prop where
 sz : bs.size = 64
 a : ∀ i, i < 32 → IsInt .u32 bs (i * 2)
 k : ∀ i, i < 32 → IsInt .u8 bs (i * 2 + 1)
 ra : ∀ i, i < 32 → 0 ≤ ageAt bs i ∧ ageAt bs i ≤ 8388607
 rk : ∀ i, i < 32 → 0 ≤ kindAt bs i ∧ kindAt bs i ≤ 2
def nameI (i : Nat) (a : Int) : Int := 256 * a + i + 1
def slotOk (h : Int) : Bool := decide (h ≠ 0 ∧ (h - 1) % 256 < 32 ∧ (h - 1) / 256 ≤ 8388607)
def slotI (h : Int) : Int := if slotOk h = true then (h - 1) % 256 else 0
def goodB (bs : Array Value) (h : Int) : Bool := slotOk h && (decide (ageAt bs (slotI h).toNat = (h - 1) / 256) && decide (kindAt bs (slotI h).toNat = 1))
def atOk (bs : Array Value) (i : Int) : Bool := decide (0 ≤ i ∧ i < 32) && decide (kindAt bs i.toNat = 1)
def atI (bs : Array Value) (i : Int) : Int := if atOk bs i = true then nameI i.toNat (ageAt bs i.toNat) else 0
def inH (h : Int) : Prop := 0 ≤ h ∧ h < 4294967296
def voidS (bs : Array Value) (i : Nat) : Array Value := if ageAt bs i = 8388607 then bs.setIfInBounds (i * 2 + 1) (.int .u8 2) else putAt bs (i * 2) [.int .u32 (ageAt bs i + 1), .int .u8 0]
def voidB (bs : Array Value) (h : Int) : Array Value := if goodB bs h = true then voidS bs (slotI h).toNat else bs
def freeFrom (bs : Array Value) : Nat → Nat → Option Nat
 | 0, _ => none
 | k + 1, i => if kindAt bs i = 0 then some i else freeFrom bs k (i + 1)
def freeS (bs : Array Value) : Option Nat := freeFrom bs 32 0
def issueB (bs : Array Value) : Array Value := match freeS bs with
 | some i => bs.setIfInBounds (i * 2 + 1) (.int .u8 1)
 | none => bs
def issueI (bs : Array Value) : Int := match freeS bs with
 | some i => nameI i (ageAt bs i)
 | none => 0
def issueOk (bs : Array Value) : Bool := (freeS bs).isSome
theorem slotI_lt {h : Int} (hh : inH h) : 0 ≤ slotI h ∧ slotI h < 32 := by
 unfold slotI
 split
 ·rename_i e
  unfold slotOk at e
  have := of_decide_eq_true e
  have := hh.1
  omega
 ·omega
theorem u32_in {t : Int} (h1 : 0 ≤ t) (h2 : t < 4294967296) : IntKind.u32.wrap t = t := by
 unfold IntKind.wrap
 simp only [IntKind.signed, IntKind.bits]
 exact Int.emod_eq_of_lt h1 (by omega)
theorem i64_in' {t : Int} (h1 : -9223372036854775808 ≤ t) (h2 : t ≤ 9223372036854775807) : IntKind.i64.wrap t = t := Go.IntWalk.i64_in _ (by omega)
noncomputable section
def u32 (n : Int) : SV := .s (.c (.f (.int .u32 (.o n))))
def bkS (bs : Array Value) : SV := .s (.agg (.op bs))
def ibT (x : Int) (b : Bool) : SV := .tup [.c (.f (.int .i64 (.o x))), .c (.f (.bool (.o b)))]
def hbT (x : Int) (b : Bool) : SV := .tup [.c (.f (.int .u32 (.o x))), .c (.f (.bool (.o b)))]
def bbT (bs : Array Value) (b : Bool) : SV := .tup [.agg (.op bs), .c (.f (.bool (.o b)))]
def bhbT (bs : Array Value) (x : Int) (b : Bool) : SV := .tup [.agg (.op bs), .c (.f (.int .u32 (.o x))), .c (.f (.bool (.o b)))]
def e0M : SMem := ⟨0, .nil, []⟩
end
end Go.Proofs.YtdopckcockgefaaDoor
/- Of handle: Slot, Good, At, Void, as propositions. No condition. -/
namespace Go.Proofs.YtdopckcockgefaaDoor
set_option maxRecDepth 100000
theorem slot_run (h x : Int) (b : Bool) : (run E0 1000 0 [callFr 52 Tryd.f52.ntmps [u32 h] (Tryd.f52.body.getD .skip)] e0M).vc (retOk 0 [] (ibT x b) e0M) (fun _ _ => False) =
  ((((h == 0) == false) = true → ((decide (ari .rem .u32 (ari .sub .u32 h 1) 256 ≥ 32) == false) = true → (decide (ari .quo .u32 (ari .sub .u32 h 1) 256 > 8388607) = true → x = 0 ∧ b = false ∧ True) ∧ (decide (ari .quo .u32 (ari .sub .u32 h 1) 256 > 8388607) = false → x = IntKind.wrap .i64 (ari .rem .u32 (ari .sub .u32 h 1) 256) ∧ b = true ∧ True)) ∧ ((decide (ari .rem .u32 (ari .sub .u32 h 1) 256 ≥ 32) == false) = false → x = 0 ∧ b = false ∧ True)) ∧ (((h == 0) == false) = false → x = 0 ∧ b = false ∧ True)) := by kernel_rfl
theorem good_run (bs : Array Value) (h : Int) (b : Bool) : (run E0 1000 0 [callFr 23 Tryd.f23.ntmps [bkS bs, u32 h] (Tryd.f23.body.getD .skip)] e0M).vc (retOk 0 [] (sB (.o b)) e0M) (fun _ _ => False) =
  ((((h == 0) == false) = true → ((decide (ari .rem .u32 (ari .sub .u32 h 1) 256 ≥ 32) == false) = true → (decide (ari .quo .u32 (ari .sub .u32 h 1) 256 > 8388607) = true → b = false ∧ True) ∧ (decide (ari .quo .u32 (ari .sub .u32 h 1) 256 > 8388607) = false → ((0 ≤ IntKind.wrap .i64 (ari .rem .u32 (ari .sub .u32 h 1) 256) ∧ IntKind.wrap .i64 (ari .rem .u32 (ari .sub .u32 h 1) 256) < 32) ∧ True) ∧ (IsInt .u32 bs (0 + Int.toNat (IntKind.wrap .i64 (ari .rem .u32 (ari .sub .u32 h 1) 256)) * 2) ∧ IsInt .u8 bs (0 + Int.toNat (IntKind.wrap .i64 (ari .rem .u32 (ari .sub .u32 h 1) 256)) * 2 + 1) ∧ True) ∧ b = (intAt bs (0 + Int.toNat (IntKind.wrap .i64 (ari .rem .u32 (ari .sub .u32 h 1) 256)) * 2) == ari .quo .u32 (ari .sub .u32 h 1) 256 && intAt bs (0 + Int.toNat (IntKind.wrap .i64 (ari .rem .u32 (ari .sub .u32 h 1) 256)) * 2 + 1) == 1) ∧ True)) ∧ ((decide (ari .rem .u32 (ari .sub .u32 h 1) 256 ≥ 32) == false) = false → b = false ∧ True)) ∧ (((h == 0) == false) = false → b = false ∧ True)) := by kernel_rfl
theorem at_run (bs : Array Value) (i x : Int) (b : Bool) : (run E0 1000 0 [callFr 71 Tryd.f71.ntmps [bkS bs, i64 (.o i)] (Tryd.f71.body.getD .skip)] e0M).vc (retOk 0 [] (hbT x b) e0M) (fun _ _ => False) =
  (((decide (i < 0) == false) = true → ((decide (i ≥ 32) == false) = true → ((0 ≤ i ∧ i < 32) ∧ True) ∧ (IsInt .u8 bs (0 + Int.toNat i * 2 + 1) ∧ True) ∧ ((intAt bs (0 + Int.toNat i * 2 + 1) != 1) = true → x = 0 ∧ b = false ∧ True) ∧ ((intAt bs (0 + Int.toNat i * 2 + 1) != 1) = false → ((0 ≤ i ∧ i < 32) ∧ True) ∧ (IsInt .u32 bs (0 + Int.toNat i * 2) ∧ True) ∧ x = ari .add .u32 (ari .add .u32 (ari .mul .u32 (256 : Int) (intAt bs (0 + Int.toNat i * 2))) (IntKind.wrap .u32 i)) (1 : Int) ∧ b = true ∧ True)) ∧ ((decide (i ≥ 32) == false) = false → x = 0 ∧ b = false ∧ True)) ∧ ((decide (i < 0) == false) = false → x = 0 ∧ b = false ∧ True)) := by kernel_rfl
set_option linter.unusedSimpArgs false
theorem sub_h {h : Int} (hh : inH h) (h0 : h ≠ 0) : ari .sub .u32 h 1 = h - 1 ∧ ari .rem .u32 (h - 1) 256 = (h - 1) % 256 ∧ ari .quo .u32 (h - 1) 256 = (h - 1) / 256 := by
 have h1 := hh.1
 have h2 := hh.2
 refine ⟨by rw [ari_sub, u32_in (by omega) (by omega)], by rw [ari_rem, Int.tmod_eq_emod_of_nonneg (by omega)], ?_⟩
 rw [ari_quo, Int.tdiv_eq_ediv_of_nonneg (by omega), u32_in (by omega) (by omega)]
section
variable {bs : Array Value}
theorem slot_con (h : Int) (m : SMem) : Con E0 52 [u32 h] m (needs [inH h] (.ret (ibT (slotI h) (slotOk h)) m)) := by
 refine Con.pure E0_ok (by kernel_rfl : E0.fn 52 = some Tryd.f52) (by kernel_rfl : Tryd.f52.body = some (Tryd.f52.body.getD .skip)) (by kernel_rfl) (by kernel_rfl) fun hq => ?_
 have hh : inH h := hq _ (by simp)
 refine (Good.ret [] (run_vc E0_ok 1000 (slot_run h (slotI h) (slotOk h)) ?_ (fun s m h => h) fun _ _ h => h.elim)).mono fun _ _ h => h.1
 have h1 := hh.1
 have h2 := hh.2
 by_cases h0 : h = 0
 ·have d : (h == 0) = true := by rw [h0]; rfl
  have e : slotOk h = false := decide_eq_false (fun k => k.1 h0)
  simp only [d, e, slotI, if_false, q8, q6]
 ·have d : (h == 0) = false := by simpa using h0
  obtain ⟨e1, e2, e3⟩ := sub_h hh h0
  by_cases c1 : (h - 1) % 256 ≥ 32
  ·have d1 : decide ((h - 1) % 256 ≥ 32) = true := decide_eq_true c1
   have e : slotOk h = false := decide_eq_false (fun k => by omega)
   simp only [d, d1, e, e1, e2, e3, slotI, if_false, q8, q6]
  ·have d1 : decide ((h - 1) % 256 ≥ 32) = false := decide_eq_false c1
   by_cases c2 : (h - 1) / 256 > 8388607
   ·have d2 : decide ((h - 1) / 256 > 8388607) = true := decide_eq_true c2
    have e : slotOk h = false := decide_eq_false (fun k => by omega)
    simp only [d, d1, d2, e, e1, e2, e3, slotI, if_false, q8, q6]
   ·have d2 : decide ((h - 1) / 256 > 8388607) = false := decide_eq_false c2
    have e : slotOk h = true := decide_eq_true ⟨h0, by omega, by omega⟩
    simp only [d, d1, d2, e, e1, e2, e3, slotI, if_true, q8, q6]
    exact (i64_in' (by omega) (by omega)).symm
theorem good_con (h : Int) (m : SMem) : Con E0 23 [bkS bs, u32 h] m (needs [BkOk bs, inH h] (.ret (sB (.o (goodB bs h))) m)) := by
 refine Con.pure E0_ok (by kernel_rfl : E0.fn 23 = some Tryd.f23) (by kernel_rfl : Tryd.f23.body = some (Tryd.f23.body.getD .skip)) (by kernel_rfl) (by kernel_rfl) fun hq => ?_
 have hb : BkOk bs := hq _ (by simp)
 have hh : inH h := hq _ (by simp)
 refine (Good.ret [] (run_vc E0_ok 1000 (good_run bs h (goodB bs h)) ?_ (fun s m h => h) fun _ _ h => h.elim)).mono fun _ _ h => h.1
 have h1 := hh.1
 have h2 := hh.2
 by_cases h0 : h = 0
 ·have d : (h == 0) = true := by rw [h0]; rfl
  have e : slotOk h = false := decide_eq_false (fun k => k.1 h0)
  simp only [d, e, goodB, Bool.false_and, if_false, q8, q6]
 ·have d : (h == 0) = false := by simpa using h0
  obtain ⟨e1, e2, e3⟩ := sub_h hh h0
  by_cases c1 : (h - 1) % 256 ≥ 32
  ·have d1 : decide ((h - 1) % 256 ≥ 32) = true := decide_eq_true c1
   have e : slotOk h = false := decide_eq_false (fun k => by omega)
   simp only [d, d1, e, e1, e2, e3, goodB, Bool.false_and, if_false, q8, q6]
  ·have d1 : decide ((h - 1) % 256 ≥ 32) = false := decide_eq_false c1
   by_cases c2 : (h - 1) / 256 > 8388607
   ·have d2 : decide ((h - 1) / 256 > 8388607) = true := decide_eq_true c2
    have e : slotOk h = false := decide_eq_false (fun k => by omega)
    simp only [d, d1, d2, e, e1, e2, e3, goodB, Bool.false_and, if_false, q8, q6]
   ·have d2 : decide ((h - 1) / 256 > 8388607) = false := decide_eq_false c2
    have e : slotOk h = true := decide_eq_true ⟨h0, by omega, by omega⟩
    have es : slotI h = (h - 1) % 256 := by unfold slotI; rw [if_pos e]
    have ew : IntKind.i64.wrap ((h - 1) % 256) = (h - 1) % 256 := i64_in' (by omega) (by omega)
    have hlt : ((h - 1) % 256).toNat < 32 := by omega
    simp only [d, d1, d2, e, e1, e2, e3, ew, es, goodB, Nat.zero_add, Bool.true_and, if_true, q8, q6]
    refine ⟨by omega, ⟨hb.a _ hlt, hb.k _ hlt⟩, ?_⟩
    unfold ageAt kindAt
    rw [Bool.eq_iff_iff]
    simp
theorem nameI_run {i : Nat} {a : Int} (hi : i < 32) (ha : 0 ≤ a ∧ a ≤ 8388607) : ari .add .u32 (ari .add .u32 (ari .mul .u32 256 a) (IntKind.u32.wrap (i : Int))) 1 = nameI i a := by
 have e1 : ari .mul .u32 256 a = 256 * a := by rw [ari_mul]; exact u32_in (by omega) (by omega)
 have e2 : IntKind.u32.wrap (i : Int) = i := u32_in (by omega) (by omega)
 rw [e1, e2, ari_add, ari_add, u32_in (t := 256 * a + i) (by omega) (by omega), u32_in (by omega) (by omega)]
 rfl
theorem at_con (i : Int) (m : SMem) : Con E0 71 [bkS bs, i64 (.o i)] m (needs [BkOk bs] (.ret (hbT (atI bs i) (atOk bs i)) m)) := by
 refine Con.pure E0_ok (by kernel_rfl : E0.fn 71 = some Tryd.f71) (by kernel_rfl : Tryd.f71.body = some (Tryd.f71.body.getD .skip)) (by kernel_rfl) (by kernel_rfl) fun hq => ?_
 have hb : BkOk bs := hq _ (by simp)
 refine (Good.ret [] (run_vc E0_ok 1000 (at_run bs i (atI bs i) (atOk bs i)) ?_ (fun s m h => h) fun _ _ h => h.elim)).mono fun _ _ h => h.1
 by_cases c1 : i < 0
 ·have d1 : decide (i < 0) = true := decide_eq_true c1
  have e : atOk bs i = false := by unfold atOk; rw [decide_eq_false (by omega)]; rfl
  simp only [d1, e, atI, if_false, q8, q6]
 ·have d1 : decide (i < 0) = false := decide_eq_false c1
  by_cases c2 : i ≥ 32
  ·have d2 : decide (i ≥ 32) = true := decide_eq_true c2
   have e : atOk bs i = false := by unfold atOk; rw [decide_eq_false (by omega)]; rfl
   simp only [d1, d2, e, atI, if_false, q8, q6]
  ·have d2 : decide (i ≥ 32) = false := decide_eq_false c2
   obtain ⟨k, rfl⟩ : ∃ k : Nat, i = (k : Int) := ⟨i.toNat, by omega⟩
   have hk : k < 32 := by omega
   have ek : atOk bs (k : Int) = decide (kindAt bs k = 1) := by unfold atOk; rw [decide_eq_true (by omega), Bool.true_and, Int.toNat_natCast]
   by_cases c3 : kindAt bs k = 1
   ·have d3 : (intAt bs (k * 2 + 1) != 1) = false := by
     have c3 : intAt bs (k * 2 + 1) = 1 := c3
     rw [c3]; rfl
    have en := nameI_run hk (hb.ra k hk)
    unfold ageAt at en
    rw [decide_eq_true c3] at ek
    simp only [d1, d2, d3, ek, atI, Nat.zero_add, Int.toNat_natCast, en, if_true, q8, q6]
    exact ⟨by omega, hb.k k hk, by omega, hb.a k hk, rfl⟩
   ·have d3 : (intAt bs (k * 2 + 1) != 1) = true := by
     have c3 : ¬ intAt bs (k * 2 + 1) = 1 := c3
     simpa using c3
    rw [decide_eq_false c3] at ek
    simp only [d1, d2, d3, ek, atI, Nat.zero_add, Int.toNat_natCast, if_false, q8, q6]
    exact ⟨by omega, hb.k k hk⟩
end
set_option linter.unusedVariables false
theorem Con.args {E : Env} {f : FuncId} {l l' : List SV} {m : SMem} {t : Tree} (h : ∀ R vs, All2 (SV.ok R) l vs → All2 (SV.ok R) l' vs) (hc : Con E f l' m t) : Con E f l m t := by
 intro A hs
 obtain ⟨fn, h1, h2, h3⟩ := hc A hs
 exact ⟨fn, h1, h2, fun n0 F w0 w R args hl hR => h3 n0 F w0 w R args (h R _ hl) hR⟩
theorem Con.asked {E : Env} {g : FuncId} {l : List SV} {m : SMem} {q : List Prop} {t : Tree} (h : (∀ p ∈ q, p) → Con E g l m t) : Con E g l m (.need q t) := by
 intro A hs
 exact h hs.1 A hs.2
noncomputable def conH1 (g : FuncId) (l : List SV) (m : SMem) : Option Tree := match g, l with
 | 52, [.s (.c (.f (.int .u32 h)))] => some (.need [inH h.den] (.ret (ibT (slotI h.den) (slotOk h.den)) m))
 | 23, [.s (.agg (.op bs)), .s (.c (.f (.int .u32 h)))] => some (.need [BkOk bs, inH h.den] (.ret (sB (.o (goodB bs h.den))) m))
 | 71, [.s (.agg (.op bs)), .s (.c (.f (.int .i64 i)))] => some (.need [BkOk bs] (.ret (hbT (atI bs i.den) (atOk bs i.den)) m))
 | _, _ => none
noncomputable def EH : Env := ⟨Tryd.prog, fnOf, conH1, haltAt [70002, 50003]⟩
noncomputable def hI_d0 : List SIt := sekF Tryd.f70 2
noncomputable def hI_F (bs : Array Value) (i : Int) (zz : Array Value) : List SFr := [frOf 70 Tryd.f70 [(1, ptr 0 (.l 0)), (2, ptr 1 (.l 0)), (3, .s (.c (.f (.int .u32 (.l 0))))), (6, i64 (.o i))] hI_d0]
noncomputable def hI_M (bs : Array Value) (i : Int) (zz : Array Value) : SMem := mkM 2 [(0, ⟨.op bs, 29, true⟩), (1, ⟨.op zz, 29, true⟩)]
noncomputable def hI_n (bs : Array Value) (Q : Int → Array Value → Prop) (fs : List SFr) (m : SMem) : Prop := (match frNth fs 0 with | some f0 => (match rdI f0 6 with | some i => (match rdP f0 1 with | some p0 => (match rdP f0 2 with | some p1 => (match rdA m p1 with | some zz => Q i zz ∧ subOk 0 [(0, p0), (1, p1)] (hI_F bs i zz) (hI_M bs i zz) fs m | none => False) | none => False) | none => False) | none => False) | none => False)
noncomputable def hZ_d0 : List SIt := sekF Tryd.f50 3
noncomputable def hZ_F (bs : Array Value) (i : Int) : List SFr := [frOf 50 Tryd.f50 [(1, ptr 0 (.l 0)), (3, .s (.c (.f (.lit (.slice none 0 0))))), (7, i64 (.o i))] hZ_d0]
noncomputable def hZ_M (bs : Array Value) (i : Int) : SMem := mkM 1 [(0, ⟨.op bs, 29, true⟩)]
noncomputable def hZ_n (bs : Array Value) (Q : Int → Prop) (fs : List SFr) (m : SMem) : Prop := (match frNth fs 0 with | some f0 => (match rdI f0 7 with | some i => (match rdP f0 1 with | some p0 => Q i ∧ subOk 0 [(0, p0)] (hZ_F bs i) (hZ_M bs i) fs m | none => False) | none => False) | none => False)
noncomputable def hS_d0 : List SIt := sekF Tryd.f50 3
noncomputable def hS_F (bs : Array Value) (i : Int) (k : Nat) (cs : Array Value) : List SFr := [frOf 50 Tryd.f50 [(1, ptr 0 (.l 0)), (3, .s (.c (.f (.slice 1 (.l 0) (.o k) (.full 1))))), (7, i64 (.o i))] hS_d0]
noncomputable def hS_M (bs : Array Value) (i : Int) (k : Nat) (cs : Array Value) : SMem := mkM 2 [(0, ⟨.op bs, 29, true⟩), (1, ⟨.pop cs, 30, true⟩)]
noncomputable def hS_n (bs : Array Value) (Q : Int → Nat → Array Value → Prop) (fs : List SFr) (m : SMem) : Prop := (match frNth fs 0 with | some f0 => (match rdI f0 7 with | some i => (match rdP f0 1 with | some p0 => (match rdSI f0 3 with | some p1 => (match rdSN f0 3 with | some k => (match rdA m p1 with | some cs => Q i k cs ∧ subOk 0 [(0, p0), (1, p1)] (hS_F bs i k cs) (hS_M bs i k cs) fs m | none => False) | none => False) | none => False) | none => False) | none => False) | none => False)
noncomputable def freshA (k : Nat) (cs : Array Value) (ty : TypeId) (s : SV) (m : SMem) : Prop := match s with | .s (.c (.f (.slice sid _ _ _))) => retOk 0 [(0, sid)] (.s (.c (.f (.slice 0 (.l 0) (.o k) (.full 1))))) (mkM 1 [(0, ⟨.pop cs, ty, true⟩)]) s m | _ => False
noncomputable def nilA (s : SV) (m : SMem) : Prop := retOk 0 [] (.s (.c (.f (.lit (.slice none 0 0))))) e0M s m
noncomputable def hZS (bs : Array Value) (QZ : Int → Prop) (QS : Int → Nat → Array Value → Prop) (fs : List SFr) (m : SMem) : Prop := match fs with | f :: _ => (match f.tm.get 3 with | some (.s (.c (.f (.slice _ _ _ _)))) => hS_n bs QS fs m | _ => hZ_n bs QZ fs m) | [] => False
noncomputable def vd_t (bs : Array Value) (h : Int) (o : Array Value) (b : Bool) : Tree := run EH 1000 0 [callFr 66 Tryd.f66.ntmps [bkS bs, u32 h] (Tryd.f66.body.getD .skip)] e0M
noncomputable def vd_x (bs : Array Value) (h : Int) (o : Array Value) (b : Bool)  (fs : List SFr) (m : SMem) : Prop := False
noncomputable def is0_t (bs : Array Value) : Tree := run EH 1000 0 [callFr 70 Tryd.f70.ntmps [bkS bs] (Tryd.f70.body.getD .skip)] e0M
noncomputable def is0_x (bs : Array Value) (QhI : Int → Array Value → Prop) (fs : List SFr) (m : SMem) : Prop := hI_n bs QhI fs m
noncomputable def id0_t (bs : Array Value) : Tree := run EH 1000 0 [callFr 50 Tryd.f50.ntmps [bkS bs] (Tryd.f50.body.getD .skip)] e0M
noncomputable def id0_x (bs : Array Value) (QhZ : Int → Prop) (fs : List SFr) (m : SMem) : Prop := hZ_n bs QhZ fs m
theorem hI_d0_ok (r : Nat → Option Nat) : TodoOk r hI_d0 hI_d0 := TodoOk.it (by kernel_rfl)
theorem hZ_d0_ok (r : Nat → Option Nat) : TodoOk r hZ_d0 hZ_d0 := TodoOk.it (by kernel_rfl)
theorem hS_d0_ok (r : Nat → Option Nat) : TodoOk r hS_d0 hS_d0 := TodoOk.it (by kernel_rfl)
theorem hI_good {A : SV → SMem → Prop} {bs : Array Value} {Q : Int → Array Value → Prop} {fs : List SFr} {m : SMem} (H : ∀ i zz, Q i zz → Good Tryd.prog A 0 (hI_F bs i zz) (hI_M bs i zz)) (hb : hI_n bs Q fs m) : Good Tryd.prog A 0 fs m := by
 unfold hI_n at hb
 iterate 5 (split at hb; rotate_left; exact hb.elim)
 exact Good.of_sub hb.2 (H _ _ hb.1)
theorem hZ_good {A : SV → SMem → Prop} {bs : Array Value} {Q : Int → Prop} {fs : List SFr} {m : SMem} (H : ∀ i, Q i → Good Tryd.prog A 0 (hZ_F bs i) (hZ_M bs i)) (hb : hZ_n bs Q fs m) : Good Tryd.prog A 0 fs m := by
 unfold hZ_n at hb
 iterate 3 (split at hb; rotate_left; exact hb.elim)
 exact Good.of_sub hb.2 (H _ hb.1)
theorem hS_good {A : SV → SMem → Prop} {bs : Array Value} {Q : Int → Nat → Array Value → Prop} {fs : List SFr} {m : SMem} (H : ∀ i k cs, Q i k cs → Good Tryd.prog A 0 (hS_F bs i k cs) (hS_M bs i k cs)) (hb : hS_n bs Q fs m) : Good Tryd.prog A 0 fs m := by
 unfold hS_n at hb
 iterate 6 (split at hb; rotate_left; exact hb.elim)
 exact Good.of_sub hb.2 (H _ _ _ hb.1)
theorem is0_go {A : SV → SMem → Prop} {bs : Array Value} {QhI : Int → Array Value → Prop} {fs : List SFr} {m : SMem} (hhI : ∀ i' zz', QhI i' zz' → Good Tryd.prog A 0 (hI_F bs i' zz') (hI_M bs i' zz')) (hb : is0_x bs QhI fs m) : Good Tryd.prog A 0 fs m := by
 unfold is0_x at hb
 exact hI_good hhI hb
theorem id0_go {A : SV → SMem → Prop} {bs : Array Value} {QhZ : Int → Prop} {fs : List SFr} {m : SMem} (hhZ : ∀ i', QhZ i' → Good Tryd.prog A 0 (hZ_F bs i') (hZ_M bs i')) (hb : id0_x bs QhZ fs m) : Good Tryd.prog A 0 fs m := by
 unfold id0_x at hb
 exact hZ_good hhZ hb
theorem Con.n1 {E : Env} {g : FuncId} {a : SV} {k : IntKind} {x : SI} {m : SMem} {t : Tree} (h : Con E g [a, .s (.c (.f (.int k (.o x.den))))] m t) : Con E g [a, .s (.c (.f (.int k x)))] m t := Con.args (fun R vs ha => by
 match vs, ha with
 | [v, w], ha => exact ⟨ha.1, ha.2.1, trivial⟩) h
theorem Con.n2 {E : Env} {g : FuncId} {a : SV} {k l : IntKind} {x y : SI} {m : SMem} {t : Tree} (h : Con E g [a, .s (.c (.f (.int k (.o x.den)))), .s (.c (.f (.int l (.o y.den))))] m t) : Con E g [a, .s (.c (.f (.int k x))), .s (.c (.f (.int l y)))] m t := Con.args (fun R vs ha => by
 match vs, ha with
 | [v, w, z], ha => exact ⟨ha.1, ha.2.1, ha.2.2.1, trivial⟩) h
theorem Con.n3 {E : Env} {g : FuncId} {a : SV} {k l n : IntKind} {x y u : SI} {m : SMem} {t : Tree} (h : Con E g [a, .s (.c (.f (.int k (.o x.den)))), .s (.c (.f (.int l (.o y.den)))), .s (.c (.f (.int n (.o u.den))))] m t) : Con E g [a, .s (.c (.f (.int k x))), .s (.c (.f (.int l y))), .s (.c (.f (.int n u)))] m t := Con.args (fun R vs ha => by
 match vs, ha with
 | [v, w, z, q], ha => exact ⟨ha.1, ha.2.1, ha.2.2.1, ha.2.2.2.1, trivial⟩) h
set_option maxRecDepth 100000
noncomputable def vd_vc_0 (bs : Array Value) (h : Int) : List Value := [Value.int .u32 (ari .add .u32 (intAt bs (0 + Int.toNat (slotI h) * 2)) (1 : Int)), Value.int .u8 0]
noncomputable def vd_vc_1 (bs : Array Value) (h : Int) : Array Value := Array.setIfInBounds bs (0 + Int.toNat (slotI h) * 2 + 1) (Value.int .u8 2)
theorem vd_vc (bs : Array Value) (h : Int) (o : Array Value) (b : Bool) : (vd_t bs h o b).vc ((retOk 0 [] (bbT o b) e0M)) (vd_x bs h o b ) =
  ((Array.size bs = 64 ∧ True) ∧ (BkOk bs ∧ (0 ≤ h ∧ h < 4294967296) ∧ True) ∧ ((!goodB bs h) = true → (Array.size bs = 64 ∧ True) ∧ (Array.size bs = 64 ∧ Array.size bs = 64 ∧ True) ∧ (Array.size bs = 64 ∧ True) ∧ o = bs ∧ b = false ∧ True) ∧ ((!goodB bs h) = false → ((0 ≤ h ∧ h < 4294967296) ∧ True) ∧ ((0 ≤ slotI h ∧ slotI h < 32) ∧ True) ∧ (IsInt .u32 bs (0 + Int.toNat (slotI h) * 2) ∧ True) ∧ ((intAt bs (0 + Int.toNat (slotI h) * 2) == 8388607) = true → ((0 ≤ slotI h ∧ slotI h < 32) ∧ True) ∧ (0 + Int.toNat (slotI h) * 2 + 1 < Array.size bs ∧ True) ∧ (Array.size (vd_vc_1 bs h) = 64 ∧ True) ∧ (Array.size (vd_vc_1 bs h) = 64 ∧ Array.size (vd_vc_1 bs h) = 64 ∧ True) ∧ (Array.size (vd_vc_1 bs h) = 64 ∧ True) ∧ o = Array.setIfInBounds bs (0 + Int.toNat (slotI h) * 2 + 1) (Value.int .u8 2) ∧ b = true ∧ True) ∧ ((intAt bs (0 + Int.toNat (slotI h) * 2) == 8388607) = false → ((0 ≤ slotI h ∧ slotI h < 32) ∧ True) ∧ (IsInt .u32 bs (0 + Int.toNat (slotI h) * 2) ∧ True) ∧ ((0 ≤ slotI h ∧ slotI h < 32) ∧ True) ∧ (0 + Int.toNat (slotI h) * 2 + List.length (vd_vc_0 bs h) ≤ Array.size bs ∧ True) ∧ (Array.size (putAt bs (0 + Int.toNat (slotI h) * 2) (vd_vc_0 bs h)) = 64 ∧ True) ∧ (Array.size (putAt bs (0 + Int.toNat (slotI h) * 2) (vd_vc_0 bs h)) = 64 ∧ Array.size (putAt bs (0 + Int.toNat (slotI h) * 2) (vd_vc_0 bs h)) = 64 ∧ True) ∧ (Array.size (putAt bs (0 + Int.toNat (slotI h) * 2) (vd_vc_0 bs h)) = 64 ∧ True) ∧ o = putAt bs (0 + Int.toNat (slotI h) * 2) (vd_vc_0 bs h) ∧ b = true ∧ True))) := by kernel_rfl
noncomputable def is0_vc_0 : Array Value := #[Value.int .u32 0, Value.int .u8 0, Value.int .u32 0, Value.int .u8 0, Value.int .u32 0, Value.int .u8 0, Value.int .u32 0, Value.int .u8 0, Value.int .u32 0, Value.int .u8 0, Value.int .u32 0, Value.int .u8 0, Value.int .u32 0, Value.int .u8 0, Value.int .u32 0, Value.int .u8 0, Value.int .u32 0, Value.int .u8 0, Value.int .u32 0, Value.int .u8 0, Value.int .u32 0, Value.int .u8 0, Value.int .u32 0, Value.int .u8 0, Value.int .u32 0, Value.int .u8 0, Value.int .u32 0, Value.int .u8 0, Value.int .u32 0, Value.int .u8 0, Value.int .u32 0, Value.int .u8 0, Value.int .u32 0, Value.int .u8 0, Value.int .u32 0, Value.int .u8 0, Value.int .u32 0, Value.int .u8 0, Value.int .u32 0, Value.int .u8 0, Value.int .u32 0, Value.int .u8 0, Value.int .u32 0, Value.int .u8 0, Value.int .u32 0, Value.int .u8 0, Value.int .u32 0, Value.int .u8 0, Value.int .u32 0, Value.int .u8 0, Value.int .u32 0, Value.int .u8 0, Value.int .u32 0, Value.int .u8 0, Value.int .u32 0, Value.int .u8 0, Value.int .u32 0, Value.int .u8 0, Value.int .u32 0, Value.int .u8 0, Value.int .u32 0, Value.int .u8 0, Value.int .u32 0, Value.int .u8 0]
theorem is0_vc (bs : Array Value) (QhI : Int → Array Value → Prop) : (is0_t bs).vc ((fun _ _ => False)) (is0_x bs QhI) =
  (QhI (0 : Int) (is0_vc_0) ∧ cN ∧ TodoOk (ren 0 [(0, 0), (1, 1)]) hI_d0 hI_d0 ∧ (0 : Int) = (0 : Int) ∧ 29 = 29 ∧ bs = bs ∧ 29 = 29 ∧ (is0_vc_0) = (is0_vc_0) ∧ True) := by kernel_rfl
theorem id0_vc (bs : Array Value) (QhZ : Int → Prop) : (id0_t bs).vc ((fun _ _ => False)) (id0_x bs QhZ) =
  (QhZ (0 : Int) ∧ cN ∧ TodoOk (ren 0 [(0, 0)]) hZ_d0 hZ_d0 ∧ Value.slice none 0 0 = Value.slice none 0 0 ∧ (0 : Int) = (0 : Int) ∧ 29 = 29 ∧ bs = bs ∧ True) := by kernel_rfl
noncomputable def is1_0 (bs : Array Value) (i : Int) : Array Value := Array.setIfInBounds bs (0 + Int.toNat i * 2 + 1) (Value.int .u8 1)
theorem is1 (bs : Array Value) (i : Int) (zz : Array Value) (o : Array Value) (x : Int) (b : Bool) (Q : Int → Array Value → Prop) : (stepT EH.go (run EH 1000) 0 (hI_F bs i zz) (hI_M bs i zz)).vc (retOk 0 [] (bhbT o x b) e0M) (hI_n bs Q) =
  ((decide (i < 32) = true → ((0 ≤ i ∧ i < 32) ∧ True) ∧ (IsInt .u8 bs (0 + Int.toNat i * 2 + 1) ∧ True) ∧ ((intAt bs (0 + Int.toNat i * 2 + 1) == 0) = true → ((0 ≤ i ∧ i < 32) ∧ True) ∧ (0 + Int.toNat i * 2 + 1 < Array.size bs ∧ True) ∧ (Array.size (is1_0 bs i) = 64 ∧ True) ∧ ((0 ≤ i ∧ i < 32) ∧ True) ∧ (IsInt .u32 (is1_0 bs i) (0 + Int.toNat i * 2) ∧ True) ∧ (Array.size (is1_0 bs i) = 64 ∧ Array.size (is1_0 bs i) = Array.size zz ∧ True) ∧ (Array.size (is1_0 bs i) = 64 ∧ True) ∧ o = Array.setIfInBounds bs (0 + Int.toNat i * 2 + 1) (Value.int .u8 1) ∧ x = ari .add .u32 (ari .add .u32 (ari .mul .u32 (256 : Int) (intAt (is1_0 bs i) (0 + Int.toNat i * 2))) (IntKind.wrap .u32 i)) (1 : Int) ∧ b = true ∧ True) ∧ ((intAt bs (0 + Int.toNat i * 2 + 1) == 0) = false → Q (ari .add .i64 i 1) zz ∧ cN ∧ TodoOk (ren 0 [(0, 0), (1, 1)]) hI_d0 hI_d0 ∧ ari .add .i64 i 1 = ari .add .i64 i 1 ∧ 29 = 29 ∧ bs = bs ∧ 29 = 29 ∧ zz = zz ∧ True)) ∧ (decide (i < 32) = false → (Array.size bs = 64 ∧ True) ∧ (Array.size bs = 64 ∧ Array.size bs = Array.size zz ∧ True) ∧ (Array.size bs = 64 ∧ True) ∧ o = bs ∧ x = 0 ∧ b = false ∧ True)) := by kernel_rfl
theorem idZ_n (bs : Array Value) (i : Int) (QZ : Int → Prop) (QS : Int → Nat → Array Value → Prop) : (stepT EH.go (run EH 1000) 0 (hZ_F bs i) (hZ_M bs i)).vc nilA (hZS bs QZ QS) =
  ((decide (i < 32) = true → (Array.size bs = 64 ∧ True) ∧ (BkOk bs ∧ True) ∧ (atOk bs i = true → QS (ari .add .i64 i 1) (1 : Nat) #[Value.int .u32 (atI bs i)] ∧ cN ∧ TodoOk (ren 0 [(0, 0), (1, 2)]) hZ_d0 hZ_d0 ∧ (1 : Nat) = 1 ∧ ari .add .i64 i 1 = ari .add .i64 i 1 ∧ 29 = 29 ∧ bs = bs ∧ 30 = 30 ∧ #[Value.int .u32 (atI bs i)] = #[Value.int .u32 (atI bs i)] ∧ True) ∧ (atOk bs i = false → QZ (ari .add .i64 i 1) ∧ cN ∧ TodoOk (ren 0 [(0, 0)]) hZ_d0 hZ_d0 ∧ Value.slice none 0 0 = Value.slice none 0 0 ∧ ari .add .i64 i 1 = ari .add .i64 i 1 ∧ 29 = 29 ∧ bs = bs ∧ True)) ∧ (decide (i < 32) = false → Value.slice none 0 0 = Value.slice none 0 0 ∧ True)) := by kernel_rfl
theorem idZ_s (bs : Array Value) (i : Int) (k : Nat) (cs : Array Value) (QZ : Int → Prop) (QS : Int → Nat → Array Value → Prop) : (stepT EH.go (run EH 1000) 0 (hZ_F bs i) (hZ_M bs i)).vc (freshA k cs 30) (hZS bs QZ QS) =
  ((decide (i < 32) = true → (Array.size bs = 64 ∧ True) ∧ (BkOk bs ∧ True) ∧ (atOk bs i = true → QS (ari .add .i64 i 1) (1 : Nat) #[Value.int .u32 (atI bs i)] ∧ cN ∧ TodoOk (ren 0 [(0, 0), (1, 2)]) hZ_d0 hZ_d0 ∧ (1 : Nat) = 1 ∧ ari .add .i64 i 1 = ari .add .i64 i 1 ∧ 29 = 29 ∧ bs = bs ∧ 30 = 30 ∧ #[Value.int .u32 (atI bs i)] = #[Value.int .u32 (atI bs i)] ∧ True) ∧ (atOk bs i = false → QZ (ari .add .i64 i 1) ∧ cN ∧ TodoOk (ren 0 [(0, 0)]) hZ_d0 hZ_d0 ∧ Value.slice none 0 0 = Value.slice none 0 0 ∧ ari .add .i64 i 1 = ari .add .i64 i 1 ∧ 29 = 29 ∧ bs = bs ∧ True)) ∧ (decide (i < 32) = false → False)) := by kernel_rfl
theorem idS_s (bs : Array Value) (i : Int) (k : Nat) (cs : Array Value) (kF : Nat) (csF : Array Value) (QS : Int → Nat → Array Value → Prop) : (stepT EH.go (run EH 1000) 0 (hS_F bs i k cs) (hS_M bs i k cs)).vc (freshA kF csF 30) (hS_n bs QS) =
  ((decide (i < 32) = true → (Array.size bs = 64 ∧ True) ∧ (BkOk bs ∧ True) ∧ (atOk bs i = true → (((k + 1) * 4 ≤ 140737488355328 ∧ k + 1 ≤ 140737488355328) ∧ k * 1 = Array.size cs ∧ True) ∧ QS (ari .add .i64 i 1) (k + 1) (cs ++ #[Value.int .u32 (atI bs i)]) ∧ cN ∧ TodoOk (ren 0 [(0, 0), (1, 3)]) hZ_d0 hZ_d0 ∧ k + 1 = k + 1 ∧ ari .add .i64 i 1 = ari .add .i64 i 1 ∧ 29 = 29 ∧ bs = bs ∧ 30 = 30 ∧ cs ++ #[Value.int .u32 (atI bs i)] = cs ++ #[Value.int .u32 (atI bs i)] ∧ True) ∧ (atOk bs i = false → QS (ari .add .i64 i 1) k cs ∧ cN ∧ TodoOk (ren 0 [(0, 0), (1, 1)]) hZ_d0 hZ_d0 ∧ k = k ∧ ari .add .i64 i 1 = ari .add .i64 i 1 ∧ 29 = 29 ∧ bs = bs ∧ 30 = 30 ∧ cs = cs ∧ True)) ∧ (decide (i < 32) = false → kF = k ∧ 30 = 30 ∧ csF = cs ∧ True)) := by kernel_rfl
set_option linter.unusedVariables false
theorem conH1_ok : ∀ g l m t, conH1 g l m = some t → Con E0 g l m t := by
 intro g l m t h
 unfold conH1 at h
 split at h
 ·rename_i x; cases h
  refine Con.asked fun hq => ?_
  have h := slot_con x.den m
  refine Con.args (l' := [u32 x.den]) (fun R vs ha => by
   match vs, ha with
   | [v], ha => exact ⟨ha.1, trivial⟩) ?_
  intro A hs
  exact h A ⟨fun p hp => hq p hp, hs⟩
 ·rename_i bs x; cases h
  refine Con.asked fun hq => ?_
  refine Con.args (l' := [bkS bs, u32 x.den]) (fun R vs ha => by
   match vs, ha with
   | [v, w], ha => exact ⟨ha.1, ha.2.1, trivial⟩) ?_
  intro A hs
  exact good_con x.den m A ⟨fun p hp => hq p hp, hs⟩
 ·rename_i bs x; cases h
  refine Con.asked fun hq => ?_
  refine Con.args (l' := [bkS bs, i64 (.o x.den)]) (fun R vs ha => by
   match vs, ha with
   | [v, w], ha => exact ⟨ha.1, ha.2.1, trivial⟩) ?_
  intro A hs
  exact at_con x.den m A ⟨fun p hp => hq p hp, hs⟩
 ·cases h
theorem EH_ok : EnvOk EH := EnvOk.with E0_ok _ _ conH1_ok
section
variable {bs : Array Value}
theorem putAt2 {cs : Array Value} {p : Nat} {u v : Value} (h : p + 2 ≤ cs.size) : (putAt cs p [u, v]).size = cs.size ∧ (putAt cs p [u, v])[p]? = some u ∧ (putAt cs p [u, v])[p + 1]? = some v ∧ ∀ k, k ≠ p → k ≠ p + 1 → (putAt cs p [u, v])[k]? = cs[k]? := by
 refine ⟨putAt_size (by simpa using h), ?_, ?_, fun k h1 h2 => putAt_out (by simpa using h) (by simp; omega)⟩
 ·rw [putAt_in (by simpa using h) (Nat.le_refl _) (by simp), Nat.sub_self]; rfl
 ·rw [putAt_in (by simpa using h) (by omega) (by simp), show p + 1 - p = 1 by omega]; rfl
theorem voidS_size {i : Nat} (h : BkOk bs) (hi : i < 32) : (voidS bs i).size = 64 := by
 have := h.sz
 unfold voidS
 split
 ·rw [set_size]; exact h.sz
 ·rw [(putAt2 (by omega)).1]; exact h.sz
theorem void_con (h : Int) (m : SMem) : Con E0 66 [bkS bs, u32 h] m (needs [BkOk bs, inH h] (.ret (bbT (voidB bs h) (goodB bs h)) m)) := by
 refine Con.pure E0_ok (by kernel_rfl : E0.fn 66 = some Tryd.f66) (by kernel_rfl : Tryd.f66.body = some (Tryd.f66.body.getD .skip)) (by kernel_rfl) (by kernel_rfl) fun hq => ?_
 have hb : BkOk bs := hq _ (by simp)
 have hh : inH h := hq _ (by simp)
 refine (Good.ret [] (run_vc EH_ok 1000 (vd_vc bs h (voidB bs h) (goodB bs h)) ?_ (fun s m h => h) fun _ _ h => h.elim)).mono fun _ _ h => h.1
 unfold vd_vc_1 vd_vc_0
 have hs := hb.sz
 obtain ⟨s1, s2⟩ := slotI_lt hh
 cases hg : goodB bs h with
 | false =>
  simp only [hs, hg, voidB, Bool.not_false, if_false, q6]
  exact ⟨hb, hh⟩
 | true =>
  have hi : (slotI h).toNat < 32 := by omega
  have hra := hb.ra _ hi
  by_cases c : ageAt bs (slotI h).toNat = 8388607
  ·have d : (intAt bs ((slotI h).toNat * 2) == 8388607) = true := by
    have c : intAt bs ((slotI h).toNat * 2) = 8388607 := c
    rw [c]; rfl
   have e : voidS bs (slotI h).toNat = bs.setIfInBounds ((slotI h).toNat * 2 + 1) (.int .u8 2) := by unfold voidS; rw [if_pos c]
   simp only [hs, hg, d, e, voidB, Nat.zero_add, set_size, Bool.not_true, if_true, q6]
   exact ⟨⟨hb, hh⟩, hh, ⟨s1, s2⟩, hb.a _ hi, ⟨s1, s2⟩, by omega⟩
  ·have d : (intAt bs ((slotI h).toNat * 2) == 8388607) = false := by
    have c : ¬ intAt bs ((slotI h).toNat * 2) = 8388607 := c
    simpa using c
   have e : voidS bs (slotI h).toNat = putAt bs ((slotI h).toNat * 2) [.int .u32 (ageAt bs (slotI h).toNat + 1), .int .u8 0] := by unfold voidS; rw [if_neg c]
   have ea : ari .add .u32 (intAt bs ((slotI h).toNat * 2)) 1 = ageAt bs (slotI h).toNat + 1 := by
    have hra' : 0 ≤ intAt bs ((slotI h).toNat * 2) ∧ intAt bs ((slotI h).toNat * 2) ≤ 8388607 := hra
    rw [ari_add, u32_in (by omega) (by omega)]; rfl
   have hz : (putAt bs ((slotI h).toNat * 2) [.int .u32 (ageAt bs (slotI h).toNat + 1), .int .u8 0]).size = 64 := by rw [(putAt2 (by omega)).1]; exact hs
   have hl : ∀ u v : Value, List.length [u, v] = 2 := fun _ _ => rfl
   simp only [hs, hg, d, e, ea, hz, hl, voidB, Nat.zero_add, Bool.not_true, if_true, q6]
   exact ⟨⟨hb, hh⟩, hh, ⟨s1, s2⟩, hb.a _ hi, ⟨s1, s2⟩, hb.a _ hi, ⟨s1, s2⟩, by omega⟩
theorem freeFrom_succ (k i : Nat) : freeFrom bs (k + 1) i = if kindAt bs i = 0 then some i else freeFrom bs k (i + 1) := rfl
theorem hI_ok (hb : BkOk bs) {zz : Array Value} (hz : zz.size = 64) : ∀ (k i : Nat), i + k = 32 → freeFrom bs k i = freeS bs → Good Tryd.prog (retOk 0 [] (bhbT (issueB bs) (issueI bs) (issueOk bs)) e0M) 0 (hI_F bs (i : Int) zz) (hI_M bs (i : Int) zz) := by
 have hs := hb.sz
 intro k
 induction k with
 | zero =>
  intro i hi hf
  refine past_vc EH_ok 1000 (is1 bs (i : Int) zz (issueB bs) (issueI bs) (issueOk bs) (fun _ _ => False)) ?_ (fun _ _ h => h) (fun fs m hb => hI_good (fun _ _ h => h.elim) hb)
  unfold is1_0
  have d : decide ((i : Int) < 32) = false := decide_eq_false (by omega)
  have e : freeS bs = none := hf.symm
  have e1 : issueB bs = bs := by unfold issueB; rw [e]
  have e2 : issueI bs = 0 := by unfold issueI; rw [e]
  have e3 : issueOk bs = false := by unfold issueOk; rw [e]; rfl
  simp only [d, e1, e2, e3, hs, hz, q6]
 | succ k ih =>
  intro i hi hf
  refine past_vc EH_ok 1000 (is1 bs (i : Int) zz (issueB bs) (issueI bs) (issueOk bs) (fun i' z' => i' = ((i + 1 : Nat) : Int) ∧ z' = zz ∧ kindAt bs i ≠ 0)) ?_ (fun _ _ h => h)
   (fun fs m hb => hI_good (fun i' z' ⟨h1, h2, h3⟩ => by rw [h1, h2]; exact ih (i + 1) (by omega) (by rw [← hf, freeFrom_succ, if_neg h3])) hb)
  unfold is1_0
  have d : decide ((i : Int) < 32) = true := decide_eq_true (by omega)
  have ei : ari .add .i64 (i : Int) 1 = ((i + 1 : Nat) : Int) := by rw [ari_add, i64_in' (by omega) (by omega)]; omega
  have hi32 : i < 32 := by omega
  by_cases c : kindAt bs i = 0
  ·have d1 : (intAt bs (i * 2 + 1) == 0) = true := by
    have c : intAt bs (i * 2 + 1) = 0 := c
    rw [c]; rfl
   have e : freeS bs = some i := by rw [← hf, freeFrom_succ, if_pos c]
   have e1 : issueB bs = bs.setIfInBounds (i * 2 + 1) (.int .u8 1) := by unfold issueB; rw [e]
   have e2 : issueI bs = nameI i (ageAt bs i) := by unfold issueI; rw [e]
   have e3 : issueOk bs = true := by unfold issueOk; rw [e]; rfl
   have ha : intAt (bs.setIfInBounds (i * 2 + 1) (.int .u8 1)) (i * 2) = ageAt bs i := by unfold ageAt intAt; rw [set_out (by omega)]
   have hia : IsInt .u32 (bs.setIfInBounds (i * 2 + 1) (.int .u8 1)) (i * 2) := by
    have := hb.a i hi32
    unfold IsInt intAt at this ⊢
    rw [set_out (by omega)]; exact this
   have en := nameI_run hi32 (hb.ra i hi32)
   simp only [d, d1, e1, e2, e3, hs, hz, ha, en, Nat.zero_add, Int.toNat_natCast, set_size, q6]
   exact ⟨by omega, hb.k i hi32, by omega, by omega, by omega, hia⟩
  ·have d1 : (intAt bs (i * 2 + 1) == 0) = false := by
    have c : ¬ intAt bs (i * 2 + 1) = 0 := c
    simpa using c
   simp only [d, d1, ei, Nat.zero_add, Int.toNat_natCast, hI_d0_ok, q6]
   exact ⟨by omega, hb.k i hi32, c⟩
theorem issue_con (m : SMem) : Con E0 70 [bkS bs] m (needs [BkOk bs] (.ret (bhbT (issueB bs) (issueI bs) (issueOk bs)) m)) := by
 refine Con.pure E0_ok (by kernel_rfl : E0.fn 70 = some Tryd.f70) (by kernel_rfl : Tryd.f70.body = some (Tryd.f70.body.getD .skip)) (by kernel_rfl) (by kernel_rfl) fun hq => ?_
 have hb : BkOk bs := hq _ (by simp)
 refine (Good.ret [] (run_vc EH_ok 1000 (is0_vc bs (fun i zz => i = ((0 : Nat) : Int) ∧ zz.size = 64)) ?_ (fun s m h => h.elim) fun fs m h => is0_go (fun i zz ⟨e1, e2⟩ => by rw [e1]; exact hI_ok hb e2 32 0 (by omega) rfl) h)).mono fun _ _ h => h.1
 unfold is0_vc_0
 simp only [and_true, true_and, hI_d0_ok, cNt]
 exact ⟨rfl, rfl⟩
def u32s (l : List Int) : Array Value := (l.map (Value.int .u32)).toArray
theorem u32s_size (l : List Int) : (u32s l).size = l.length := by unfold u32s; rw [List.size_toArray, List.length_map]
theorem u32s_app (l : List Int) (x : Int) : u32s (l ++ [x]) = u32s l ++ #[.int .u32 x] := by unfold u32s; simp
def issL (bs : Array Value) : Nat → List Int
 | 0 => []
 | i + 1 => if kindAt bs i = 1 then issL bs i ++ [nameI i (ageAt bs i)] else issL bs i
theorem issL_le : ∀ n, (issL bs n).length ≤ n
 | 0 => Nat.le_refl _
 | n + 1 => by
  have := issL_le n
  unfold issL
  split
  ·rw [List.length_append]; show _ + 1 ≤ _; omega
  ·omega
def issued (bs : Array Value) : List Int := issL bs 32
theorem at_i {i : Nat} (hi : i < 32) : atOk bs (i : Int) = decide (kindAt bs i = 1) ∧ (kindAt bs i = 1 → atI bs (i : Int) = nameI i (ageAt bs i)) := by
 have e : atOk bs (i : Int) = decide (kindAt bs i = 1) := by unfold atOk; rw [decide_eq_true (by omega), Bool.true_and, Int.toNat_natCast]
 refine ⟨e, fun h => ?_⟩
 unfold atI
 rw [e, decide_eq_true h, if_pos rfl, Int.toNat_natCast]
theorem issL_succ (i : Nat) : issL bs (i + 1) = if kindAt bs i = 1 then issL bs i ++ [nameI i (ageAt bs i)] else issL bs i := rfl
theorem issL_pre (bs : Array Value) {i j : Nat} (h : i ≤ j) (e : issL bs j = []) : issL bs i = [] := by
 induction j with
 | zero =>
  obtain rfl : i = 0 := by omega
  exact e
 | succ j ih =>
  by_cases c : i = j + 1
  ·rw [c]; exact e
  ·refine ih (by omega) ?_
   rw [issL_succ] at e
   split at e
   ·simp at e
   ·exact e
theorem hS_ok (hb : BkOk bs) : ∀ (k i : Nat), i + k = 32 → Good Tryd.prog (freshA (issued bs).length (u32s (issued bs)) 30) 0 (hS_F bs (i : Int) (issL bs i).length (u32s (issL bs i))) (hS_M bs (i : Int) (issL bs i).length (u32s (issL bs i))) := by
 have hs := hb.sz
 intro k
 induction k with
 | zero =>
  intro i hi
  obtain rfl : i = 32 := by omega
  refine past_vc EH_ok 1000 (idS_s bs ((32 : Nat) : Int) _ _ (issued bs).length (u32s (issued bs)) (fun _ _ _ => False)) ?_ (fun _ _ h => h) (fun fs m hb => hS_good (fun _ _ _ h => h.elim) hb)
  have d : decide (((32 : Nat) : Int) < 32) = false := rfl
  simp only [d, issued, q6]
 | succ k ih =>
  intro i hi
  refine past_vc EH_ok 1000 (idS_s bs (i : Int) _ _ (issued bs).length (u32s (issued bs)) (fun i' k' c' => i' = ((i + 1 : Nat) : Int) ∧ k' = (issL bs (i + 1)).length ∧ c' = u32s (issL bs (i + 1)))) ?_ (fun _ _ h => h)
   (fun fs m hb => hS_good (fun i' k' c' ⟨e1, e2, e3⟩ => by rw [e1, e2, e3]; exact ih (i + 1) (by omega)) hb)
  have d : decide ((i : Int) < 32) = true := decide_eq_true (by omega)
  have ei : ari .add .i64 (i : Int) 1 = ((i + 1 : Nat) : Int) := by rw [ari_add, i64_in' (by omega) (by omega)]; omega
  obtain ⟨a1, a2⟩ := at_i (bs := bs) (i := i) (by omega)
  have hle := issL_le (bs := bs) i
  by_cases c : kindAt bs i = 1
  ·simp only [d, ei, a1, a2 c, hs, c, decide_true, u32s_size, Nat.mul_one, issL_succ, if_true, List.length_append, List.length_cons, List.length_nil, u32s_app, hZ_d0_ok, hS_d0_ok, q6]
   exact ⟨hb, by omega⟩
  ·simp only [d, ei, a1, hs, c, decide_false, issL_succ, if_false, hZ_d0_ok, hS_d0_ok, q6]
   exact hb
theorem hZS_good {A : SV → SMem → Prop} {QZ : Int → Prop} {QS : Int → Nat → Array Value → Prop} {fs : List SFr} {m : SMem} (hz : ∀ i, QZ i → Good Tryd.prog A 0 (hZ_F bs i) (hZ_M bs i)) (hs : ∀ i k cs, QS i k cs → Good Tryd.prog A 0 (hS_F bs i k cs) (hS_M bs i k cs)) (hb : hZS bs QZ QS fs m) : Good Tryd.prog A 0 fs m := by
 unfold hZS at hb
 split at hb
 ·split at hb
  ·exact hS_good hs hb
  ·exact hZ_good hz hb
 ·exact hb.elim
theorem hZ_s (hb : BkOk bs) (hne : issued bs ≠ []) : ∀ (k i : Nat), i + k = 32 → issL bs i = [] → Good Tryd.prog (freshA (issued bs).length (u32s (issued bs)) 30) 0 (hZ_F bs (i : Int)) (hZ_M bs (i : Int)) := by
 have hs := hb.sz
 intro k
 induction k with
 | zero =>
  intro i hi he
  obtain rfl : i = 32 := by omega
  exact absurd he hne
 | succ k ih =>
  intro i hi he
  refine past_vc EH_ok 1000 (idZ_s bs (i : Int) (issued bs).length (u32s (issued bs)) (fun i' => i' = ((i + 1 : Nat) : Int) ∧ issL bs (i + 1) = []) (fun i' k' c' => i' = ((i + 1 : Nat) : Int) ∧ k' = (issL bs (i + 1)).length ∧ c' = u32s (issL bs (i + 1)))) ?_ (fun _ _ h => h)
   (fun fs m hb' => hZS_good (fun i' ⟨e1, e2⟩ => by rw [e1]; exact ih (i + 1) (by omega) e2) (fun i' k' c' ⟨e1, e2, e3⟩ => by rw [e1, e2, e3]; exact hS_ok hb k (i + 1) (by omega)) hb')
  have d : decide ((i : Int) < 32) = true := decide_eq_true (by omega)
  have ei : ari .add .i64 (i : Int) 1 = ((i + 1 : Nat) : Int) := by rw [ari_add, i64_in' (by omega) (by omega)]; omega
  obtain ⟨a1, a2⟩ := at_i (bs := bs) (i := i) (by omega)
  by_cases c : kindAt bs i = 1
  ·simp only [d, ei, a1, a2 c, hs, c, he, decide_true, issL_succ, if_true, List.nil_append, List.length_cons, List.length_nil, hZ_d0_ok, hS_d0_ok, q6]
   exact ⟨hb, rfl⟩
  ·simp only [d, ei, a1, hs, c, he, decide_false, issL_succ, if_false, hZ_d0_ok, hS_d0_ok, q6]
   exact hb
theorem hZ_nn (hb : BkOk bs) (hne : issued bs = []) : ∀ (k i : Nat), i + k = 32 → Good Tryd.prog nilA 0 (hZ_F bs (i : Int)) (hZ_M bs (i : Int)) := by
 have hs := hb.sz
 intro k
 induction k with
 | zero =>
  intro i hi
  obtain rfl : i = 32 := by omega
  refine past_vc EH_ok 1000 (idZ_n bs ((32 : Nat) : Int) (fun _ => False) (fun _ _ _ => False)) ?_ (fun _ _ h => h) (fun fs m hb => hZS_good (fun _ h => h.elim) (fun _ _ _ h => h.elim) hb)
  have d : decide (((32 : Nat) : Int) < 32) = false := rfl
  simp only [d, q6]
 | succ k ih =>
  intro i hi
  refine past_vc EH_ok 1000 (idZ_n bs (i : Int) (fun i' => i' = ((i + 1 : Nat) : Int)) (fun i' k' c' => False)) ?_ (fun _ _ h => h)
   (fun fs m hb' => hZS_good (fun i' e1 => by rw [e1]; exact ih (i + 1) (by omega)) (fun _ _ _ h => h.elim) hb')
  have d : decide ((i : Int) < 32) = true := decide_eq_true (by omega)
  have ei : ari .add .i64 (i : Int) 1 = ((i + 1 : Nat) : Int) := by rw [ari_add, i64_in' (by omega) (by omega)]; omega
  obtain ⟨a1, a2⟩ := at_i (bs := bs) (i := i) (by omega)
  have he := issL_pre bs (i := i + 1) (by omega) hne
  have c : ¬ kindAt bs i = 1 := by
   intro c
   rw [issL_succ, if_pos c] at he
   simp at he
  simp only [d, ei, a1, hs, c, decide_false, hZ_d0_ok, hS_d0_ok, q6]
  exact hb
theorem Con.two {E : Env} {g : FuncId} {l : List SV} {m : SMem} {b : Bool} {t e : Tree} (ht : b = true → Con E g l m t) (he : b = false → Con E g l m e) : Con E g l m (.br b t e) := by
 intro A hs
 cases hb : b with
 | true => exact ht hb A (hs.1 hb)
 | false => exact he hb A (hs.2 hb)
noncomputable def rowT (l : List Int) (ty : TypeId) (m : SMem) : Tree := .br (decide (l.length = 0)) (.ret (.s (.c (.f (.lit (.slice none 0 0))))) m) (.ret (.s (.c (.f (.slice m.next (.l 0) (.o l.length) (.full 1))))) (m.new (.pop (u32s l)) ty))
theorem issued_con (m : SMem) : Con E0 50 [bkS bs] m (.need [BkOk bs] (rowT (issued bs) 30 m)) := by
 refine Con.asked fun hq => ?_
 have hb : BkOk bs := hq _ (by simp)
 refine Con.two (fun h => ?_) (fun h => ?_)
 ·have he : issued bs = [] := List.eq_nil_of_length_eq_zero (of_decide_eq_true h)
  refine (show Con E0 50 [bkS bs] m (needs [] _) from Con.pure E0_ok (by kernel_rfl : E0.fn 50 = some Tryd.f50) (by kernel_rfl : Tryd.f50.body = some (Tryd.f50.body.getD .skip)) (by kernel_rfl) (by kernel_rfl) fun hq => ?_)
  refine (Good.ret (s0m := e0M) [] (run_vc EH_ok 1000 (id0_vc bs (fun i => i = ((0 : Nat) : Int))) ?_ (fun s m h => h.elim) fun fs m h => id0_go (fun i e => by rw [e]; exact hZ_nn hb he 32 0 (by omega)) h)).mono fun _ _ h => h.1
  simp only [and_true, true_and, hZ_d0_ok, cNt]
  rfl
 ·have he : issued bs ≠ [] := fun e => by
   have := of_decide_eq_false h
   rw [e] at this
   exact this rfl
  refine (show Con E0 50 [bkS bs] m (needs [] _) from Con.fresh E0_ok (by kernel_rfl : E0.fn 50 = some Tryd.f50) (by kernel_rfl : Tryd.f50.body = some (Tryd.f50.body.getD .skip)) (by kernel_rfl) rfl fun _ => ?_)
  refine Good.retX ((run_vc EH_ok 1000 (id0_vc bs (fun i => i = ((0 : Nat) : Int))) ?_ (fun s m h => h.elim) fun fs m h => id0_go (A := freshA (issued bs).length (u32s (issued bs)) 30) (fun i e => by rw [e]; exact hZ_s hb he 32 0 (by omega) rfl) h).mono fun s m h => ?_)
  ·simp only [and_true, true_and, hZ_d0_ok, cNt]
   rfl
  ·unfold freshA at h
   split at h
   ·exact ⟨_, h⟩
   ·exact h.elim
end
section
variable {bs : Array Value}
theorem goodB_iff (hb : BkOk bs) {h : Int} : goodB bs h = true ↔ ∃ i : Nat, i < 32 ∧ kindAt bs i = 1 ∧ h = nameI i (ageAt bs i) := by
 unfold goodB slotI slotOk nameI
 constructor
 ·intro hg
  simp only [Bool.and_eq_true, decide_eq_true_eq] at hg
  obtain ⟨h1, h2, h3⟩ := hg
  rw [if_pos h1] at h2 h3
  exact ⟨((h - 1) % 256).toNat, by omega, h3, by rw [h2]; omega⟩
 ·rintro ⟨i, hi, hk, rfl⟩
  have hr := hb.ra i hi
  have e1 : (256 * ageAt bs i + i + 1 - 1) % 256 = i := by omega
  have e2 : (256 * ageAt bs i + i + 1 - 1) / 256 = ageAt bs i := by omega
  simp only [Bool.and_eq_true, decide_eq_true_eq]
  have h1 : 256 * ageAt bs i + i + 1 ≠ 0 ∧ (256 * ageAt bs i + i + 1 - 1) % 256 < 32 ∧ (256 * ageAt bs i + i + 1 - 1) / 256 ≤ 8388607 := ⟨by omega, by omega, by omega⟩
  refine ⟨h1, ?_⟩
  rw [if_pos h1, e1, Int.toNat_natCast, e2]
  exact ⟨rfl, hk⟩
theorem goodB_in (hb : BkOk bs) {h : Int} (hg : goodB bs h = true) : inH h ∧ 1 ≤ h := by
 obtain ⟨i, hi, _, rfl⟩ := (goodB_iff hb).1 hg
 have := hb.ra i hi
 unfold inH nameI
 omega
theorem name_inj {i j : Nat} {a b : Int} (hi : i < 32) (hj : j < 32) (h : nameI i a = nameI j b) : i = j ∧ a = b := by
 unfold nameI at h
 omega
theorem issL_mem (hb : BkOk bs) {h : Int} : ∀ {n : Nat}, h ∈ issL bs n ↔ ∃ i : Nat, i < n ∧ kindAt bs i = 1 ∧ h = nameI i (ageAt bs i)
 | 0 => ⟨fun h => (by cases h), fun ⟨_, h, _⟩ => (by omega)⟩
 | n + 1 => by
  rw [issL_succ]
  split
  ·rename_i hk
   rw [List.mem_append, issL_mem hb, List.mem_singleton]
   constructor
   ·rintro (⟨i, h1, h2, h3⟩ | h)
    ·exact ⟨i, by omega, h2, h3⟩
    ·exact ⟨n, by omega, hk, h⟩
   ·rintro ⟨i, h1, h2, h3⟩
    by_cases e : i = n
    ·rw [e] at h3; exact .inr h3
    ·exact .inl ⟨i, by omega, h2, h3⟩
  ·rename_i hk
   rw [issL_mem hb]
   constructor
   ·rintro ⟨i, h1, h2, h3⟩; exact ⟨i, by omega, h2, h3⟩
   ·rintro ⟨i, h1, h2, h3⟩
    by_cases e : i = n
    ·rw [e] at h2; exact absurd h2 hk
    ·exact ⟨i, by omega, h2, h3⟩
theorem issued_mem (hb : BkOk bs) {h : Int} : h ∈ issued bs ↔ goodB bs h = true := by
 rw [goodB_iff hb]; exact issL_mem hb
theorem issL_nodup (hb : BkOk bs) : ∀ {n : Nat}, n ≤ 32 → (issL bs n).Nodup
 | 0, _ => List.nodup_nil
 | n + 1, hn => by
  rw [issL_succ]
  split
  ·rw [List.nodup_append]
   refine ⟨issL_nodup hb (by omega), by simp, fun a ha b hb' => ?_⟩
   obtain ⟨i, h1, _, h3⟩ := (issL_mem hb).1 ha
   rw [List.mem_singleton] at hb'
   intro e
   rw [h3, hb'] at e
   have := (name_inj (by omega) (by omega) e).1
   omega
  ·exact issL_nodup hb (by omega)
theorem issued_nodup (hb : BkOk bs) : (issued bs).Nodup := issL_nodup hb (Nat.le_refl _)
theorem freeFrom_some : ∀ {k i j : Nat}, freeFrom bs k i = some j → i ≤ j ∧ j < i + k ∧ kindAt bs j = 0
 | 0, _, _, h => by cases h
 | k + 1, i, j, h => by
  rw [freeFrom_succ] at h
  split at h
  ·rename_i hk; cases h; exact ⟨Nat.le_refl _, by omega, hk⟩
  ·obtain ⟨h1, h2, h3⟩ := freeFrom_some h; exact ⟨by omega, by omega, h3⟩
theorem freeS_some {j : Nat} (h : freeS bs = some j) : j < 32 ∧ kindAt bs j = 0 := by
 obtain ⟨_, h2, h3⟩ := freeFrom_some (bs := bs) (k := 32) (i := 0) h
 exact ⟨by omega, h3⟩
theorem kind_set {i j : Nat} {x : Int} {k : IntKind} (hs : bs.size = 64) (hi : i < 32) : kindAt (bs.setIfInBounds (i * 2 + 1) (.int k x)) j = if j = i then x else kindAt bs j := by
 unfold kindAt intAt
 by_cases e : j = i
 ·rw [if_pos e, e, set_in (by omega)]
 ·rw [if_neg e, set_out (by omega)]
theorem age_set {i j : Nat} {v : Value} : ageAt (bs.setIfInBounds (i * 2 + 1) v) j = ageAt bs j := by
 unfold ageAt intAt
 rw [set_out (by omega)]
theorem bk_set (hb : BkOk bs) {i : Nat} {x : Int} (hx : 0 ≤ x ∧ x ≤ 2) (hi : i < 32) : BkOk (bs.setIfInBounds (i * 2 + 1) (.int .u8 x)) := by
 have hs := hb.sz
 refine ⟨by rw [set_size]; exact hs, fun j hj => ?_, fun j hj => ?_, fun j hj => by rw [age_set]; exact hb.ra j hj, fun j hj => ?_⟩
 ·have := hb.a j hj
  unfold IsInt intAt at this ⊢
  rw [set_out (by omega)]; exact this
 ·by_cases e : j = i
  ·rw [e]; exact isI_of (set_in (by omega))
  ·have := hb.k j hj
   unfold IsInt intAt at this ⊢
   rw [set_out (by omega)]; exact this
 ·rw [kind_set hs hi]
  split
  ·exact hx
  ·exact hb.rk j hj
theorem issue_cases : (freeS bs = none ∧ issueB bs = bs ∧ issueI bs = 0 ∧ issueOk bs = false) ∨ ∃ i, i < 32 ∧ kindAt bs i = 0 ∧ issueB bs = bs.setIfInBounds (i * 2 + 1) (.int .u8 1) ∧ issueI bs = nameI i (ageAt bs i) ∧ issueOk bs = true ∧ freeS bs = some i := by
 unfold issueB issueI issueOk
 cases h : freeS bs with
 | none => exact .inl ⟨rfl, rfl, rfl, rfl⟩
 | some i =>
  obtain ⟨h1, h2⟩ := freeS_some h
  exact .inr ⟨i, h1, h2, rfl, rfl, rfl, rfl⟩
theorem issue_bk (hb : BkOk bs) : BkOk (issueB bs) := by
 rcases issue_cases (bs := bs) with ⟨_, e, _⟩ | ⟨i, h1, _, e, _⟩
 ·rw [e]; exact hb
 ·rw [e]; exact bk_set hb (by omega) h1
theorem issue_good (hb : BkOk bs) (h : Int) : goodB (issueB bs) h = (goodB bs h || (issueOk bs && decide (h = issueI bs))) := by
 rcases issue_cases (bs := bs) with ⟨_, e1, _, e3⟩ | ⟨i, h1, h2, e1, e2, e3, _⟩
 ·rw [e1, e3]; simp
 ·rw [e1, e2, e3, Bool.eq_iff_iff, goodB_iff (bk_set hb (by omega) h1), Bool.or_eq_true, goodB_iff hb, Bool.true_and, decide_eq_true_eq]
  simp only [kind_set hb.sz h1, age_set]
  constructor
  ·rintro ⟨j, hj, hk, e⟩
   by_cases c : j = i
   ·rw [c] at e; exact .inr e
   ·rw [if_neg c] at hk; exact .inl ⟨j, hj, hk, e⟩
  ·rintro (⟨j, hj, hk, e⟩ | e)
   ·refine ⟨j, hj, ?_, e⟩
    rw [if_neg (fun c => by rw [c] at hk; omega)]; exact hk
   ·exact ⟨i, h1, by rw [if_pos rfl], e⟩
theorem void_kind (hs : bs.size = 64) {i j : Nat} (hi : i < 32) : kindAt (voidS bs i) j = if j = i then (if ageAt bs i = 8388607 then 2 else 0) else kindAt bs j := by
 unfold voidS
 by_cases c : ageAt bs i = 8388607
 ·rw [if_pos c, kind_set hs hi, if_pos c]
 ·rw [if_neg c, if_neg c]
  unfold kindAt intAt
  obtain ⟨_, _, h2, h3⟩ := putAt2 (cs := bs) (p := i * 2) (u := .int .u32 (ageAt bs i + 1)) (v := .int .u8 0) (by omega)
  by_cases e : j = i
  ·rw [if_pos e, e, h2]
  ·rw [if_neg e, h3 _ (by omega) (by omega)]
theorem void_age (hs : bs.size = 64) {i j : Nat} (hi : i < 32) : ageAt (voidS bs i) j = if j = i then (if ageAt bs i = 8388607 then ageAt bs i else ageAt bs i + 1) else ageAt bs j := by
 unfold voidS
 by_cases c : ageAt bs i = 8388607
 ·rw [if_pos c, age_set, if_pos c]
  split
  ·rename_i e; rw [e]
  ·rfl
 ·rw [if_neg c, if_neg c]
  obtain ⟨_, h1, _, h3⟩ := putAt2 (cs := bs) (p := i * 2) (u := .int .u32 (ageAt bs i + 1)) (v := .int .u8 0) (by omega)
  by_cases e : j = i
  ·rw [if_pos e, e]
   show intAt _ _ = _
   unfold intAt
   rw [h1]
  ·rw [if_neg e]
   show intAt _ _ = intAt _ _
   unfold intAt
   rw [h3 _ (by omega) (by omega)]
theorem voidS_bk (hb : BkOk bs) {i : Nat} (hi : i < 32) : BkOk (voidS bs i) := by
 have hs := hb.sz
 by_cases c : ageAt bs i = 8388607
 ·have e : voidS bs i = bs.setIfInBounds (i * 2 + 1) (.int .u8 2) := by unfold voidS; rw [if_pos c]
  rw [e]; exact bk_set hb (by omega) hi
 ·have e : voidS bs i = putAt bs (i * 2) [.int .u32 (ageAt bs i + 1), .int .u8 0] := by unfold voidS; rw [if_neg c]
  obtain ⟨_, h1, h2, h3⟩ := putAt2 (cs := bs) (p := i * 2) (u := .int .u32 (ageAt bs i + 1)) (v := .int .u8 0) (by omega)
  have hra := hb.ra i hi
  refine ⟨voidS_size hb hi, fun j hj => ?_, fun j hj => ?_, fun j hj => ?_, fun j hj => ?_⟩
  ·rw [e]
   by_cases k : j = i
   ·rw [k]; exact isI_of h1
   ·have := hb.a j hj
    unfold IsInt intAt at this ⊢
    rw [h3 _ (by omega) (by omega)]; exact this
  ·rw [e]
   by_cases k : j = i
   ·rw [k]; exact isI_of h2
   ·have := hb.k j hj
    unfold IsInt intAt at this ⊢
    rw [h3 _ (by omega) (by omega)]; exact this
  ·rw [void_age hs hi, if_neg c]
   split
   ·omega
   ·exact hb.ra j hj
  ·rw [void_kind hs hi, if_neg c]
   split
   ·omega
   ·exact hb.rk j hj
theorem slotI_name {i : Nat} {a : Int} (hi : i < 32) (ha : 0 ≤ a ∧ a ≤ 8388607) : (slotI (nameI i a)).toNat = i := by
 unfold slotI slotOk nameI
 rw [if_pos (by rw [decide_eq_true_eq]; omega)]
 omega
theorem void_cases (hb : BkOk bs) (x : Int) : (goodB bs x = false ∧ voidB bs x = bs) ∨ ∃ i, i < 32 ∧ kindAt bs i = 1 ∧ x = nameI i (ageAt bs i) ∧ goodB bs x = true ∧ voidB bs x = voidS bs i := by
 unfold voidB
 cases hg : goodB bs x with
 | false => exact .inl ⟨rfl, rfl⟩
 | true =>
  obtain ⟨i, hi, hk, e⟩ := (goodB_iff hb).1 hg
  refine .inr ⟨i, hi, hk, e, rfl, ?_⟩
  rw [if_pos rfl, e, slotI_name hi (hb.ra i hi)]
theorem void_bk (hb : BkOk bs) (x : Int) : BkOk (voidB bs x) := by
 rcases void_cases hb x with ⟨_, e⟩ | ⟨i, hi, _, _, _, e⟩
 ·rw [e]; exact hb
 ·rw [e]; exact voidS_bk hb hi
theorem void_good (hb : BkOk bs) (x h : Int) : goodB (voidB bs x) h = (goodB bs h && !decide (h = x)) := by
 rcases void_cases hb x with ⟨hg, e⟩ | ⟨i, hi, hk, ex, hg, e⟩
 ·rw [e]
  by_cases c : h = x
  ·rw [c, hg]; rfl
  ·rw [decide_eq_false c]; simp
 ·rw [e, Bool.eq_iff_iff, goodB_iff (voidS_bk hb hi), Bool.and_eq_true, goodB_iff hb, Bool.not_eq_true', decide_eq_false_iff_not]
  have hs := hb.sz
  constructor
  ·rintro ⟨j, hj, hk', e'⟩
   rw [void_kind hs hi] at hk'
   by_cases c : j = i
   ·rw [if_pos c] at hk'
    split at hk' <;> omega
   ·rw [if_neg c] at hk'
    rw [void_age hs hi, if_neg c] at e'
    refine ⟨⟨j, hj, hk', e'⟩, fun e2 => ?_⟩
    rw [e2, ex] at e'
    exact c (name_inj hj hi e'.symm).1
  ·rintro ⟨⟨j, hj, hk', e'⟩, hne⟩
   have c : j ≠ i := fun c => hne (by rw [e', ex, c])
   exact ⟨j, hj, by rw [void_kind hs hi, if_neg c]; exact hk', by rw [void_age hs hi, if_neg c]; exact e'⟩
def usedB (bs : Array Value) (h : Int) : Prop := ∃ (i : Nat) (a : Int), i < 32 ∧ 0 ≤ a ∧ h = nameI i a ∧ (a < ageAt bs i ∨ (a = ageAt bs i ∧ kindAt bs i ≠ 0))
theorem used_issue (hb : BkOk bs) {h : Int} (hu : usedB bs h) : usedB (issueB bs) h := by
 rcases issue_cases (bs := bs) with ⟨_, e, _⟩ | ⟨i, h1, _, e, _⟩
 ·rw [e]; exact hu
 ·obtain ⟨j, a, hj, ha, rfl, hc⟩ := hu
  refine ⟨j, a, hj, ha, rfl, ?_⟩
  rw [e, age_set, kind_set hb.sz h1]
  rcases hc with hc | ⟨h2, h3⟩
  ·exact .inl hc
  ·refine .inr ⟨h2, ?_⟩
   split
   ·omega
   ·exact h3
theorem used_new (hb : BkOk bs) (ho : issueOk bs = true) : usedB (issueB bs) (issueI bs) ∧ ¬ usedB bs (issueI bs) := by
 rcases issue_cases (bs := bs) with ⟨_, _, _, e3⟩ | ⟨i, h1, h2, e1, e2, e3, _⟩
 ·rw [ho] at e3; cases e3
 ·have hr := hb.ra i h1
  refine ⟨⟨i, ageAt bs i, h1, hr.1, e2, .inr ⟨by rw [e1, age_set], by rw [e1, kind_set hb.sz h1, if_pos rfl]; omega⟩⟩, ?_⟩
  rintro ⟨j, a, hj, ha, e, hc⟩
  rw [e2] at e
  obtain ⟨rfl, rfl⟩ := name_inj h1 hj e
  rcases hc with hc | ⟨_, hc⟩
  ·omega
  ·exact hc h2
theorem used_void (hb : BkOk bs) {x h : Int} (hu : usedB bs h) : usedB (voidB bs x) h := by
 rcases void_cases hb x with ⟨_, e⟩ | ⟨i, hi, hk, ex, _, e⟩
 ·rw [e]; exact hu
 ·obtain ⟨j, a, hj, ha, rfl, hc⟩ := hu
  refine ⟨j, a, hj, ha, rfl, ?_⟩
  rw [e, void_age hb.sz hi, void_kind hb.sz hi]
  by_cases c : j = i
  ·rw [if_pos c, if_pos c]
   subst c
   by_cases d : ageAt bs j = 8388607
   ·rw [if_pos d, if_pos d]
    rcases hc with hc | ⟨h2, _⟩
    ·exact .inl hc
    ·exact .inr ⟨h2, by omega⟩
   ·rw [if_neg d, if_neg d]
    rcases hc with hc | ⟨h2, _⟩
    ·exact .inl (by omega)
    ·exact .inl (by omega)
  ·rw [if_neg c, if_neg c]; exact hc
end
set_option linter.unusedVariables false
noncomputable def zT : Array Value := ((List.replicate 32 [Value.int .u32 0, Value.int .u8 0]).flatten ++ (List.replicate 32 [Value.int .u32 0, Value.int .i64 0, Value.slice none 0 0, Value.int .i64 0, Value.int .u32 0, Value.int .u32 0, Value.int .u32 0, Value.int .u32 0, Value.int .u32 0, Value.int .u32 0, Value.int .u32 0, Value.int .u32 0]).flatten).toArray
theorem zT_sz : zT.size = 448 := by kernel_rfl
def bkB (ts : Array Value) : Array Value := ts.extract 0 64
noncomputable def tbS (ts : Array Value) : SV := .s (.agg (.op ts))
structure RgOk (ts : Array Value) (p : Nat) : Prop where
 u : IsInt .u32 ts p
 q : IsInt .i64 ts (p + 1)
 r : IsNil ts (p + 2)
 l : IsInt .i64 ts (p + 3)
 c : ∀ k, k < 8 → IsInt .u32 ts (p + 4 + k)
 hu : inH (intAt ts p)
 hq : 0 ≤ intAt ts (p + 1) ∧ intAt ts (p + 1) ≤ 64
 hl : intAt ts (p + 3) = 0
 hc : ∀ k, k < 8 → inH (intAt ts (p + 4 + k))
structure TbOk (ts : Array Value) : Prop where
 sz : ts.size = 448
 bk : BkOk (bkB ts)
 rg : ∀ i, i < 32 → RgOk ts (64 + i * 12)
noncomputable def conT0 (g : FuncId) (l : List SV) (m : SMem) : Option Tree := match g, l with
 | 52, [.s (.c (.f (.int .u32 h)))] => some (.need [inH h.den] (.ret (ibT (slotI h.den) (slotOk h.den)) m))
 | 23, [.s (.agg (.op bs)), .s (.c (.f (.int .u32 h)))] => some (.need [BkOk bs, inH h.den] (.ret (sB (.o (goodB bs h.den))) m))
 | 71, [.s (.agg (.op bs)), .s (.c (.f (.int .i64 i)))] => some (.need [BkOk bs] (.ret (hbT (atI bs i.den) (atOk bs i.den)) m))
 | 66, [.s (.agg (.op bs)), .s (.c (.f (.int .u32 h)))] => some (.need [BkOk bs, inH h.den] (.ret (bbT (voidB bs h.den) (goodB bs h.den)) m))
 | 70, [.s (.agg (.op bs))] => some (.need [BkOk bs] (.ret (bhbT (issueB bs) (issueI bs) (issueOk bs)) m))
 | 50, [.s (.agg (.op bs))] => some (.need [BkOk bs] (rowT (issued bs) 30 m))
 | _, _ => none
noncomputable def ET0 : Env := ⟨Tryd.prog, fnOf, conT0, haltAt []⟩
noncomputable def rgS (o : Array Value) (e : Int) : SV := .tup [.agg (.op o), .c (.f (.int .i64 (.o e)))]
set_option maxRecDepth 100000
theorem tg0 (ts : Array Value) (h : Int) (o : Array Value) (e : Int) : (run ET0 1000 0 [callFr 25 Tryd.f25.ntmps [tbS ts, u32 h] (Tryd.f25.body.getD .skip)] e0M).vc (retOk 0 [] (rgS o e) e0M) (fun _ _ => False) =
  ((64 ≤ Array.size ts ∧ True) ∧ (BkOk (Array.extract ts 0 64) ∧ (0 ≤ h ∧ h < 4294967296) ∧ True) ∧ ((!goodB (Array.extract ts 0 64) h) = true → o = #[Value.int .u32 0, Value.int .i64 0, Value.slice none 0 0, Value.int .i64 0, Value.int .u32 0, Value.int .u32 0, Value.int .u32 0, Value.int .u32 0, Value.int .u32 0, Value.int .u32 0, Value.int .u32 0, Value.int .u32 0] ∧ e = 4 ∧ True) ∧ ((!goodB (Array.extract ts 0 64) h) = false → ((0 ≤ h ∧ h < 4294967296) ∧ True) ∧ ((0 ≤ slotI h ∧ slotI h < 32) ∧ True) ∧ (IsInt .u32 ts (64 + Int.toNat (slotI h) * 12) ∧ IsInt .i64 ts (64 + Int.toNat (slotI h) * 12 + 1) ∧ ts[64 + Int.toNat (slotI h) * 12 + 2]? = some (Value.slice none 0 0) ∧ IsInt .i64 ts (64 + Int.toNat (slotI h) * 12 + 3) ∧ IsInt .u32 ts (64 + Int.toNat (slotI h) * 12 + 4) ∧ IsInt .u32 ts (64 + Int.toNat (slotI h) * 12 + 5) ∧ IsInt .u32 ts (64 + Int.toNat (slotI h) * 12 + 6) ∧ IsInt .u32 ts (64 + Int.toNat (slotI h) * 12 + 7) ∧ IsInt .u32 ts (64 + Int.toNat (slotI h) * 12 + 8) ∧ IsInt .u32 ts (64 + Int.toNat (slotI h) * 12 + 9) ∧ IsInt .u32 ts (64 + Int.toNat (slotI h) * 12 + 10) ∧ IsInt .u32 ts (64 + Int.toNat (slotI h) * 12 + 11) ∧ True) ∧ ((0 ≤ h ∧ h < 4294967296) ∧ True) ∧ ((0 ≤ slotI h ∧ slotI h < 32) ∧ True) ∧ (IsInt .u32 ts (64 + Int.toNat (slotI h) * 12) ∧ True) ∧ (64 ≤ Array.size ts ∧ True) ∧ (BkOk (Array.extract ts 0 64) ∧ (0 ≤ intAt ts (64 + Int.toNat (slotI h) * 12) ∧ intAt ts (64 + Int.toNat (slotI h) * 12) < 4294967296) ∧ True) ∧ (goodB (Array.extract ts 0 64) (intAt ts (64 + Int.toNat (slotI h) * 12)) = true → o = #[Value.int .u32 (intAt ts (64 + Int.toNat (slotI h) * 12)), Value.int .i64 (intAt ts (64 + Int.toNat (slotI h) * 12 + 1)), Value.slice none 0 0, Value.int .i64 (intAt ts (64 + Int.toNat (slotI h) * 12 + 3)), Value.int .u32 (intAt ts (64 + Int.toNat (slotI h) * 12 + 4)), Value.int .u32 (intAt ts (64 + Int.toNat (slotI h) * 12 + 5)), Value.int .u32 (intAt ts (64 + Int.toNat (slotI h) * 12 + 6)), Value.int .u32 (intAt ts (64 + Int.toNat (slotI h) * 12 + 7)), Value.int .u32 (intAt ts (64 + Int.toNat (slotI h) * 12 + 8)), Value.int .u32 (intAt ts (64 + Int.toNat (slotI h) * 12 + 9)), Value.int .u32 (intAt ts (64 + Int.toNat (slotI h) * 12 + 10)), Value.int .u32 (intAt ts (64 + Int.toNat (slotI h) * 12 + 11))] ∧ e = 0 ∧ True) ∧ (goodB (Array.extract ts 0 64) (intAt ts (64 + Int.toNat (slotI h) * 12)) = false → o = #[Value.int .u32 0, Value.int .i64 (intAt ts (64 + Int.toNat (slotI h) * 12 + 1)), Value.slice none 0 0, Value.int .i64 (intAt ts (64 + Int.toNat (slotI h) * 12 + 3)), Value.int .u32 (intAt ts (64 + Int.toNat (slotI h) * 12 + 4)), Value.int .u32 (intAt ts (64 + Int.toNat (slotI h) * 12 + 5)), Value.int .u32 (intAt ts (64 + Int.toNat (slotI h) * 12 + 6)), Value.int .u32 (intAt ts (64 + Int.toNat (slotI h) * 12 + 7)), Value.int .u32 (intAt ts (64 + Int.toNat (slotI h) * 12 + 8)), Value.int .u32 (intAt ts (64 + Int.toNat (slotI h) * 12 + 9)), Value.int .u32 (intAt ts (64 + Int.toNat (slotI h) * 12 + 10)), Value.int .u32 (intAt ts (64 + Int.toNat (slotI h) * 12 + 11))] ∧ e = 0 ∧ True))) := by kernel_rfl
noncomputable def tt0_0 (ts : Array Value) (h : Int) (rr : Array Value) : Array Value := Array.setIfInBounds (Array.setIfInBounds rr 0 (Value.int .u32 (intAt ts (64 + Int.toNat (slotI h) * 12)))) (2 : Nat) (Value.slice none 0 0)
noncomputable def tt0_1 (ts : Array Value) (h : Int) (rr : Array Value) : List Value := [Value.int .u32 (intAt (tt0_0 ts h rr) 0), Value.int .i64 (intAt (tt0_0 ts h rr) 1), Value.slice none 0 0, Value.int .i64 (intAt (tt0_0 ts h rr) 3), Value.int .u32 (intAt (tt0_0 ts h rr) 4), Value.int .u32 (intAt (tt0_0 ts h rr) 5), Value.int .u32 (intAt (tt0_0 ts h rr) 6), Value.int .u32 (intAt (tt0_0 ts h rr) 7), Value.int .u32 (intAt (tt0_0 ts h rr) 8), Value.int .u32 (intAt (tt0_0 ts h rr) 9), Value.int .u32 (intAt (tt0_0 ts h rr) 10), Value.int .u32 (intAt (tt0_0 ts h rr) 11)]
noncomputable def tt0_2 (ts : Array Value) : Prop := Array.size ts = 448 ∧ Array.size ts = 448 ∧ True
theorem tt0 (ts : Array Value) (h : Int) (rr o : Array Value) (e : Int) : (run ET0 1000 0 [callFr 26 Tryd.f26.ntmps [tbS ts, u32 h, tbS rr] (Tryd.f26.body.getD .skip)] e0M).vc (retOk 0 [] (rgS o e) e0M) (fun _ _ => False) =
  ((64 ≤ Array.size ts ∧ True) ∧ (BkOk (Array.extract ts 0 64) ∧ (0 ≤ h ∧ h < 4294967296) ∧ True) ∧ ((!goodB (Array.extract ts 0 64) h) = true → (Array.size ts = 448 ∧ True) ∧ (tt0_2 ts) ∧ (Array.size ts = 448 ∧ True) ∧ o = ts ∧ e = 4 ∧ True) ∧ ((!goodB (Array.extract ts 0 64) h) = false → (IsInt .i64 rr 1 ∧ True) ∧ ((decide (intAt rr 1 ≥ 0) == true) = true → (((!decide (intAt rr 1 ≤ 64)) == false) = true → (rr[(2 : Nat)]? = some (Value.slice none 0 0) ∧ IsInt .i64 rr 3 ∧ True) ∧ ((decide (intAt rr 3 ≥ 0) == true) = true → ((!decide (intAt rr 3 ≤ 0)) = true → (Array.size ts = 448 ∧ True) ∧ (tt0_2 ts) ∧ (Array.size ts = 448 ∧ True) ∧ o = ts ∧ e = 2 ∧ True) ∧ ((!decide (intAt rr 3 ≤ 0)) = false → ((0 ≤ h ∧ h < 4294967296) ∧ True) ∧ ((0 ≤ slotI h ∧ slotI h < 32) ∧ True) ∧ (IsInt .u32 ts (64 + Int.toNat (slotI h) * 12) ∧ True) ∧ (0 < Array.size rr ∧ True) ∧ ((Array.setIfInBounds rr 0 (Value.int .u32 (intAt ts (64 + Int.toNat (slotI h) * 12))))[(2 : Nat)]? = some (Value.slice none 0 0) ∧ True) ∧ (2 < Array.size (Array.setIfInBounds rr 0 (Value.int .u32 (intAt ts (64 + Int.toNat (slotI h) * 12)))) ∧ True) ∧ ((0 ≤ h ∧ h < 4294967296) ∧ True) ∧ ((0 ≤ slotI h ∧ slotI h < 32) ∧ True) ∧ (IsInt .u32 (tt0_0 ts h rr) 0 ∧ IsInt .i64 (tt0_0 ts h rr) 1 ∧ (tt0_0 ts h rr)[(2 : Nat)]? = some (Value.slice none 0 0) ∧ IsInt .i64 (tt0_0 ts h rr) 3 ∧ IsInt .u32 (tt0_0 ts h rr) 4 ∧ IsInt .u32 (tt0_0 ts h rr) 5 ∧ IsInt .u32 (tt0_0 ts h rr) 6 ∧ IsInt .u32 (tt0_0 ts h rr) 7 ∧ IsInt .u32 (tt0_0 ts h rr) 8 ∧ IsInt .u32 (tt0_0 ts h rr) 9 ∧ IsInt .u32 (tt0_0 ts h rr) 10 ∧ IsInt .u32 (tt0_0 ts h rr) 11 ∧ True) ∧ (64 + Int.toNat (slotI h) * 12 + List.length (tt0_1 ts h rr) ≤ Array.size ts ∧ True) ∧ (Array.size (putAt ts (64 + Int.toNat (slotI h) * 12) (tt0_1 ts h rr)) = 448 ∧ True) ∧ (Array.size (putAt ts (64 + Int.toNat (slotI h) * 12) (tt0_1 ts h rr)) = 448 ∧ Array.size (putAt ts (64 + Int.toNat (slotI h) * 12) (tt0_1 ts h rr)) = 448 ∧ True) ∧ (Array.size (putAt ts (64 + Int.toNat (slotI h) * 12) (tt0_1 ts h rr)) = 448 ∧ True) ∧ o = putAt ts (64 + Int.toNat (slotI h) * 12) (tt0_1 ts h rr) ∧ e = 0 ∧ True)) ∧ ((decide (intAt rr 3 ≥ 0) == true) = false → (Array.size ts = 448 ∧ True) ∧ (tt0_2 ts) ∧ (Array.size ts = 448 ∧ True) ∧ o = ts ∧ e = 2 ∧ True)) ∧ (((!decide (intAt rr 1 ≤ 64)) == false) = false → (Array.size ts = 448 ∧ True) ∧ (tt0_2 ts) ∧ (Array.size ts = 448 ∧ True) ∧ o = ts ∧ e = 2 ∧ True)) ∧ ((decide (intAt rr 1 ≥ 0) == true) = false → (Array.size ts = 448 ∧ True) ∧ (tt0_2 ts) ∧ (Array.size ts = 448 ∧ True) ∧ o = ts ∧ e = 2 ∧ True))) := by kernel_rfl
noncomputable def td0_0 : List Value := [Value.int .u32 0, Value.int .i64 0, Value.slice none 0 0, Value.int .i64 0, Value.int .u32 0, Value.int .u32 0, Value.int .u32 0, Value.int .u32 0, Value.int .u32 0, Value.int .u32 0, Value.int .u32 0, Value.int .u32 0]
noncomputable def td0_1 (ts : Array Value) (h : Int) : Array Value := putAt (putAt ts 0 (Array.toList (voidB (Array.extract ts 0 64) h))) (64 + Int.toNat (slotI h) * 12) (td0_0)
noncomputable def td0_2 (ts : Array Value) : Array Value := Array.extract ts 0 64
theorem td0 (ts : Array Value) (h : Int) (o : Array Value) (e : Int) : (run ET0 1000 0 [callFr 42 Tryd.f42.ntmps [tbS ts, u32 h] (Tryd.f42.body.getD .skip)] e0M).vc (retOk 0 [] (rgS o e) e0M) (fun _ _ => False) =
  ((64 ≤ Array.size ts ∧ True) ∧ (BkOk (td0_2 ts) ∧ (0 ≤ h ∧ h < 4294967296) ∧ True) ∧ (Array.size (voidB (td0_2 ts) h) = 64 ∧ Array.size (voidB (td0_2 ts) h) = 64 ∧ True) ∧ ((!goodB (td0_2 ts) h) = true → (Array.size ts = 448 ∧ True) ∧ (Array.size ts = 448 ∧ Array.size ts = 448 ∧ True) ∧ (Array.size ts = 448 ∧ True) ∧ o = ts ∧ e = 4 ∧ True) ∧ ((!goodB (td0_2 ts) h) = false → (Array.size (voidB (td0_2 ts) h) = 64 ∧ True) ∧ (Array.size (voidB (td0_2 ts) h) = 64 ∧ 0 + Array.size (voidB (td0_2 ts) h) ≤ Array.size ts ∧ True) ∧ ((0 ≤ h ∧ h < 4294967296) ∧ True) ∧ ((0 ≤ slotI h ∧ slotI h < 32) ∧ True) ∧ (64 + Int.toNat (slotI h) * 12 + 12 ≤ Array.size (putAt ts 0 (Array.toList (voidB (td0_2 ts) h))) ∧ True) ∧ (Array.size (td0_1 ts h) = 448 ∧ True) ∧ (Array.size (td0_1 ts h) = 448 ∧ Array.size (td0_1 ts h) = 448 ∧ True) ∧ (Array.size (td0_1 ts h) = 448 ∧ True) ∧ o = putAt (putAt ts 0 (Array.toList (voidB (td0_2 ts) h))) (64 + Int.toNat (slotI h) * 12) (td0_0) ∧ e = 0 ∧ True)) := by kernel_rfl
noncomputable def tn0_0 (ts : Array Value) (h : Int) (q : Int) (o : Array Value) (k : Int) (e : Int) : Prop := (decide (q ≥ 0) == true) = true → ((!decide (q ≤ 64)) = true → (Array.size ts = 448 ∧ True) ∧ (Array.size ts = 448 ∧ Array.size ts = 448 ∧ True) ∧ (Array.size ts = 448 ∧ True) ∧ o = ts ∧ k = 0 ∧ e = 2 ∧ True) ∧ ((!decide (q ≤ 64)) = false → (64 ≤ Array.size ts ∧ True) ∧ (BkOk (Array.extract ts 0 64) ∧ True) ∧ (Array.size (issueB (Array.extract ts 0 64)) = 64 ∧ Array.size (issueB (Array.extract ts 0 64)) = 64 ∧ True) ∧ ((!issueOk (Array.extract ts 0 64)) = true → (Array.size ts = 448 ∧ True) ∧ (Array.size ts = 448 ∧ Array.size ts = 448 ∧ True) ∧ (Array.size ts = 448 ∧ True) ∧ o = ts ∧ k = 0 ∧ e = 7 ∧ True) ∧ ((!issueOk (Array.extract ts 0 64)) = false → (Array.size (issueB (Array.extract ts 0 64)) = 64 ∧ True) ∧ (Array.size (issueB (Array.extract ts 0 64)) = 64 ∧ 0 + Array.size (issueB (Array.extract ts 0 64)) ≤ Array.size ts ∧ True) ∧ ((0 ≤ issueI (Array.extract ts 0 64) ∧ issueI (Array.extract ts 0 64) < 4294967296) ∧ True) ∧ ((0 ≤ slotI (issueI (Array.extract ts 0 64)) ∧ slotI (issueI (Array.extract ts 0 64)) < 32) ∧ True) ∧ (64 + Int.toNat (slotI (issueI (Array.extract ts 0 64))) * 12 + List.length [Value.int .u32 h, Value.int .i64 q, Value.slice none 0 0, Value.int .i64 0, Value.int .u32 0, Value.int .u32 0, Value.int .u32 0, Value.int .u32 0, Value.int .u32 0, Value.int .u32 0, Value.int .u32 0, Value.int .u32 0] ≤ Array.size (putAt ts 0 (Array.toList (issueB (Array.extract ts 0 64)))) ∧ True) ∧ (Array.size (putAt (putAt ts 0 (Array.toList (issueB (Array.extract ts 0 64)))) (64 + Int.toNat (slotI (issueI (Array.extract ts 0 64))) * 12) [Value.int .u32 h, Value.int .i64 q, Value.slice none 0 0, Value.int .i64 0, Value.int .u32 0, Value.int .u32 0, Value.int .u32 0, Value.int .u32 0, Value.int .u32 0, Value.int .u32 0, Value.int .u32 0, Value.int .u32 0]) = 448 ∧ True) ∧ (Array.size (putAt (putAt ts 0 (Array.toList (issueB (Array.extract ts 0 64)))) (64 + Int.toNat (slotI (issueI (Array.extract ts 0 64))) * 12) [Value.int .u32 h, Value.int .i64 q, Value.slice none 0 0, Value.int .i64 0, Value.int .u32 0, Value.int .u32 0, Value.int .u32 0, Value.int .u32 0, Value.int .u32 0, Value.int .u32 0, Value.int .u32 0, Value.int .u32 0]) = 448 ∧ Array.size (putAt (putAt ts 0 (Array.toList (issueB (Array.extract ts 0 64)))) (64 + Int.toNat (slotI (issueI (Array.extract ts 0 64))) * 12) [Value.int .u32 h, Value.int .i64 q, Value.slice none 0 0, Value.int .i64 0, Value.int .u32 0, Value.int .u32 0, Value.int .u32 0, Value.int .u32 0, Value.int .u32 0, Value.int .u32 0, Value.int .u32 0, Value.int .u32 0]) = 448 ∧ True) ∧ (Array.size (putAt (putAt ts 0 (Array.toList (issueB (Array.extract ts 0 64)))) (64 + Int.toNat (slotI (issueI (Array.extract ts 0 64))) * 12) [Value.int .u32 h, Value.int .i64 q, Value.slice none 0 0, Value.int .i64 0, Value.int .u32 0, Value.int .u32 0, Value.int .u32 0, Value.int .u32 0, Value.int .u32 0, Value.int .u32 0, Value.int .u32 0, Value.int .u32 0]) = 448 ∧ True) ∧ o = putAt (putAt ts 0 (Array.toList (issueB (Array.extract ts 0 64)))) (64 + Int.toNat (slotI (issueI (Array.extract ts 0 64))) * 12) [Value.int .u32 h, Value.int .i64 q, Value.slice none 0 0, Value.int .i64 0, Value.int .u32 0, Value.int .u32 0, Value.int .u32 0, Value.int .u32 0, Value.int .u32 0, Value.int .u32 0, Value.int .u32 0, Value.int .u32 0] ∧ k = issueI (Array.extract ts 0 64) ∧ e = 0 ∧ True))
theorem tn0 (ts : Array Value) (h q : Int) (o : Array Value) (k e : Int) : (run ET0 1000 0 [callFr 49 Tryd.f49.ntmps [tbS ts, u32 h, i64 (.o q)] (Tryd.f49.body.getD .skip)] e0M).vc (retOk 0 [] (.tup [.agg (.op o), .c (.f (.int .u32 (.o k))), .c (.f (.int .i64 (.o e)))]) e0M) (fun _ _ => False) =
  ((((h != 0) == true) = true → (64 ≤ Array.size ts ∧ True) ∧ (BkOk (Array.extract ts 0 64) ∧ (0 ≤ h ∧ h < 4294967296) ∧ True) ∧ ((!goodB (Array.extract ts 0 64) h) = true → (Array.size ts = 448 ∧ True) ∧ (Array.size ts = 448 ∧ Array.size ts = 448 ∧ True) ∧ (Array.size ts = 448 ∧ True) ∧ o = ts ∧ k = 0 ∧ e = 4 ∧ True) ∧ ((!goodB (Array.extract ts 0 64) h) = false → (tn0_0 ts h q o k e) ∧ ((decide (q ≥ 0) == true) = false → (Array.size ts = 448 ∧ True) ∧ (Array.size ts = 448 ∧ Array.size ts = 448 ∧ True) ∧ (Array.size ts = 448 ∧ True) ∧ o = ts ∧ k = 0 ∧ e = 2 ∧ True))) ∧ (((h != 0) == true) = false → (tn0_0 ts h q o k e) ∧ ((decide (q ≥ 0) == true) = false → (Array.size ts = 448 ∧ True) ∧ (Array.size ts = 448 ∧ Array.size ts = 448 ∧ True) ∧ (Array.size ts = 448 ∧ True) ∧ o = ts ∧ k = 0 ∧ e = 2 ∧ True))) := by kernel_rfl
set_option linter.unusedVariables false
theorem conT0_ok : ∀ g l m t, conT0 g l m = some t → Con E0 g l m t := by
 intro g l m t h
 unfold conT0 at h
 split at h
 ·rename_i x; cases h
  refine Con.asked fun hq => Con.args (l' := [u32 x.den]) (fun R vs ha => by
   match vs, ha with
   | [v], ha => exact ⟨ha.1, trivial⟩) ?_
  intro A hs
  exact slot_con x.den m A ⟨fun p hp => hq p hp, hs⟩
 ·rename_i bs x; cases h
  exact Con.n1 (good_con x.den m)
 ·rename_i bs x; cases h
  exact Con.n1 (at_con x.den m)
 ·rename_i bs x; cases h
  exact Con.n1 (void_con x.den m)
 ·rename_i bs; cases h
  refine Con.asked fun hq => ?_
  intro A hs
  exact issue_con m A ⟨fun p hp => hq p hp, hs⟩
 ·rename_i bs; cases h
  exact issued_con m
 ·cases h
theorem ET0_ok : EnvOk ET0 := EnvOk.with E0_ok _ _ conT0_ok
section
variable {ts rr : Array Value} {h : Int}
def sl (h : Int) : Nat := (slotI h).toNat
def pl (h : Int) : Nat := 64 + sl h * 12
def gdF (ts : Array Value) (h : Int) : Bool := goodB (bkB ts) h
def upR (ts : Array Value) (h : Int) : Int := intAt ts (pl h)
def upF (ts : Array Value) (h : Int) : Int := if gdF ts h = true then (if gdF ts (upR ts h) = true then upR ts h else 0) else 0
def quF (ts : Array Value) (h : Int) : Int := intAt ts (pl h + 1)
def ceF (ts : Array Value) (h : Int) (k : Nat) : Int := intAt ts (pl h + 4 + k)
def rgA (u q n : Int) (c : Nat → Int) : Array Value := #[.int .u32 u, .int .i64 q, .slice none 0 0, .int .i64 n, .int .u32 (c 0), .int .u32 (c 1), .int .u32 (c 2), .int .u32 (c 3), .int .u32 (c 4), .int .u32 (c 5), .int .u32 (c 6), .int .u32 (c 7)]
def getA (ts : Array Value) (h : Int) : Array Value := if gdF ts h = true then rgA (upF ts h) (quF ts h) 0 (ceF ts h) else rgA 0 0 0 fun _ => 0
def getX5 (ts : Array Value) (h : Int) : Int := if gdF ts h = true then 0 else 4
theorem good_f (hb : TbOk ts) (hg : gdF ts h = true) : 0 ≤ slotI h ∧ slotI h < 32 ∧ sl h < 32 ∧ kindAt (bkB ts) (sl h) = 1 ∧ h = nameI (sl h) (ageAt (bkB ts) (sl h)) ∧ inH h ∧ 1 ≤ h := by
 obtain ⟨i, hi, hk, e⟩ := (goodB_iff hb.bk).1 hg
 obtain ⟨g1, g2⟩ := goodB_in hb.bk hg
 have es : sl h = i := by rw [e]; exact slotI_name hi (hb.bk.ra i hi)
 have := slotI_lt g1
 exact ⟨this.1, by unfold sl at es; omega, by omega, by rw [es]; exact hk, by rw [es]; exact e, g1, g2⟩
theorem bk_f (ts : Array Value) : ts.extract 0 64 = bkB ts := rfl
theorem get_con (h : Int) (m : SMem) : Con E0 25 [tbS ts, u32 h] m (needs [TbOk ts, inH h] (.ret (rgS (getA ts h) (getX5 ts h)) m)) := by
 refine Con.pure E0_ok (by kernel_rfl : E0.fn 25 = some Tryd.f25) (by kernel_rfl : Tryd.f25.body = some (Tryd.f25.body.getD .skip)) (by kernel_rfl) (by kernel_rfl) fun hq => ?_
 have hb : TbOk ts := hq _ (by simp)
 have hh : inH h := hq _ (by simp)
 have hh' : 0 ≤ h ∧ h < 4294967296 := hh
 refine (Good.ret [] (run_vc ET0_ok 1000 (tg0 ts h (getA ts h) (getX5 ts h)) ?_ (fun s m h => h) fun _ _ h => h.elim)).mono fun _ _ h => h.1
 have hs := hb.sz
 have hle : 64 ≤ ts.size := by omega
 have h64 : (64 : Nat) ≤ 448 := by decide
 have hbk : BkOk (bkB ts) := hb.bk
 cases hg : gdF ts h with
 | false =>
  have hg' : goodB (bkB ts) h = false := hg
  have e1 : getA ts h = rgA 0 0 0 fun _ => 0 := by unfold getA; rw [hg]; rfl
  have e2 : getX5 ts h = 4 := by unfold getX5; rw [hg]; rfl
  simp only [bk_f, hg', e1, e2, hle, hbk, hh', Bool.not_false, q6]
  rfl
 | true =>
  have hg' : goodB (bkB ts) h = true := hg
  obtain ⟨s1, s2, s3, s4, s5, s6, s7⟩ := good_f hb hg
  have r := hb.rg _ s3
  have es : (slotI h).toNat = sl h := rfl
  have t0 : IsInt .u32 ts (64 + sl h * 12) := r.u
  have t1 : IsInt .i64 ts (64 + sl h * 12 + 1) := r.q
  have t2 : ts[64 + sl h * 12 + 2]? = some (.slice none 0 0) := r.r
  have t3 : IsInt .i64 ts (64 + sl h * 12 + 3) := r.l
  have t4 : IsInt .u32 ts (64 + sl h * 12 + 4) := r.c 0 (by decide)
  have t5 : IsInt .u32 ts (64 + sl h * 12 + 5) := r.c 1 (by decide)
  have t6 : IsInt .u32 ts (64 + sl h * 12 + 6) := r.c 2 (by decide)
  have t7 : IsInt .u32 ts (64 + sl h * 12 + 7) := r.c 3 (by decide)
  have t8 : IsInt .u32 ts (64 + sl h * 12 + 8) := r.c 4 (by decide)
  have t9 : IsInt .u32 ts (64 + sl h * 12 + 9) := r.c 5 (by decide)
  have t10 : IsInt .u32 ts (64 + sl h * 12 + 10) := r.c 6 (by decide)
  have t11 : IsInt .u32 ts (64 + sl h * 12 + 11) := r.c 7 (by decide)
  have hu : 0 ≤ intAt ts (64 + sl h * 12) ∧ intAt ts (64 + sl h * 12) < 4294967296 := r.hu
  have e2 : getX5 ts h = 0 := by unfold getX5; rw [hg]; rfl
  have e1 : getA ts h = rgA (upF ts h) (quF ts h) 0 (ceF ts h) := by unfold getA; rw [hg]; rfl
  have hl := r.hl
  cases hp : goodB (bkB ts) (intAt ts (64 + sl h * 12)) with
  | true =>
   have eu : upF ts h = intAt ts (64 + sl h * 12) := by unfold upF; rw [hg, if_pos rfl]; exact if_pos hp
   simp only [bk_f, hg', e1, e2, eu, es, hp, hle, hbk, hh', hu, s1, s2, t0, t1, t2, t3, t4, t5, t6, t7, t8, t9, t10, t11, hl, Bool.not_true, q6]
   rfl
  | false =>
   have eu : upF ts h = 0 := by unfold upF; rw [hg, if_pos rfl]; exact if_neg (fun k => by have k : goodB (bkB ts) (intAt ts (64 + sl h * 12)) = true := k; rw [hp] at k; cases k)
   simp only [bk_f, hg', e1, e2, eu, es, hp, hle, hbk, hh', hu, s1, s2, t0, t1, t2, t3, t4, t5, t6, t7, t8, t9, t10, t11, hl, Bool.not_true, q6]
   rfl
theorem put_bk {bs : Array Value} (hs : ts.size = 448) (hz : bs.size = 64) : (putAt ts 0 bs.toList).size = 448 ∧ bkB (putAt ts 0 bs.toList) = bs ∧ ∀ k, 64 ≤ k → (putAt ts 0 bs.toList)[k]? = ts[k]? := by
 have hl : bs.toList.length = 64 := by simpa using hz
 have h1 : (putAt ts 0 bs.toList).size = 448 := by rw [putAt_size (by omega)]; exact hs
 refine ⟨h1, ?_, fun k hk => putAt_out (by omega) (by omega)⟩
 apply Array.ext_getElem?
 intro j
 unfold bkB
 by_cases c : j < 64
 ·rw [ext_get (by omega) (by omega), putAt_in (by omega) (by omega) (by omega), Array.getElem?_toList]
  congr 1
  omega
 ·rw [Array.getElem?_eq_none (by rw [ext_size (by omega)]; omega), Array.getElem?_eq_none (by omega)]
theorem put_rg (hs : ts.size = 448) {q : Nat} (hq : q < 32) {l : List Value} (hl : l.length = 12) : (putAt ts (64 + q * 12) l).size = 448 ∧ bkB (putAt ts (64 + q * 12) l) = bkB ts ∧ ∀ i j, i < 32 → j < 12 → (putAt ts (64 + q * 12) l)[64 + i * 12 + j]? = if i = q then l[j]? else ts[64 + i * 12 + j]? := by
 have h1 : (putAt ts (64 + q * 12) l).size = 448 := by rw [putAt_size (by omega)]; exact hs
 refine ⟨h1, ?_, fun i j hi hj => ?_⟩
 ·apply Array.ext_getElem?
  intro j
  unfold bkB
  by_cases c : j < 64
  ·rw [ext_get (by omega) (by omega), ext_get (by omega) (by omega), putAt_out (by omega) (by omega)]
  ·rw [Array.getElem?_eq_none (by rw [ext_size (by omega)]; omega), Array.getElem?_eq_none (by rw [ext_size (by omega)]; omega)]
 ·by_cases e : i = q
  ·rw [if_pos e, e, putAt_in (by omega) (by omega) (by omega)]
   congr 1
   omega
  ·rw [if_neg e, putAt_out (by omega) (by omega)]
theorem rg_same {us : Array Value} {p q : Nat} (hr : RgOk ts p) (hc : ∀ k, k < 12 → us[q + k]? = ts[p + k]?) : RgOk us q := by
 have c0 : us[q]? = ts[p]? := hc 0 (by decide)
 have i0 : intAt us q = intAt ts p := by unfold intAt; rw [c0]
 have ik : ∀ k, k < 12 → intAt us (q + k) = intAt ts (p + k) := fun k hk => by unfold intAt; rw [hc k hk]
 refine ⟨?_, ?_, ?_, ?_, fun k hk => ?_, ?_, ?_, ?_, fun k hk => ?_⟩
 ·have := hr.u
  unfold IsInt at *
  rw [i0, c0]; exact this
 ·have := hr.q
  unfold IsInt at *
  rw [ik 1 (by decide), hc 1 (by decide)]; exact this
 ·have := hr.r
  unfold IsNil at *
  rw [hc 2 (by decide)]; exact this
 ·have := hr.l
  unfold IsInt at *
  rw [ik 3 (by decide), hc 3 (by decide)]; exact this
 ·have := hr.c k hk
  unfold IsInt at *
  rw [Nat.add_assoc] at *
  rw [ik (4 + k) (by omega), hc (4 + k) (by omega)]; exact this
 ·rw [i0]; exact hr.hu
 ·rw [ik 1 (by decide)]; exact hr.hq
 ·rw [ik 3 (by decide)]; exact hr.hl
 ·have := hr.hc k hk
  rw [Nat.add_assoc] at *
  rw [ik (4 + k) (by omega)]; exact this
theorem rg_new {us : Array Value} {p : Nat} {u q : Int} {c : Nat → Int} (hc : ∀ k, k < 12 → us[p + k]? = (rgA u q 0 c)[k]?) (hu : inH u) (hq : 0 ≤ q ∧ q ≤ 64) (hi : ∀ k, k < 8 → inH (c k)) : RgOk us p ∧ intAt us p = u ∧ intAt us (p + 1) = q ∧ ∀ k, k < 8 → intAt us (p + 4 + k) = c k := by
 have c0 : us[p]? = some (.int .u32 u) := hc 0 (by decide)
 have c1 : us[p + 1]? = some (.int .i64 q) := hc 1 (by decide)
 have c2 : us[p + 2]? = some (.slice none 0 0) := hc 2 (by decide)
 have c3 : us[p + 3]? = some (.int .i64 0) := hc 3 (by decide)
 have ck : ∀ k, k < 8 → us[p + 4 + k]? = some (.int .u32 (c k)) := fun k hk => by
  rw [Nat.add_assoc, hc (4 + k) (by omega)]
  match k, hk with
  | 0, _ | 1, _ | 2, _ | 3, _ | 4, _ | 5, _ | 6, _ | 7, _ => rfl
 exact ⟨⟨isI_of c0, isI_of c1, c2, isI_of c3, fun k hk => isI_of (ck k hk), by rw [intAt_of c0]; exact hu, by rw [intAt_of c1]; exact hq, intAt_of c3, fun k hk => by rw [intAt_of (ck k hk)]; exact hi k hk⟩, intAt_of c0, intAt_of c1, fun k hk => intAt_of (ck k hk)⟩
def setT (ts : Array Value) (h : Int) (rr : Array Value) : Array Value := if gdF ts h = true then putAt ts (pl h) (rgA (upR ts h) (intAt rr 1) 0 fun k => intAt rr (4 + k)).toList else ts
theorem set_con (h : Int) (m : SMem) : Con E0 26 [tbS ts, u32 h, tbS rr] m (needs [TbOk ts, inH h, rr.size = 12, RgOk rr 0] (.ret (rgS (setT ts h rr) (getX5 ts h)) m)) := by
 refine Con.pure E0_ok (by kernel_rfl : E0.fn 26 = some Tryd.f26) (by kernel_rfl : Tryd.f26.body = some (Tryd.f26.body.getD .skip)) (by kernel_rfl) (by kernel_rfl) fun hq => ?_
 have hb : TbOk ts := hq _ (by simp)
 have hh : inH h := hq _ (by simp)
 have hr12 : rr.size = 12 := hq (rr.size = 12) (List.mem_cons_of_mem _ (List.mem_cons_of_mem _ (List.mem_cons_self ..)))
 have rk : RgOk rr 0 := hq _ (by simp)
 have hh' : 0 ≤ h ∧ h < 4294967296 := hh
 refine (Good.ret [] (run_vc ET0_ok 1000 (tt0 ts h rr (setT ts h rr) (getX5 ts h)) ?_ (fun s m h => h) fun _ _ h => h.elim)).mono fun _ _ h => h.1
 unfold tt0_2 tt0_1 tt0_0
 have hs := hb.sz
 have h64 : (64 : Nat) ≤ 448 := by decide
 have hbk : BkOk (bkB ts) := hb.bk
 cases hg : gdF ts h with
 | false =>
  have hg' : goodB (bkB ts) h = false := hg
  have e1 : setT ts h rr = ts := by unfold setT; rw [hg]; rfl
  have e2 : getX5 ts h = 4 := by unfold getX5; rw [hg]; rfl
  simp only [bk_f, hg', e1, e2, hs, h64, hbk, hh', Bool.not_false, q6]
 | true =>
  have hg' : goodB (bkB ts) h = true := hg
  obtain ⟨s1, s2, s3, s4, s5, s6, s7⟩ := good_f hb hg
  have r := hb.rg _ s3
  have es : (slotI h).toNat = sl h := rfl
  have e1 : setT ts h rr = putAt ts (64 + sl h * 12) (rgA (upR ts h) (intAt rr 1) 0 fun k => intAt rr (4 + k)).toList := by unfold setT; rw [hg]; rfl
  have e2 : getX5 ts h = 0 := by unfold getX5; rw [hg]; rfl
  have t0 : IsInt .u32 ts (64 + sl h * 12) := r.u
  have q1 : IsInt .i64 rr 1 := rk.q
  have q3 : IsInt .i64 rr 3 := rk.l
  have n2 : rr[2]? = some (.slice none 0 0) := rk.r
  have l3 : intAt rr 3 = 0 := rk.hl
  have hq1 : 0 ≤ intAt rr 1 := rk.hq.1
  have hq2 : intAt rr 1 ≤ 64 := rk.hq.2
  have d1 : decide (intAt rr 1 ≥ 0) = true := decide_eq_true hq1
  have d2 : decide (intAt rr 1 ≤ 64) = true := decide_eq_true hq2
  have d3 : decide ((0 : Int) ≥ 0) = true := rfl
  have d4 : decide ((0 : Int) ≤ 0) = true := rfl
  have y1 : (0 : Nat) < 12 := by decide
  have y2 : (2 : Nat) < 12 := by decide
  have eu : intAt ts (64 + sl h * 12) = upR ts h := rfl
  have z : ∀ j, j ≠ 0 → j ≠ 2 → ((rr.setIfInBounds 0 (.int .u32 (upR ts h))).setIfInBounds 2 (.slice none 0 0))[j]? = rr[j]? := fun j k1 k2 => by rw [set_out k2, set_out k1]
  have z2 : (rr.setIfInBounds 0 (.int .u32 (upR ts h)))[2]? = some (.slice none 0 0) := by rw [set_out (by decide)]; exact n2
  have z3 : ((rr.setIfInBounds 0 (.int .u32 (upR ts h))).setIfInBounds 2 (.slice none 0 0))[2]? = some (.slice none 0 0) := set_in (by rw [set_size]; omega)
  have z0 : ((rr.setIfInBounds 0 (.int .u32 (upR ts h))).setIfInBounds 2 (.slice none 0 0))[0]? = some (.int .u32 (upR ts h)) := by rw [set_out (by decide)]; exact set_in (by omega)
  have y0 : IsInt .u32 ((rr.setIfInBounds 0 (.int .u32 (upR ts h))).setIfInBounds 2 (.slice none 0 0)) 0 := isI_of z0
  have j0 : intAt ((rr.setIfInBounds 0 (.int .u32 (upR ts h))).setIfInBounds 2 (.slice none 0 0)) 0 = upR ts h := intAt_of z0
  have zi : ∀ k j, j ≠ 0 → j ≠ 2 → IsInt k rr j → IsInt k ((rr.setIfInBounds 0 (.int .u32 (upR ts h))).setIfInBounds 2 (.slice none 0 0)) j := fun k j k1 k2 hi => by
   unfold IsInt intAt at *
   rw [z j k1 k2]; exact hi
  have zn : ∀ j, j ≠ 0 → j ≠ 2 → intAt ((rr.setIfInBounds 0 (.int .u32 (upR ts h))).setIfInBounds 2 (.slice none 0 0)) j = intAt rr j := fun j k1 k2 => by
   unfold intAt
   rw [z j k1 k2]
  have y31 : IsInt .i64 ((rr.setIfInBounds 0 (.int .u32 (upR ts h))).setIfInBounds 2 (.slice none 0 0)) 1 := zi _ 1 (by decide) (by decide) (rk.q)
  have j31 : intAt ((rr.setIfInBounds 0 (.int .u32 (upR ts h))).setIfInBounds 2 (.slice none 0 0)) 1 = intAt rr 1 := zn 1 (by decide) (by decide)
  have y03 : IsInt .i64 ((rr.setIfInBounds 0 (.int .u32 (upR ts h))).setIfInBounds 2 (.slice none 0 0)) 3 := zi _ 3 (by decide) (by decide) (rk.l)
  have j03 : intAt ((rr.setIfInBounds 0 (.int .u32 (upR ts h))).setIfInBounds 2 (.slice none 0 0)) 3 = intAt rr 3 := zn 3 (by decide) (by decide)
  have y04 : IsInt .u32 ((rr.setIfInBounds 0 (.int .u32 (upR ts h))).setIfInBounds 2 (.slice none 0 0)) 4 := zi _ 4 (by decide) (by decide) (rk.c 0 (by decide))
  have j04 : intAt ((rr.setIfInBounds 0 (.int .u32 (upR ts h))).setIfInBounds 2 (.slice none 0 0)) 4 = intAt rr 4 := zn 4 (by decide) (by decide)
  have y05 : IsInt .u32 ((rr.setIfInBounds 0 (.int .u32 (upR ts h))).setIfInBounds 2 (.slice none 0 0)) 5 := zi _ 5 (by decide) (by decide) (rk.c 1 (by decide))
  have j05 : intAt ((rr.setIfInBounds 0 (.int .u32 (upR ts h))).setIfInBounds 2 (.slice none 0 0)) 5 = intAt rr 5 := zn 5 (by decide) (by decide)
  have y06 : IsInt .u32 ((rr.setIfInBounds 0 (.int .u32 (upR ts h))).setIfInBounds 2 (.slice none 0 0)) 6 := zi _ 6 (by decide) (by decide) (rk.c 2 (by decide))
  have j06 : intAt ((rr.setIfInBounds 0 (.int .u32 (upR ts h))).setIfInBounds 2 (.slice none 0 0)) 6 = intAt rr 6 := zn 6 (by decide) (by decide)
  have y07 : IsInt .u32 ((rr.setIfInBounds 0 (.int .u32 (upR ts h))).setIfInBounds 2 (.slice none 0 0)) 7 := zi _ 7 (by decide) (by decide) (rk.c 3 (by decide))
  have j07 : intAt ((rr.setIfInBounds 0 (.int .u32 (upR ts h))).setIfInBounds 2 (.slice none 0 0)) 7 = intAt rr 7 := zn 7 (by decide) (by decide)
  have y08 : IsInt .u32 ((rr.setIfInBounds 0 (.int .u32 (upR ts h))).setIfInBounds 2 (.slice none 0 0)) 8 := zi _ 8 (by decide) (by decide) (rk.c 4 (by decide))
  have j08 : intAt ((rr.setIfInBounds 0 (.int .u32 (upR ts h))).setIfInBounds 2 (.slice none 0 0)) 8 = intAt rr 8 := zn 8 (by decide) (by decide)
  have y09 : IsInt .u32 ((rr.setIfInBounds 0 (.int .u32 (upR ts h))).setIfInBounds 2 (.slice none 0 0)) 9 := zi _ 9 (by decide) (by decide) (rk.c 5 (by decide))
  have j09 : intAt ((rr.setIfInBounds 0 (.int .u32 (upR ts h))).setIfInBounds 2 (.slice none 0 0)) 9 = intAt rr 9 := zn 9 (by decide) (by decide)
  have y010 : IsInt .u32 ((rr.setIfInBounds 0 (.int .u32 (upR ts h))).setIfInBounds 2 (.slice none 0 0)) 10 := zi _ 10 (by decide) (by decide) (rk.c 6 (by decide))
  have j010 : intAt ((rr.setIfInBounds 0 (.int .u32 (upR ts h))).setIfInBounds 2 (.slice none 0 0)) 10 = intAt rr 10 := zn 10 (by decide) (by decide)
  have y011 : IsInt .u32 ((rr.setIfInBounds 0 (.int .u32 (upR ts h))).setIfInBounds 2 (.slice none 0 0)) 11 := zi _ 11 (by decide) (by decide) (rk.c 7 (by decide))
  have j011 : intAt ((rr.setIfInBounds 0 (.int .u32 (upR ts h))).setIfInBounds 2 (.slice none 0 0)) 11 = intAt rr 11 := zn 11 (by decide) (by decide)
  have hp := put_rg (l := (rgA (upR ts h) (intAt rr 1) 0 fun k => intAt rr (4 + k)).toList) hs s3 rfl
  have ps : (putAt ts (64 + sl h * 12) [Value.int .u32 (upR ts h), Value.int .i64 (intAt rr 1), Value.slice none 0 0, Value.int .i64 0, Value.int .u32 (intAt rr 4), Value.int .u32 (intAt rr 5), Value.int .u32 (intAt rr 6), Value.int .u32 (intAt rr 7), Value.int .u32 (intAt rr 8), Value.int .u32 (intAt rr 9), Value.int .u32 (intAt rr 10), Value.int .u32 (intAt rr 11)]).size = 448 := hp.1
  have pl12 : 64 + sl h * 12 + 12 ≤ 448 := by omega
  simp only [bk_f, hg', e1, e2, es, eu, hs, h64, hbk, hh', s1, s2, t0, q1, q3, n2, l3, d1, d2, d3, d4, y1, y2, hr12, set_size, z2, z3, y0, j0, y31, j31, y03, j03, y04, j04, y05, j05, y06, j06, y07, j07, y08, j08, y09, j09, y010, j010, y011, j011, List.length_cons, List.length_nil, Nat.zero_add, pl12, ps, q8, q6]
  rfl
end
section
variable {ts : Array Value} {h : Int}
def z12 : List Value := (rgA 0 0 0 fun _ => 0).toList
def drT (ts : Array Value) (h : Int) : Array Value := putAt (putAt ts 0 (voidB (bkB ts) h).toList) (pl h) z12
def dropT (ts : Array Value) (h : Int) : Array Value := if gdF ts h = true then drT ts h else ts
theorem dr_size (hb : TbOk ts) (hg : gdF ts h = true) : (drT ts h).size = 448 := by
 have hv := (void_bk hb.bk h).sz
 exact (put_rg (put_bk hb.sz hv).1 (good_f hb hg).2.2.1 rfl).1
theorem drop_con (h : Int) (m : SMem) : Con E0 42 [tbS ts, u32 h] m (needs [TbOk ts, inH h] (.ret (rgS (dropT ts h) (getX5 ts h)) m)) := by
 refine Con.pure E0_ok (by kernel_rfl : E0.fn 42 = some Tryd.f42) (by kernel_rfl : Tryd.f42.body = some (Tryd.f42.body.getD .skip)) (by kernel_rfl) (by kernel_rfl) fun hq => ?_
 have hb : TbOk ts := hq _ (by simp)
 have hh : inH h := hq _ (by simp)
 have hh' : 0 ≤ h ∧ h < 4294967296 := hh
 refine (Good.ret [] (run_vc ET0_ok 1000 (td0 ts h (dropT ts h) (getX5 ts h)) ?_ (fun s m h => h) fun _ _ h => h.elim)).mono fun _ _ h => h.1
 unfold td0_2 td0_1 td0_0
 have hs := hb.sz
 have h64 : (64 : Nat) ≤ 448 := by decide
 have hbk : BkOk (bkB ts) := hb.bk
 have hv := (void_bk hb.bk h).sz
 cases hg : gdF ts h with
 | false =>
  have hg' : goodB (bkB ts) h = false := hg
  have e1 : dropT ts h = ts := by unfold dropT; rw [hg]; rfl
  have e2 : getX5 ts h = 4 := by unfold getX5; rw [hg]; rfl
  simp only [bk_f, hg', e1, e2, hs, h64, hbk, hh', hv, Bool.not_false, q6]
 | true =>
  have hg' : goodB (bkB ts) h = true := hg
  obtain ⟨s1, s2, s3, s4, s5, s6, s7⟩ := good_f hb hg
  have es : (slotI h).toNat = sl h := rfl
  have e1 : dropT ts h = drT ts h := by unfold dropT; rw [hg]; rfl
  have e2 : getX5 ts h = 0 := by unfold getX5; rw [hg]; rfl
  have e3 : putAt (putAt ts 0 (voidB (bkB ts) h).toList) (64 + sl h * 12) [Value.int .u32 0, Value.int .i64 0, Value.slice none 0 0, Value.int .i64 0, Value.int .u32 0, Value.int .u32 0, Value.int .u32 0, Value.int .u32 0, Value.int .u32 0, Value.int .u32 0, Value.int .u32 0, Value.int .u32 0] = drT ts h := rfl
  have p1 := (put_bk (bs := voidB (bkB ts) h) hs hv).1
  have p2 := dr_size hb hg
  have y : 64 + sl h * 12 + 12 ≤ 448 := by omega
  simp only [bk_f, hg', e1, e2, e3, es, hs, h64, hbk, hh', s1, s2, hv, p1, p2, y, Nat.zero_add, Bool.not_true, q6]
def nwT (ts : Array Value) (u q : Int) : Array Value := putAt (putAt ts 0 (issueB (bkB ts)).toList) (pl (issueI (bkB ts))) (rgA u q 0 fun _ => 0).toList
def newE (ts : Array Value) (u q : Int) : Int := if u ≠ 0 ∧ gdF ts u = false then 4 else if 0 ≤ q ∧ q ≤ 64 then (if issueOk (bkB ts) = true then 0 else 7) else 2
def newT (ts : Array Value) (u q : Int) : Array Value := if newE ts u q = 0 then nwT ts u q else ts
def newI (ts : Array Value) (u q : Int) : Int := if newE ts u q = 0 then issueI (bkB ts) else 0
theorem iss_f (hb : TbOk ts) : inH (issueI (bkB ts)) ∧ 0 ≤ slotI (issueI (bkB ts)) ∧ slotI (issueI (bkB ts)) < 32 ∧ sl (issueI (bkB ts)) < 32 := by
 rcases issue_cases (bs := bkB ts) with ⟨_, _, e, _⟩ | ⟨i, h1, _, _, e, _, _⟩
 ·rw [e]; exact ⟨⟨by decide, by decide⟩, by decide, by decide, by decide⟩
 ·have hr := hb.bk.ra i h1
  have hi : inH (issueI (bkB ts)) := by rw [e]; unfold inH nameI; omega
  have es : sl (issueI (bkB ts)) = i := by rw [e]; exact slotI_name h1 hr
  have := slotI_lt hi
  exact ⟨hi, this.1, by unfold sl at es; omega, by omega⟩
theorem nw_size (hb : TbOk ts) {u q : Int} : (nwT ts u q).size = 448 := by
 exact (put_rg (put_bk hb.sz (issue_bk hb.bk).sz).1 (iss_f hb).2.2.2 rfl).1
theorem new_con (u q : Int) (m : SMem) : Con E0 49 [tbS ts, u32 u, i64 (.o q)] m (needs [TbOk ts, inH u] (.ret (.tup [.agg (.op (newT ts u q)), .c (.f (.int .u32 (.o (newI ts u q)))), .c (.f (.int .i64 (.o (newE ts u q))))]) m)) := by
 refine Con.pure E0_ok (by kernel_rfl : E0.fn 49 = some Tryd.f49) (by kernel_rfl : Tryd.f49.body = some (Tryd.f49.body.getD .skip)) (by kernel_rfl) (by kernel_rfl) fun hq => ?_
 have hb : TbOk ts := hq _ (by simp)
 have hu : inH u := hq _ (by simp)
 have hu' : 0 ≤ u ∧ u < 4294967296 := hu
 refine (Good.ret [] (run_vc ET0_ok 1000 (tn0 ts u q (newT ts u q) (newI ts u q) (newE ts u q)) ?_ (fun s m h => h) fun _ _ h => h.elim)).mono fun _ _ h => h.1
 unfold tn0_0
 have hs := hb.sz
 have h64 : (64 : Nat) ≤ 448 := by decide
 have hbk : BkOk (bkB ts) := hb.bk
 have hv := (issue_bk hb.bk).sz
 obtain ⟨i1, i2, i3, i4⟩ := iss_f hb
 have i1' : 0 ≤ issueI (bkB ts) ∧ issueI (bkB ts) < 4294967296 := i1
 have es : (slotI (issueI (bkB ts))).toNat = sl (issueI (bkB ts)) := rfl
 have e3 : putAt (putAt ts 0 (issueB (bkB ts)).toList) (64 + sl (issueI (bkB ts)) * 12) [Value.int .u32 u, Value.int .i64 q, Value.slice none 0 0, Value.int .i64 0, Value.int .u32 0, Value.int .u32 0, Value.int .u32 0, Value.int .u32 0, Value.int .u32 0, Value.int .u32 0, Value.int .u32 0, Value.int .u32 0] = nwT ts u q := rfl
 have p1 := (put_bk (bs := issueB (bkB ts)) hs hv).1
 have p2 := nw_size hb (u := u) (q := q)
 have y : 64 + sl (issueI (bkB ts)) * 12 + 12 ≤ 448 := by omega
 have ne : ∀ E : Int, newE ts u q = E → E ≠ 0 → newT ts u q = ts ∧ newI ts u q = 0 := fun E e hE => by
  have : newE ts u q ≠ 0 := by rw [e]; exact hE
  exact ⟨by unfold newT; rw [if_neg this], by unfold newI; rw [if_neg this]⟩
 have rest : ((u != 0) = true → goodB (bkB ts) u = true) → (decide (q ≥ 0) = true ∧ decide (q ≤ 64) = true → issueOk (bkB ts) = true → newE ts u q = 0) ∧ (decide (q ≥ 0) = true ∧ decide (q ≤ 64) = true → issueOk (bkB ts) = false → newE ts u q = 7) ∧ (decide (q ≥ 0) = false ∨ decide (q ≤ 64) = false → newE ts u q = 2) := by
  intro hgu
  have n1 : ¬ (u ≠ 0 ∧ gdF ts u = false) := by
   rintro ⟨k1, k2⟩
   have := hgu (bne_iff_ne.2 k1)
   rw [show goodB (bkB ts) u = false from k2] at this
   cases this
  refine ⟨fun ⟨k1, k2⟩ k3 => ?_, fun ⟨k1, k2⟩ k3 => ?_, fun k => ?_⟩
  ·unfold newE; rw [if_neg n1, if_pos ⟨of_decide_eq_true k1, of_decide_eq_true k2⟩, if_pos k3]
  ·unfold newE; rw [if_neg n1, if_pos ⟨of_decide_eq_true k1, of_decide_eq_true k2⟩, if_neg (by rw [k3]; simp)]
  ·unfold newE; rw [if_neg n1, if_neg]
   rintro ⟨k1, k2⟩
   rcases k with k | k
   ·exact of_decide_eq_false k k1
   ·exact of_decide_eq_false k k2
 cases hu0 : (u != 0) <;> cases hg : goodB (bkB ts) u <;> cases c1 : decide (q ≥ 0) <;> cases c2 : decide (q ≤ 64) <;> cases c3 : issueOk (bkB ts)
 all_goals
  first
   |(have e : newE ts u q = 4 := by unfold newE; rw [if_pos ⟨bne_iff_ne.1 hu0, hg⟩]
     obtain ⟨e4, e5⟩ := ne 4 e (by decide)
     simp only [bk_f, hg, hu0, c1, c2, c3, e, e4, e5, e3, es, hs, h64, hbk, hu', hv, q8, q6]
     done)
   |(have e : newE ts u q = 7 := (rest (fun k => by first | exact hg | (rw [hu0] at k; cases k))).2.1 ⟨c1, c2⟩ c3
     obtain ⟨e4, e5⟩ := ne 7 e (by decide)
     simp only [bk_f, hg, hu0, c1, c2, c3, e, e4, e5, e3, es, hs, h64, hbk, hu', hv, q8, q6]
     done)
   |(have e : newE ts u q = 2 := (rest (fun k => by first | exact hg | (rw [hu0] at k; cases k))).2.2 (by first | exact .inl c1 | exact .inr c2)
     obtain ⟨e4, e5⟩ := ne 2 e (by decide)
     simp only [bk_f, hg, hu0, c1, c2, c3, e, e4, e5, e3, es, hs, h64, hbk, hu', hv, q8, q6]
     done)
   |(have e : newE ts u q = 0 := (rest (fun k => by first | exact hg | (rw [hu0] at k; cases k))).1 ⟨c1, c2⟩ c3
     have e4 : newT ts u q = nwT ts u q := by unfold newT; rw [if_pos e]
     have e5 : newI ts u q = issueI (bkB ts) := by unfold newI; rw [if_pos e]
     simp only [bk_f, hg, hu0, c1, c2, c3, e, e4, e5, e3, es, hs, h64, hbk, hu', i1', i2, i3, hv, p1, p2, y, List.length_cons, List.length_nil, Nat.zero_add, q8, q6]
     done)
end
set_option linter.unusedVariables false
noncomputable def conTg (g : FuncId) (l : List SV) (m : SMem) : Option Tree := match g, l with
 | 25, [.s (.agg (.op ts)), .s (.c (.f (.int .u32 h)))] => some (.need [TbOk ts, inH h.den] (.ret (rgS (getA ts h.den) (getX5 ts h.den)) m))
 | 26, [.s (.agg (.op ts)), .s (.c (.f (.int .u32 h))), .s (.agg (.op rr))] => some (.need [TbOk ts, inH h.den, rr.size = 12, RgOk rr 0] (.ret (rgS (setT ts h.den rr) (getX5 ts h.den)) m))
 | 42, [.s (.agg (.op ts)), .s (.c (.f (.int .u32 h)))] => some (.need [TbOk ts, inH h.den] (.ret (rgS (dropT ts h.den) (getX5 ts h.den)) m))
 | 49, [.s (.agg (.op ts)), .s (.c (.f (.int .u32 u))), .s (.c (.f (.int .i64 q)))] => some (.need [TbOk ts, inH u.den] (.ret (.tup [.agg (.op (newT ts u.den q.den)), .c (.f (.int .u32 (.o (newI ts u.den q.den)))), .c (.f (.int .i64 (.o (newE ts u.den q.den))))]) m))
 | g, l => conT0 g l m
noncomputable def conT1 (g : FuncId) (l : List SV) (m : SMem) : Option Tree := match g, l with
 | 73, [.s (.agg (.op ts)), .s (.c (.f (.int .u32 h)))] => some (.need [TbOk ts, inH h.den] (.ret (.s (.c (.f (.int .u32 (.o (upF ts h.den)))))) m))
 | g, l => conTg g l m
noncomputable def EAb : Env := ⟨Tryd.prog, fnOf, conTg, haltAt []⟩
noncomputable def ERa : Env := ⟨Tryd.prog, fnOf, conTg, haltAt [43 * 1000 + 4]⟩
noncomputable def EUp : Env := ⟨Tryd.prog, fnOf, conT1, haltAt [72 * 1000 + 2]⟩
noncomputable def dpLp : LoopP := rfP Tryd.f48 0 48
noncomputable def rtLp : LoopP := rfP Tryd.f47 0 47
noncomputable def ouLp : LoopP := rfP Tryd.f18 0 18
noncomputable def u32o (h : Int) : SV := .s (.c (.f (.int .u32 (.o h))))
noncomputable def uD_d0 : List SIt := sekF Tryd.f72 2
noncomputable def uD_d1 : List SIt := .inR 5 :: rfK Tryd.f48 0
noncomputable def uD_F (ts : Array Value) (h : Int) (x : Int) (n : Int) : List SFr := [frOf 72 Tryd.f72 [(0, ylS 5), (1, ptr 2 (.l 0)), (2, ptr 3 (.l 0)), (4, .s (.c (.f (.int .u32 (.o x)))))] uD_d0, frRf 48 Tryd.f48 [(5, ptr 1 (.l 0))] uD_d1 4]
noncomputable def uD_M (ts : Array Value) (h : Int) (x : Int) (n : Int) : SMem := mkMX 6 [(1, ⟨.ls [.f (.int .i64 (.o n))], 3, true⟩), (2, ⟨.op ts, 39, true⟩), (3, ⟨.ls [.f (.int .u32 (.o h))], 30, true⟩)] [(4, .defr), (5, rfLp Tryd.f48 0 48 (tmOf Tryd.f48.ntmps [(5, ptr 1 (.l 0))]) 4)]
noncomputable def uD_n (ts : Array Value) (h : Int) (Q : Int → Int → Prop) (fs : List SFr) (m : SMem) : Prop := (match frNth fs 0 with | some f0 => (match frNth fs 1 with | some f1 => (match rdI f0 4 with | some x => (match rdP f1 5 with | some p1 => (match rdP f0 1 with | some p2 => (match rdP f0 2 with | some p3 => (match rdYl f0 0 with | some p5 => (match rdDl m p5 with | some p4 => (match rdCI m p1 0 with | some n => Q x n ∧ subOk 0 [(1, p1), (2, p2), (3, p3), (4, p4), (5, p5)] (uD_F ts h x n) (uD_M ts h x n) fs m | none => False) | none => False) | none => False) | none => False) | none => False) | none => False) | none => False) | none => False) | none => False)
noncomputable def uR_d0 : List SIt := sekF Tryd.f72 2
noncomputable def uR_d1 : List SIt := .inR 5 :: rfK Tryd.f47 0
noncomputable def uR_F (ts : Array Value) (h : Int) (x : Int) (n : Int) : List SFr := [frOf 72 Tryd.f72 [(0, ylS 5), (1, ptr 2 (.l 0)), (2, ptr 3 (.l 0)), (4, .s (.c (.f (.int .u32 (.o x)))))] uR_d0, frRf 47 Tryd.f47 [(5, ptr 1 (.l 0))] uR_d1 4]
noncomputable def uR_M (ts : Array Value) (h : Int) (x : Int) (n : Int) : SMem := mkMX 6 [(1, ⟨.ls [.f (.int .u32 (.o n))], 30, true⟩), (2, ⟨.op ts, 39, true⟩), (3, ⟨.ls [.f (.int .u32 (.o h))], 30, true⟩)] [(4, .defr), (5, rfLp Tryd.f47 0 47 (tmOf Tryd.f47.ntmps [(5, ptr 1 (.l 0))]) 4)]
noncomputable def uR_n (ts : Array Value) (h : Int) (Q : Int → Int → Prop) (fs : List SFr) (m : SMem) : Prop := (match frNth fs 0 with | some f0 => (match frNth fs 1 with | some f1 => (match rdI f0 4 with | some x => (match rdP f1 5 with | some p1 => (match rdP f0 1 with | some p2 => (match rdP f0 2 with | some p3 => (match rdYl f0 0 with | some p5 => (match rdDl m p5 with | some p4 => (match rdCI m p1 0 with | some n => Q x n ∧ subOk 0 [(1, p1), (2, p2), (3, p3), (4, p4), (5, p5)] (uR_F ts h x n) (uR_M ts h x n) fs m | none => False) | none => False) | none => False) | none => False) | none => False) | none => False) | none => False) | none => False) | none => False)
noncomputable def uO_d0 : List SIt := sekF Tryd.f72 2
noncomputable def uO_d1 : List SIt := .inR 6 :: rfK Tryd.f18 0
noncomputable def uO_F (ts : Array Value) (a : Int) (h : Int) (x : Int) : List SFr := [frOf 72 Tryd.f72 [(0, ylS 6), (1, ptr 3 (.l 0)), (2, ptr 4 (.l 0)), (4, .s (.c (.f (.int .u32 (.o x)))))] uO_d0, frRf 18 Tryd.f18 [(4, ptr 1 (.l 0)), (6, ptr 2 (.l 0))] uO_d1 5]
noncomputable def uO_M (ts : Array Value) (a : Int) (h : Int) (x : Int) : SMem := mkMX 7 [(1, ⟨.ls [.f (.int .u32 (.o a))], 30, true⟩), (2, ⟨.ls [.f (.bool (.l false))], 4, true⟩), (3, ⟨.op ts, 39, true⟩), (4, ⟨.ls [.f (.int .u32 (.o h))], 30, true⟩)] [(5, .defr), (6, rfLp Tryd.f18 0 18 (tmOf Tryd.f18.ntmps [(4, ptr 1 (.l 0)), (6, ptr 2 (.l 0))]) 5)]
noncomputable def uO_n (ts : Array Value) (a : Int) (h : Int) (Q : Int → Prop) (fs : List SFr) (m : SMem) : Prop := (match frNth fs 0 with | some f0 => (match frNth fs 1 with | some f1 => (match rdI f0 4 with | some x => (match rdP f1 4 with | some p1 => (match rdP f1 6 with | some p2 => (match rdP f0 1 with | some p3 => (match rdP f0 2 with | some p4 => (match rdYl f0 0 with | some p6 => (match rdDl m p6 with | some p5 => Q x ∧ subOk 0 [(1, p1), (2, p2), (3, p3), (4, p4), (5, p5), (6, p6)] (uO_F ts a h x) (uO_M ts a h x) fs m | none => False) | none => False) | none => False) | none => False) | none => False) | none => False) | none => False) | none => False) | none => False)
noncomputable def rA_d0 : List SIt := sekF Tryd.f43 4
noncomputable def rA_F (ts : Array Value) (h : Int) (up : Int) (x : Int) (zz : Array Value) : List SFr := [frOf 43 Tryd.f43 [(1, .s (.c (.f (.int .u32 (.o h))))), (2, .s (.c (.f (.int .u32 (.o up))))), (3, ptr 0 (.l 0)), (6, ptr 1 (.l 0)), (8, .s (.c (.f (.int .u32 (.o x)))))] rA_d0]
noncomputable def rA_M (ts : Array Value) (h : Int) (up : Int) (x : Int) (zz : Array Value) : SMem := mkM 2 [(0, ⟨.op ts, 39, true⟩), (1, ⟨.op zz, 39, true⟩)]
noncomputable def rA_n (ts : Array Value) (h : Int) (up : Int) (Q : Int → Array Value → Prop) (fs : List SFr) (m : SMem) : Prop := (match frNth fs 0 with | some f0 => (match rdI f0 8 with | some x => (match rdP f0 3 with | some p0 => (match rdP f0 6 with | some p1 => (match rdA m p1 with | some zz => Q x zz ∧ subOk 0 [(0, p0), (1, p1)] (rA_F ts h up x zz) (rA_M ts h up x zz) fs m | none => False) | none => False) | none => False) | none => False) | none => False)
noncomputable def ud1_t (ts : Array Value) (h : Int) (x : Int) (n : Int) : Tree := stepT EUp.go (run EUp 1000) 0 (uD_F ts h x n) (uD_M ts h x n)
noncomputable def ud1_x (ts : Array Value) (h : Int) (x : Int) (n : Int) (QuD : Int → Int → Prop) (fs : List SFr) (m : SMem) : Prop := uD_n ts h QuD fs m
noncomputable def ud0_t (ts : Array Value) (h : Int) : Tree := run EUp 1000 0 [callFr 48 Tryd.f48.ntmps [tbS ts, u32 h] (Tryd.f48.body.getD .skip)] e0M
noncomputable def ud0_x (ts : Array Value) (h : Int) (QuD : Int → Int → Prop) (fs : List SFr) (m : SMem) : Prop := uD_n ts h QuD fs m
noncomputable def ur1_t (ts : Array Value) (h : Int) (x : Int) (n : Int) : Tree := stepT EUp.go (run EUp 1000) 0 (uR_F ts h x n) (uR_M ts h x n)
noncomputable def ur1_x (ts : Array Value) (h : Int) (x : Int) (n : Int) (QuR : Int → Int → Prop) (fs : List SFr) (m : SMem) : Prop := uR_n ts h QuR fs m
noncomputable def ur0_t (ts : Array Value) (h : Int) : Tree := run EUp 1000 0 [callFr 47 Tryd.f47.ntmps [tbS ts, u32 h] (Tryd.f47.body.getD .skip)] e0M
noncomputable def ur0_x (ts : Array Value) (h : Int) (QuR : Int → Int → Prop) (fs : List SFr) (m : SMem) : Prop := uR_n ts h QuR fs m
noncomputable def uo1_t (ts : Array Value) (a : Int) (h : Int) (x : Int) : Tree := stepT EUp.go (run EUp 1000) 0 (uO_F ts a h x) (uO_M ts a h x)
noncomputable def uo1_x (ts : Array Value) (a : Int) (h : Int) (x : Int) (QuO : Int → Prop) (fs : List SFr) (m : SMem) : Prop := uO_n ts a h QuO fs m
noncomputable def uo0_t (ts : Array Value) (a : Int) (h : Int) : Tree := run EUp 1000 0 [callFr 18 Tryd.f18.ntmps [tbS ts, u32 a, u32 h] (Tryd.f18.body.getD .skip)] e0M
noncomputable def uo0_x (ts : Array Value) (a : Int) (h : Int) (QuO : Int → Prop) (fs : List SFr) (m : SMem) : Prop := uO_n ts a h QuO fs m
noncomputable def ra1_t (ts : Array Value) (h : Int) (up : Int) (x : Int) (zz : Array Value) : Tree := stepT ERa.go (run ERa 1000) 0 (rA_F ts h up x zz) (rA_M ts h up x zz)
noncomputable def ra1_x (ts : Array Value) (h : Int) (up : Int) (x : Int) (zz : Array Value) (QrA : Int → Array Value → Prop) (fs : List SFr) (m : SMem) : Prop := rA_n ts h up QrA fs m
noncomputable def ra0_t (ts : Array Value) (h : Int) (up : Int) : Tree := run ERa 1000 0 [callFr 43 Tryd.f43.ntmps [tbS ts, u32 h, u32 up] (Tryd.f43.body.getD .skip)] e0M
noncomputable def ra0_x (ts : Array Value) (h : Int) (up : Int) (QrA : Int → Array Value → Prop) (fs : List SFr) (m : SMem) : Prop := rA_n ts h up QrA fs m
theorem uD_d0_ok (r : Nat → Option Nat) : TodoOk r uD_d0 uD_d0 := TodoOk.it (by kernel_rfl)
theorem uD_d1_ok {l : List (Nat × Nat)} : TodoOk (ren 0 ([(1, 1), (2, 2), (3, 3), (4, 4), (5, 5)] ++ l)) uD_d1 uD_d1 := TodoOk.rf rfl (by kernel_rfl)
theorem uD_d1_ok0 : TodoOk (ren 0 [(1, 1), (2, 2), (3, 3), (4, 4), (5, 5)]) uD_d1 uD_d1 := TodoOk.rf rfl (by kernel_rfl)
theorem uR_d0_ok (r : Nat → Option Nat) : TodoOk r uR_d0 uR_d0 := TodoOk.it (by kernel_rfl)
theorem uR_d1_ok {l : List (Nat × Nat)} : TodoOk (ren 0 ([(1, 1), (2, 2), (3, 3), (4, 4), (5, 5)] ++ l)) uR_d1 uR_d1 := TodoOk.rf rfl (by kernel_rfl)
theorem uR_d1_ok0 : TodoOk (ren 0 [(1, 1), (2, 2), (3, 3), (4, 4), (5, 5)]) uR_d1 uR_d1 := TodoOk.rf rfl (by kernel_rfl)
theorem uO_d0_ok (r : Nat → Option Nat) : TodoOk r uO_d0 uO_d0 := TodoOk.it (by kernel_rfl)
theorem uO_d1_ok {l : List (Nat × Nat)} : TodoOk (ren 0 ([(1, 1), (2, 2), (3, 3), (4, 4), (5, 5), (6, 6)] ++ l)) uO_d1 uO_d1 := TodoOk.rf rfl (by kernel_rfl)
theorem uO_d1_ok0 : TodoOk (ren 0 [(1, 1), (2, 2), (3, 3), (4, 4), (5, 5), (6, 6)]) uO_d1 uO_d1 := TodoOk.rf rfl (by kernel_rfl)
theorem rA_d0_ok (r : Nat → Option Nat) : TodoOk r rA_d0 rA_d0 := TodoOk.it (by kernel_rfl)
theorem uD_good {A : SV → SMem → Prop} {ts : Array Value} {h : Int} {Q : Int → Int → Prop} {fs : List SFr} {m : SMem} (H : ∀ x n, Q x n → Good Tryd.prog A 0 (uD_F ts h x n) (uD_M ts h x n)) (hb : uD_n ts h Q fs m) : Good Tryd.prog A 0 fs m := by
 unfold uD_n at hb
 iterate 9 (split at hb; rotate_left; exact hb.elim)
 exact Good.of_sub hb.2 (H _ _ hb.1)
theorem uR_good {A : SV → SMem → Prop} {ts : Array Value} {h : Int} {Q : Int → Int → Prop} {fs : List SFr} {m : SMem} (H : ∀ x n, Q x n → Good Tryd.prog A 0 (uR_F ts h x n) (uR_M ts h x n)) (hb : uR_n ts h Q fs m) : Good Tryd.prog A 0 fs m := by
 unfold uR_n at hb
 iterate 9 (split at hb; rotate_left; exact hb.elim)
 exact Good.of_sub hb.2 (H _ _ hb.1)
theorem uO_good {A : SV → SMem → Prop} {ts : Array Value} {a : Int} {h : Int} {Q : Int → Prop} {fs : List SFr} {m : SMem} (H : ∀ x, Q x → Good Tryd.prog A 0 (uO_F ts a h x) (uO_M ts a h x)) (hb : uO_n ts a h Q fs m) : Good Tryd.prog A 0 fs m := by
 unfold uO_n at hb
 iterate 9 (split at hb; rotate_left; exact hb.elim)
 exact Good.of_sub hb.2 (H _ hb.1)
theorem rA_good {A : SV → SMem → Prop} {ts : Array Value} {h : Int} {up : Int} {Q : Int → Array Value → Prop} {fs : List SFr} {m : SMem} (H : ∀ x zz, Q x zz → Good Tryd.prog A 0 (rA_F ts h up x zz) (rA_M ts h up x zz)) (hb : rA_n ts h up Q fs m) : Good Tryd.prog A 0 fs m := by
 unfold rA_n at hb
 iterate 5 (split at hb; rotate_left; exact hb.elim)
 exact Good.of_sub hb.2 (H _ _ hb.1)
theorem ud1_go {A : SV → SMem → Prop} {ts : Array Value} {h : Int} {x : Int} {n : Int} {QuD : Int → Int → Prop} {fs : List SFr} {m : SMem} (huD : ∀ x' n', QuD x' n' → Good Tryd.prog A 0 (uD_F ts h x' n') (uD_M ts h x' n')) (hb : ud1_x ts h x n QuD fs m) : Good Tryd.prog A 0 fs m := by
 unfold ud1_x at hb
 exact uD_good huD hb
theorem ud0_go {A : SV → SMem → Prop} {ts : Array Value} {h : Int} {QuD : Int → Int → Prop} {fs : List SFr} {m : SMem} (huD : ∀ x' n', QuD x' n' → Good Tryd.prog A 0 (uD_F ts h x' n') (uD_M ts h x' n')) (hb : ud0_x ts h QuD fs m) : Good Tryd.prog A 0 fs m := by
 unfold ud0_x at hb
 exact uD_good huD hb
theorem ur1_go {A : SV → SMem → Prop} {ts : Array Value} {h : Int} {x : Int} {n : Int} {QuR : Int → Int → Prop} {fs : List SFr} {m : SMem} (huR : ∀ x' n', QuR x' n' → Good Tryd.prog A 0 (uR_F ts h x' n') (uR_M ts h x' n')) (hb : ur1_x ts h x n QuR fs m) : Good Tryd.prog A 0 fs m := by
 unfold ur1_x at hb
 exact uR_good huR hb
theorem ur0_go {A : SV → SMem → Prop} {ts : Array Value} {h : Int} {QuR : Int → Int → Prop} {fs : List SFr} {m : SMem} (huR : ∀ x' n', QuR x' n' → Good Tryd.prog A 0 (uR_F ts h x' n') (uR_M ts h x' n')) (hb : ur0_x ts h QuR fs m) : Good Tryd.prog A 0 fs m := by
 unfold ur0_x at hb
 exact uR_good huR hb
theorem uo1_go {A : SV → SMem → Prop} {ts : Array Value} {a : Int} {h : Int} {x : Int} {QuO : Int → Prop} {fs : List SFr} {m : SMem} (huO : ∀ x', QuO x' → Good Tryd.prog A 0 (uO_F ts a h x') (uO_M ts a h x')) (hb : uo1_x ts a h x QuO fs m) : Good Tryd.prog A 0 fs m := by
 unfold uo1_x at hb
 exact uO_good huO hb
theorem uo0_go {A : SV → SMem → Prop} {ts : Array Value} {a : Int} {h : Int} {QuO : Int → Prop} {fs : List SFr} {m : SMem} (huO : ∀ x', QuO x' → Good Tryd.prog A 0 (uO_F ts a h x') (uO_M ts a h x')) (hb : uo0_x ts a h QuO fs m) : Good Tryd.prog A 0 fs m := by
 unfold uo0_x at hb
 exact uO_good huO hb
theorem ra1_go {A : SV → SMem → Prop} {ts : Array Value} {h : Int} {up : Int} {x : Int} {zz : Array Value} {QrA : Int → Array Value → Prop} {fs : List SFr} {m : SMem} (hrA : ∀ x' zz', QrA x' zz' → Good Tryd.prog A 0 (rA_F ts h up x' zz') (rA_M ts h up x' zz')) (hb : ra1_x ts h up x zz QrA fs m) : Good Tryd.prog A 0 fs m := by
 unfold ra1_x at hb
 exact rA_good hrA hb
theorem ra0_go {A : SV → SMem → Prop} {ts : Array Value} {h : Int} {up : Int} {QrA : Int → Array Value → Prop} {fs : List SFr} {m : SMem} (hrA : ∀ x' zz', QrA x' zz' → Good Tryd.prog A 0 (rA_F ts h up x' zz') (rA_M ts h up x' zz')) (hb : ra0_x ts h up QrA fs m) : Good Tryd.prog A 0 fs m := by
 unfold ra0_x at hb
 exact rA_good hrA hb
set_option maxRecDepth 100000
theorem ab0 (ts : Array Value) (h o : Int) : (run EAb 1000 0 [callFr 73 Tryd.f73.ntmps [tbS ts, u32 h] (Tryd.f73.body.getD .skip)] e0M).vc (retOk 0 [] (u32o o) e0M) (fun _ _ => False) =
  ((Array.size ts = 448 ∧ True) ∧ (TbOk ts ∧ (0 ≤ h ∧ h < 4294967296) ∧ True) ∧ (Array.size (getA ts h) = 12 ∧ Array.size (getA ts h) = 12 ∧ True) ∧ (IsInt .u32 (getA ts h) 0 ∧ True) ∧ o = intAt (getA ts h) 0 ∧ True) := by kernel_rfl
theorem udF0 (ts : Array Value) (h o : Int) (Q : Int → Int → Prop) : (ud0_t ts h).vc (retOk 0 [] (i64 (.o o)) e0M) (ud0_x ts h Q) =
  ((Array.size ts = 448 ∧ True) ∧ (64 ≤ Array.size ts ∧ True) ∧ (BkOk (Array.extract ts 0 64) ∧ (0 ≤ h ∧ h < 4294967296) ∧ True) ∧ ((!goodB (Array.extract ts 0 64) h) = true → o = 0 ∧ True) ∧ ((!goodB (Array.extract ts 0 64) h) = false → Q h (0 : Int) ∧ cN ∧ TodoOk (ren 0 [(1, 1), (2, 2), (3, 3), (4, 4), (5, 5)]) uD_d0 uD_d0 ∧ h = h ∧ cN ∧ TodoOk (ren 0 [(1, 1), (2, 2), (3, 3), (4, 4), (5, 5)]) uD_d1 uD_d1 ∧ 3 = 3 ∧ (0 : Int) = (0 : Int) ∧ 30 = 30 ∧ h = h ∧ 39 = 39 ∧ ts = ts ∧ EqL dpLp dpLp ∧ True)) := by kernel_rfl
theorem udF (ts : Array Value) (h x n o : Int) (Q : Int → Int → Prop) : (ud1_t ts h x n).vc (retOk 0 [] (i64 (.o o)) e0M) (ud1_x ts h x n Q) =
  ((((x != 0) == true) = true → (Array.size ts = 448 ∧ True) ∧ (TbOk ts ∧ (0 ≤ x ∧ x < 4294967296) ∧ True) ∧ Q (upF ts x) (ari .add .i64 n 1) ∧ cN ∧ TodoOk (ren 0 [(1, 1), (2, 2), (3, 3), (4, 4), (5, 5)]) uD_d0 uD_d0 ∧ upF ts x = upF ts x ∧ cN ∧ TodoOk (ren 0 [(1, 1), (2, 2), (3, 3), (4, 4), (5, 5)]) uD_d1 uD_d1 ∧ 3 = 3 ∧ ari .add .i64 n 1 = ari .add .i64 n 1 ∧ 30 = 30 ∧ h = h ∧ 39 = 39 ∧ ts = ts ∧ EqL dpLp dpLp ∧ True) ∧ (((x != 0) == true) = false → o = n ∧ True)) := by kernel_rfl
theorem urF0 (ts : Array Value) (h o : Int) (Q : Int → Int → Prop) : (ur0_t ts h).vc (retOk 0 [] (u32o o) e0M) (ur0_x ts h Q) =
  ((Array.size ts = 448 ∧ True) ∧ (64 ≤ Array.size ts ∧ True) ∧ (BkOk (Array.extract ts 0 64) ∧ (0 ≤ h ∧ h < 4294967296) ∧ True) ∧ ((!goodB (Array.extract ts 0 64) h) = true → o = 0 ∧ True) ∧ ((!goodB (Array.extract ts 0 64) h) = false → Q h (0 : Int) ∧ cN ∧ TodoOk (ren 0 [(1, 1), (2, 2), (3, 3), (4, 4), (5, 5)]) uD_d0 uD_d0 ∧ h = h ∧ cN ∧ TodoOk (ren 0 [(1, 1), (2, 2), (3, 3), (4, 4), (5, 5)]) uR_d1 uR_d1 ∧ 30 = 30 ∧ (0 : Int) = (0 : Int) ∧ 30 = 30 ∧ h = h ∧ 39 = 39 ∧ ts = ts ∧ EqL rtLp rtLp ∧ True)) := by kernel_rfl
theorem urF (ts : Array Value) (h x n o : Int) (Q : Int → Int → Prop) : (ur1_t ts h x n).vc (retOk 0 [] (u32o o) e0M) (ur1_x ts h x n Q) =
  ((((x != 0) == true) = true → (Array.size ts = 448 ∧ True) ∧ (TbOk ts ∧ (0 ≤ x ∧ x < 4294967296) ∧ True) ∧ Q (upF ts x) x ∧ cN ∧ TodoOk (ren 0 [(1, 1), (2, 2), (3, 3), (4, 4), (5, 5)]) uD_d0 uD_d0 ∧ upF ts x = upF ts x ∧ cN ∧ TodoOk (ren 0 [(1, 1), (2, 2), (3, 3), (4, 4), (5, 5)]) uR_d1 uR_d1 ∧ 30 = 30 ∧ x = x ∧ 30 = 30 ∧ h = h ∧ 39 = 39 ∧ ts = ts ∧ EqL rtLp rtLp ∧ True) ∧ (((x != 0) == true) = false → o = n ∧ True)) := by kernel_rfl
theorem uoF0 (ts : Array Value) (a h : Int) (o : Bool) (Q : Int → Prop) : (uo0_t ts a h).vc (retOk 0 [] (sB (.o o)) e0M) (uo0_x ts a h Q) =
  ((Array.size ts = 448 ∧ True) ∧ (64 ≤ Array.size ts ∧ True) ∧ (BkOk (Array.extract ts 0 64) ∧ (0 ≤ h ∧ h < 4294967296) ∧ True) ∧ ((!goodB (Array.extract ts 0 64) h) = true → o = false ∧ True) ∧ ((!goodB (Array.extract ts 0 64) h) = false → Q h ∧ cN ∧ TodoOk (ren 0 [(1, 1), (2, 2), (3, 3), (4, 4), (5, 5), (6, 6)]) uD_d0 uD_d0 ∧ h = h ∧ cN ∧ TodoOk (ren 0 [(1, 1), (2, 2), (3, 3), (4, 4), (5, 5), (6, 6)]) uO_d1 uO_d1 ∧ 30 = 30 ∧ a = a ∧ 39 = 39 ∧ ts = ts ∧ 4 = 4 ∧ 30 = 30 ∧ h = h ∧ EqL ouLp ouLp ∧ True)) := by kernel_rfl
theorem uoF (ts : Array Value) (a h x : Int) (o : Bool) (Q : Int → Prop) : (uo1_t ts a h x).vc (retOk 0 [] (sB (.o o)) e0M) (uo1_x ts a h x Q) =
  ((((x != 0) == true) = true → ((x == a) = true → o = true ∧ True) ∧ ((x == a) = false → (Array.size ts = 448 ∧ True) ∧ (TbOk ts ∧ (0 ≤ x ∧ x < 4294967296) ∧ True) ∧ Q (upF ts x) ∧ cN ∧ TodoOk (ren 0 [(1, 1), (2, 2), (3, 3), (4, 4), (5, 5), (6, 6)]) uD_d0 uD_d0 ∧ upF ts x = upF ts x ∧ cN ∧ TodoOk (ren 0 [(1, 1), (2, 2), (3, 3), (4, 4), (5, 5), (6, 6)]) uO_d1 uO_d1 ∧ 30 = 30 ∧ a = a ∧ 39 = 39 ∧ ts = ts ∧ 4 = 4 ∧ 30 = 30 ∧ h = h ∧ EqL ouLp ouLp ∧ True)) ∧ (((x != 0) == true) = false → o = false ∧ True)) := by kernel_rfl
theorem raF0 (ts : Array Value) (h up : Int) (o : Array Value) (e : Int) (Q : Int → Array Value → Prop) : (ra0_t ts h up).vc (retOk 0 [] (rgS o e) e0M) (ra0_x ts h up Q) =
  ((64 ≤ Array.size ts ∧ True) ∧ (BkOk (Array.extract ts 0 64) ∧ (0 ≤ h ∧ h < 4294967296) ∧ True) ∧ (((!goodB (Array.extract ts 0 64) h) == false) = true → (((up != 0) == true) = true → (64 ≤ Array.size ts ∧ True) ∧ (BkOk (Array.extract ts 0 64) ∧ (0 ≤ up ∧ up < 4294967296) ∧ True) ∧ ((!goodB (Array.extract ts 0 64) up) = true → (Array.size ts = 448 ∧ True) ∧ (Array.size ts = 448 ∧ Array.size ts = 448 ∧ True) ∧ (Array.size ts = 448 ∧ True) ∧ o = ts ∧ e = 4 ∧ True) ∧ ((!goodB (Array.extract ts 0 64) up) = false → Q up zT ∧ cN ∧ TodoOk (ren 0 [(0, 0), (1, 1)]) rA_d0 rA_d0 ∧ h = h ∧ up = up ∧ up = up ∧ 39 = 39 ∧ ts = ts ∧ 39 = 39 ∧ zT = zT ∧ True)) ∧ (((up != 0) == true) = false → Q up zT ∧ cN ∧ TodoOk (ren 0 [(0, 0), (1, 1)]) rA_d0 rA_d0 ∧ h = h ∧ up = up ∧ up = up ∧ 39 = 39 ∧ ts = ts ∧ 39 = 39 ∧ zT = zT ∧ True)) ∧ (((!goodB (Array.extract ts 0 64) h) == false) = false → (Array.size ts = 448 ∧ True) ∧ (Array.size ts = 448 ∧ Array.size ts = 448 ∧ True) ∧ (Array.size ts = 448 ∧ True) ∧ o = ts ∧ e = 4 ∧ True)) := by kernel_rfl
theorem raF (ts : Array Value) (h up x : Int) (zz o : Array Value) (e : Int) (Q : Int → Array Value → Prop) : (ra1_t ts h up x zz).vc (retOk 0 [] (rgS o e) e0M) (ra1_x ts h up x zz Q) =
  (((x != 0) = true → ((x == h) = true → (Array.size ts = 448 ∧ True) ∧ (Array.size ts = 448 ∧ Array.size ts = Array.size zz ∧ True) ∧ (Array.size ts = 448 ∧ True) ∧ o = ts ∧ e = 12 ∧ True) ∧ ((x == h) = false → ((0 ≤ x ∧ x < 4294967296) ∧ True) ∧ ((0 ≤ slotI x ∧ slotI x < 32) ∧ True) ∧ (IsInt .u32 ts (64 + Int.toNat (slotI x) * 12) ∧ True) ∧ (64 ≤ Array.size ts ∧ True) ∧ (BkOk (Array.extract ts 0 64) ∧ (0 ≤ intAt ts (64 + Int.toNat (slotI x) * 12) ∧ intAt ts (64 + Int.toNat (slotI x) * 12) < 4294967296) ∧ True) ∧ (goodB (Array.extract ts 0 64) (intAt ts (64 + Int.toNat (slotI x) * 12)) = true → Q (intAt ts (64 + Int.toNat (slotI x) * 12)) zz ∧ cN ∧ TodoOk (ren 0 [(0, 0), (1, 1)]) rA_d0 rA_d0 ∧ h = h ∧ up = up ∧ intAt ts (64 + Int.toNat (slotI x) * 12) = intAt ts (64 + Int.toNat (slotI x) * 12) ∧ 39 = 39 ∧ ts = ts ∧ 39 = 39 ∧ zz = zz ∧ True) ∧ (goodB (Array.extract ts 0 64) (intAt ts (64 + Int.toNat (slotI x) * 12)) = false → Q (0 : Int) zz ∧ cN ∧ TodoOk (ren 0 [(0, 0), (1, 1)]) rA_d0 rA_d0 ∧ h = h ∧ up = up ∧ (0 : Int) = (0 : Int) ∧ 39 = 39 ∧ ts = ts ∧ 39 = 39 ∧ zz = zz ∧ True))) ∧ ((x != 0) = false → ((0 ≤ h ∧ h < 4294967296) ∧ True) ∧ ((0 ≤ slotI h ∧ slotI h < 32) ∧ True) ∧ (64 + Int.toNat (slotI h) * 12 < Array.size ts ∧ True) ∧ (Array.size (Array.setIfInBounds ts (64 + Int.toNat (slotI h) * 12) (Value.int .u32 up)) = 448 ∧ True) ∧ (Array.size (Array.setIfInBounds ts (64 + Int.toNat (slotI h) * 12) (Value.int .u32 up)) = 448 ∧ Array.size (Array.setIfInBounds ts (64 + Int.toNat (slotI h) * 12) (Value.int .u32 up)) = Array.size zz ∧ True) ∧ (Array.size (Array.setIfInBounds ts (64 + Int.toNat (slotI h) * 12) (Value.int .u32 up)) = 448 ∧ True) ∧ o = Array.setIfInBounds ts (64 + Int.toNat (slotI h) * 12) (Value.int .u32 up) ∧ e = 0 ∧ True)) := by kernel_rfl
set_option linter.unusedVariables false
def chF (up : Int → Int) : Nat → Int → List Int
 | 0, _ => []
 | n + 1, x => if x = 0 then [] else x :: chF up n (up x)
def kidsL (L : List Int) (up : Int → Int) (h : Int) : List Int := L.filter fun k => up k == h
def unF (L : List Int) (up : Int → Int) : Nat → Int → List Int
 | 0, _ => []
 | n + 1, x => x :: (kidsL L up x).flatMap (unF L up n)
structure FoOk (L : List Int) (up : Int → Int) : Prop where
 nd : L.Nodup
 nz : ∀ x ∈ L, x ≠ 0
 cl : ∀ x ∈ L, up x = 0 ∨ up x ∈ L
 dp : ∀ x ∈ L, (chF up 14 x).length ≤ 13
def chL (up : Int → Int) (x : Int) : List Int := chF up 14 x
def depL (up : Int → Int) (x : Int) : Nat := (chL up x).length
def unL (L : List Int) (up : Int → Int) (x : Int) : List Int := unF L up 14 x
section
variable {L : List Int} {up : Int → Int}
theorem chF_zero (n : Nat) : chF up n 0 = [] := by
 cases n with
 | zero => rfl
 | succ n => show (if (0 : Int) = 0 then _ else _) = _; rw [if_pos rfl]
theorem chF_succ {n : Nat} {x : Int} (hx : x ≠ 0) : chF up (n + 1) x = x :: chF up n (up x) := by
 show (if x = 0 then _ else _) = _
 rw [if_neg hx]
theorem chF_fix : ∀ (n m : Nat) (x : Int), (chF up n x).length < n → n ≤ m → chF up m x = chF up n x
 | 0, _, _, h, _ => by omega
 | n + 1, 0, _, _, h => by omega
 | n + 1, m + 1, x, h, hm => by
  by_cases hx : x = 0
  ·rw [hx, chF_zero, chF_zero]
  ·rw [chF_succ hx] at h ⊢
   rw [chF_succ hx]
   rw [List.length_cons] at h
   rw [chF_fix n m (up x) (by omega) (by omega)]
theorem ch_zero : chL up 0 = [] := chF_zero 14
theorem dep_zero : depL up 0 = 0 := by unfold depL; rw [ch_zero]; rfl
theorem ch_cons (h : FoOk L up) {x : Int} (hx : x ∈ L) : chL up x = x :: chL up (up x) := by
 have hd := h.dp x hx
 have h0 := h.nz x hx
 unfold chL
 rw [chF_succ h0] at hd ⊢
 rw [List.length_cons] at hd
 rw [chF_fix 13 14 (up x) (by omega) (by omega)]
theorem dep_cons (h : FoOk L up) {x : Int} (hx : x ∈ L) : depL up x = depL up (up x) + 1 := by unfold depL; rw [ch_cons h hx]; rfl
theorem dep_le (h : FoOk L up) {x : Int} (hx : x ∈ L) : 1 ≤ depL up x ∧ depL up x ≤ 13 := by
 have := dep_cons h hx
 have := h.dp x hx
 exact ⟨by omega, this⟩
theorem up_ind (h : FoOk L up) {P : Int → Prop} (h0 : P 0) (h1 : ∀ x ∈ L, P (up x) → P x) : ∀ x, x = 0 ∨ x ∈ L → P x := by
 have key : ∀ (n : Nat) (x : Int), depL up x ≤ n → x = 0 ∨ x ∈ L → P x := by
  intro n
  induction n with
  | zero =>
   intro x hd hx
   rcases hx with rfl | hx
   ·exact h0
   ·have := (dep_le h hx).1; omega
  | succ n ih =>
   intro x hd hx
   rcases hx with rfl | hx
   ·exact h0
   ·refine h1 x hx (ih (up x) ?_ (h.cl x hx))
    have := dep_cons h hx
    omega
 exact fun x hx => key _ x (Nat.le_refl _) hx
theorem ch_sub (h : FoOk L up) : ∀ x, x = 0 ∨ x ∈ L → ∀ y ∈ chL up x, y ∈ L := by
 refine up_ind h (fun y hy => by rw [ch_zero] at hy; cases hy) fun x hx ih y hy => ?_
 rw [ch_cons h hx] at hy
 rcases List.mem_cons.1 hy with rfl | hy
 ·exact hx
 ·exact ih y hy
theorem ch_self (h : FoOk L up) {x : Int} (hx : x ∈ L) : x ∈ chL up x := by rw [ch_cons h hx]; exact List.mem_cons_self ..
theorem ch_up (h : FoOk L up) {y : Int} : ∀ x, x = 0 ∨ x ∈ L → y ∈ chL up x → up y ≠ 0 → up y ∈ chL up x := by
 refine up_ind h (fun hy => by rw [ch_zero] at hy; cases hy) fun x hx ih hy hn => ?_
 rw [ch_cons h hx] at hy ⊢
 rcases List.mem_cons.1 hy with rfl | hy
 ·have : up y ∈ L := (h.cl y hx).resolve_left hn
  exact List.mem_cons_of_mem _ (ch_self h this)
 ·exact List.mem_cons_of_mem _ (ih hy hn)
theorem ch_dep (h : FoOk L up) {y : Int} : ∀ x, x = 0 ∨ x ∈ L → y ∈ chL up x → depL up y ≤ depL up x ∧ (depL up y = depL up x → y = x) := by
 refine up_ind h (fun hy => by rw [ch_zero] at hy; cases hy) fun x hx ih hy => ?_
 rw [ch_cons h hx] at hy
 have hd := dep_cons h hx
 rcases List.mem_cons.1 hy with rfl | hy
 ·exact ⟨Nat.le_refl _, fun _ => rfl⟩
 ·have := (ih hy).1
  exact ⟨by omega, fun e => by omega⟩
theorem ch_inj (h : FoOk L up) {a b : Int} : ∀ x, x = 0 ∨ x ∈ L → a ∈ chL up x → b ∈ chL up x → depL up a = depL up b → a = b := by
 refine up_ind h (fun ha => by rw [ch_zero] at ha; cases ha) fun x hx ih ha hb e => ?_
 have da := ch_dep h x (.inr hx) ha
 have db := ch_dep h x (.inr hx) hb
 rw [ch_cons h hx] at ha hb
 rcases List.mem_cons.1 ha with rfl | ha
 ·exact (db.2 e.symm).symm
 ·rcases List.mem_cons.1 hb with rfl | hb
  ·exact da.2 e
  ·exact ih ha hb e
theorem ch_nodup (h : FoOk L up) : ∀ x, x = 0 ∨ x ∈ L → (chL up x).Nodup := by
 refine up_ind h (by rw [ch_zero]; exact List.nodup_nil) fun x hx ih => ?_
 rw [ch_cons h hx, List.nodup_cons]
 refine ⟨fun hm => ?_, ih⟩
 have := (ch_dep h (up x) (h.cl x hx) hm).1
 have := dep_cons h hx
 omega
theorem kids_memL {x k : Int} : k ∈ kidsL L up x ↔ k ∈ L ∧ up k = x := by
 unfold kidsL
 rw [List.mem_filter, beq_iff_eq]
theorem flat_congr {α β : Type} {f g : α → List β} : ∀ {l : List α}, (∀ a ∈ l, f a = g a) → l.flatMap f = l.flatMap g
 | [], _ => rfl
 | a :: l, h => by
  rw [List.flatMap_cons, List.flatMap_cons, h a (List.mem_cons_self ..), flat_congr fun b hb => h b (List.mem_cons_of_mem _ hb)]
theorem unF_fix (h : FoOk L up) : ∀ (n m : Nat) (x : Int), x ∈ L → 14 ≤ n + depL up x → 14 ≤ m + depL up x → unF L up n x = unF L up m x
 | 0, _, x, hx, h1, _ => by have := (dep_le h hx).2; omega
 | n + 1, 0, x, hx, _, h2 => by have := (dep_le h hx).2; omega
 | n + 1, m + 1, x, hx, h1, h2 => by
  show x :: _ = x :: _
  rw [flat_congr fun k hk => ?_]
  obtain ⟨hk1, hk2⟩ := kids_memL.1 hk
  have := dep_cons h hk1
  rw [hk2] at this
  exact unF_fix h n m k hk1 (by omega) (by omega)
theorem un_cons (h : FoOk L up) {x : Int} (hx : x ∈ L) : unL L up x = x :: (kidsL L up x).flatMap (unL L up) := by
 show x :: _ = x :: _
 rw [flat_congr fun k hk => ?_]
 obtain ⟨hk1, hk2⟩ := kids_memL.1 hk
 have := dep_cons h hk1
 have := (dep_le h hx).1
 rw [← hk2] at this
 exact unF_fix h 13 14 k hk1 (by omega) (by omega)
theorem down_ind (h : FoOk L up) {P : Int → Prop} (h1 : ∀ x ∈ L, (∀ k ∈ kidsL L up x, P k) → P x) : ∀ x ∈ L, P x := by
 have key : ∀ (n : Nat) (x : Int), 14 ≤ n + depL up x → x ∈ L → P x := by
  intro n
  induction n with
  | zero => intro x hd hx; have := (dep_le h hx).2; omega
  | succ n ih =>
   intro x hd hx
   refine h1 x hx fun k hk => ?_
   obtain ⟨hk1, hk2⟩ := kids_memL.1 hk
   have := dep_cons h hk1
   rw [hk2] at this
   exact ih k (by omega) hk1
 exact fun x hx => key 14 x (by omega) hx
theorem un_sub (h : FoOk L up) : ∀ x ∈ L, ∀ y ∈ unL L up x, y ∈ L ∧ x ∈ chL up y := by
 refine down_ind h fun x hx ih y hy => ?_
 rw [un_cons h hx] at hy
 rcases List.mem_cons.1 hy with rfl | hy
 ·exact ⟨hx, ch_self h hx⟩
 ·obtain ⟨k, hk, hy⟩ := List.mem_flatMap.1 hy
  obtain ⟨hk1, hk2⟩ := kids_memL.1 hk
  obtain ⟨h1, h2⟩ := ih k hk y hy
  have := ch_up h y (.inr h1) h2 (by rw [hk2]; exact h.nz x hx)
  rw [hk2] at this
  exact ⟨h1, this⟩
theorem un_kid (h : FoOk L up) {k : Int} (hk : k ∈ L) : ∀ x ∈ L, up k ∈ unL L up x → k ∈ unL L up x := by
 refine down_ind h fun x hx ih hz => ?_
 rw [un_cons h hx] at hz ⊢
 rcases List.mem_cons.1 hz with e | hz
 ·have hkk : k ∈ kidsL L up x := kids_memL.2 ⟨hk, e⟩
  exact List.mem_cons_of_mem _ (List.mem_flatMap.2 ⟨k, hkk, by rw [un_cons h hk]; exact List.mem_cons_self ..⟩)
 ·obtain ⟨j, hj, hz⟩ := List.mem_flatMap.1 hz
  exact List.mem_cons_of_mem _ (List.mem_flatMap.2 ⟨j, hj, ih j hj hz⟩)
theorem un_of_ch (h : FoOk L up) {x : Int} (hx : x ∈ L) : ∀ y, y = 0 ∨ y ∈ L → x ∈ chL up y → y ∈ unL L up x := by
 refine up_ind h (fun hy => by rw [ch_zero] at hy; cases hy) fun y hy ih hxy => ?_
 rw [ch_cons h hy] at hxy
 rcases List.mem_cons.1 hxy with rfl | hxy
 ·rw [un_cons h hx]; exact List.mem_cons_self ..
 ·exact un_kid h hy x hx (ih hxy)
theorem un_mem (h : FoOk L up) {x y : Int} (hx : x ∈ L) : y ∈ unL L up x ↔ y ∈ L ∧ x ∈ chL up y :=
 ⟨un_sub h x hx y, fun ⟨h1, h2⟩ => un_of_ch h hx y (.inr h1) h2⟩
theorem un_nodup (h : FoOk L up) : ∀ x ∈ L, (unL L up x).Nodup := by
 refine down_ind h fun x hx ih => ?_
 rw [un_cons h hx, List.nodup_cons]
 have hkn : (kidsL L up x).Nodup := h.nd.filter _
 constructor
 ·intro hm
  obtain ⟨k, hk, hm⟩ := List.mem_flatMap.1 hm
  obtain ⟨hk1, hk2⟩ := kids_memL.1 hk
  have h1 := (un_sub h k hk1 x hm).2
  have h2 := (ch_dep h x (.inr hx) h1).1
  have := dep_cons h hk1
  rw [hk2] at this
  omega
 ·rw [List.Nodup, List.pairwise_flatMap]
  refine ⟨fun k hk => ih k hk, ?_⟩
  refine hkn.imp_of_mem ?_
  intro a b ha hb hab y hy z hz e
  subst e
  obtain ⟨ha1, ha2⟩ := kids_memL.1 ha
  obtain ⟨hb1, hb2⟩ := kids_memL.1 hb
  obtain ⟨y1, y2⟩ := un_sub h a ha1 y hy
  obtain ⟨_, z2⟩ := un_sub h b hb1 y hz
  have da := dep_cons h ha1
  have db := dep_cons h hb1
  rw [ha2] at da
  rw [hb2] at db
  exact hab (ch_inj h y (.inr y1) y2 z2 (by omega))
theorem nodup_le : ∀ {l m : List Int}, l.Nodup → (∀ x ∈ l, x ∈ m) → l.length ≤ m.length
 | [], _, _, _ => Nat.zero_le _
 | a :: l, m, hn, hs => by
  obtain ⟨h1, h2⟩ := List.nodup_cons.1 hn
  have ha := hs a (List.mem_cons_self ..)
  have := nodup_le (m := m.erase a) h2 fun x hx => (List.mem_erase_of_ne (fun e => h1 (by rw [← e]; exact hx))).2 (hs x (List.mem_cons_of_mem _ hx))
  rw [List.length_erase_of_mem ha] at this
  have hp := List.length_pos_of_mem ha
  rw [List.length_cons]
  omega
theorem un_len (h : FoOk L up) {x : Int} (hx : x ∈ L) : (unL L up x).length ≤ L.length := nodup_le (un_nodup h x hx) fun y hy => (un_sub h x hx y hy).1
def rtL (up : Int → Int) (x : Int) : Int := (chL up x).getLastD 0
theorem rt_zero : rtL up 0 = 0 := by unfold rtL; rw [ch_zero]; rfl
theorem rt_cons (h : FoOk L up) {x : Int} (hx : x ∈ L) : rtL up x = if up x = 0 then x else rtL up (up x) := by
 unfold rtL
 rw [ch_cons h hx]
 split
 ·rename_i e; rw [e, ch_zero]; rfl
 ·rename_i e
  have := (h.cl x hx).resolve_left e
  rw [ch_cons h this]
  rfl
theorem rt_mem (h : FoOk L up) : ∀ x, x = 0 ∨ x ∈ L → x ∈ L → rtL up x ∈ chL up x ∧ up (rtL up x) = 0 := by
 refine up_ind h (fun hx => absurd rfl (h.nz 0 hx)) fun x hx ih _ => ?_
 rw [rt_cons h hx]
 split
 ·rename_i e; exact ⟨ch_self h hx, e⟩
 ·rename_i e
  have h1 := (h.cl x hx).resolve_left e
  obtain ⟨k1, k2⟩ := ih h1
  exact ⟨by rw [ch_cons h hx]; exact List.mem_cons_of_mem _ k1, k2⟩
theorem rt_root (h : FoOk L up) {x : Int} (hx : x ∈ L) : rtL up x = x ↔ up x = 0 := by
 constructor
 ·intro e
  have := (rt_mem h x (.inr hx) hx).2
  rw [e] at this
  exact this
 ·intro e; rw [rt_cons h hx, if_pos e]
end
set_option linter.unusedVariables false
theorem conTg_ok : ∀ g l m t, conTg g l m = some t → Con E0 g l m t := by
 intro g l m t h
 unfold conTg at h
 split at h
 ·rename_i ts x; cases h
  exact Con.n1 (get_con x.den m)
 ·rename_i ts x rr; cases h
  refine Con.asked fun hq => Con.args (l' := [tbS ts, u32 x.den, tbS rr]) (fun R vs ha => by
   match vs, ha with
   | [v, w, z], ha => exact ⟨ha.1, ha.2.1, ha.2.2.1, trivial⟩) ?_
  intro A hs
  exact set_con x.den m A ⟨fun p hp => hq p hp, hs⟩
 ·rename_i ts x; cases h
  exact Con.n1 (drop_con x.den m)
 ·rename_i ts x q; cases h
  exact Con.n2 (new_con x.den q.den m)
 ·exact conT0_ok _ _ _ _ h
theorem EAb_ok : EnvOk EAb := EnvOk.with E0_ok _ _ conTg_ok
theorem ERa_ok : EnvOk ERa := EnvOk.with E0_ok _ _ conTg_ok
section
variable {ts : Array Value} {h : Int}
theorem rgA_size (u q n : Int) (c : Nat → Int) : (rgA u q n c).size = 12 := rfl
theorem getA_facts (ts : Array Value) (h : Int) : (getA ts h).size = 12 ∧ IsInt .u32 (getA ts h) 0 ∧ intAt (getA ts h) 0 = upF ts h := by
 unfold getA
 cases hg : gdF ts h with
 | true => exact ⟨rfl, rfl, rfl⟩
 | false =>
  refine ⟨rfl, rfl, ?_⟩
  unfold upF
  rw [hg]
  rfl
theorem above_con (h : Int) (m : SMem) : Con E0 73 [tbS ts, u32 h] m (needs [TbOk ts, inH h] (.ret (u32o (upF ts h)) m)) := by
 refine Con.pure E0_ok (by kernel_rfl : E0.fn 73 = some Tryd.f73) (by kernel_rfl : Tryd.f73.body = some (Tryd.f73.body.getD .skip)) (by kernel_rfl) (by kernel_rfl) fun hq => ?_
 have hb : TbOk ts := hq _ (by simp)
 have hh : inH h := hq _ (by simp)
 refine (Good.ret [] (run_vc EAb_ok 1000 (ab0 ts h (upF ts h)) ?_ (fun s m h => h) fun _ _ h => h.elim)).mono fun _ _ h => h.1
 obtain ⟨g1, g2, g3⟩ := getA_facts ts h
 have hs := hb.sz
 have hh' : 0 ≤ h ∧ h < 4294967296 := hh
 simp only [hs, hb, hh', g1, g2, g3, and_true, true_and]
theorem conT1_ok : ∀ g l m t, conT1 g l m = some t → Con E0 g l m t := by
 intro g l m t h
 unfold conT1 at h
 split at h
 ·rename_i ts x; cases h
  exact Con.n1 (above_con x.den m)
 ·exact conTg_ok _ _ _ _ h
theorem EUp_ok : EnvOk EUp := EnvOk.with E0_ok _ _ conT1_ok
def lvT (ts : Array Value) : List Int := issued (bkB ts)
structure FIn (ts : Array Value) : Prop where
 ok : TbOk ts
 fo : FoOk (lvT ts) (upF ts)
theorem lv_mem (hb : TbOk ts) {x : Int} : x ∈ lvT ts ↔ gdF ts x = true := issued_mem hb.bk
theorem fo_of (hb : TbOk ts) (hd : ∀ x, gdF ts x = true → (chF (upF ts) 14 x).length ≤ 13) : FIn ts := by
 refine ⟨hb, issued_nodup hb.bk, fun x hx => ?_, fun x hx => ?_, fun x hx => hd x ((lv_mem hb).1 hx)⟩
 ·have := (goodB_in hb.bk ((lv_mem hb).1 hx)).2
  omega
 ·have hg := (lv_mem hb).1 hx
  unfold upF
  rw [hg, if_pos rfl]
  split
  ·rename_i e; exact .inr ((lv_mem hb).2 e)
  ·exact .inl rfl
theorem lv_in (hb : TbOk ts) {x : Int} (hx : x = 0 ∨ x ∈ lvT ts) : inH x := by
 rcases hx with rfl | hx
 ·exact ⟨by decide, by decide⟩
 ·exact (goodB_in hb.bk ((lv_mem hb).1 hx)).1
def depF (ts : Array Value) (h : Int) : Nat := if gdF ts h = true then depL (upF ts) h else 0
def rtF (ts : Array Value) (h : Int) : Int := if gdF ts h = true then rtL (upF ts) h else 0
def outF (ts : Array Value) (a h : Int) : Bool := gdF ts h && decide (a ∈ chL (upF ts) h)
theorem EqL_self (l : LoopP) : EqL l l = True := eq_true rfl
theorem uD_ok (hf : FIn ts) (h : Int) {D : Nat} (hD : D ≤ 13) : ∀ x, x = 0 ∨ x ∈ lvT ts → ∀ n : Nat, n + depL (upF ts) x = D → Good Tryd.prog (retOk 0 [] (i64 (.o (D : Int))) e0M) 0 (uD_F ts h x (n : Int)) (uD_M ts h x (n : Int)) := by
 have hs := hf.ok.sz
 have hb := hf.ok
 refine up_ind hf.fo (fun n hn => ?_) fun x hx ih n hn => ?_
 ·rw [dep_zero, Nat.add_zero] at hn
  subst hn
  refine past_vc EUp_ok 1000 (udF ts h 0 (n : Int) (n : Int) (fun _ _ => False)) ?_ (fun _ _ h => h) (fun fs m hb => ud1_go (fun _ _ h => h.elim) hb)
  simp only [bne_self_eq_false, beqT, q6]
 ·refine past_vc EUp_ok 1000 (udF ts h x (n : Int) (D : Int) (fun x' n' => x' = upF ts x ∧ n' = ((n + 1 : Nat) : Int))) ?_ (fun _ _ h => h) (fun fs m hb => ud1_go (fun x' n' ⟨e1, e2⟩ => by
   rw [e1, e2]
   have := dep_cons hf.fo hx
   exact ih (n + 1) (by omega)) hb)
  have d : (x != 0) = true := bne_iff_ne.2 (hf.fo.nz x hx)
  have hx' : 0 ≤ x ∧ x < 4294967296 := lv_in hb (.inr hx)
  have := dep_cons hf.fo hx
  have en : ari .add .i64 (n : Int) 1 = ((n + 1 : Nat) : Int) := by rw [ari_add, i64_in' (by omega) (by omega)]; omega
  simp only [d, hs, hb, hx', en, EqL_self, beqT, uD_d0_ok, uD_d1_ok0, q6]
theorem depth_con (h : Int) (m : SMem) : Con E0 48 [tbS ts, u32 h] m (needs [FIn ts, inH h] (.ret (i64 (.o (depF ts h : Int))) m)) := by
 refine Con.pure E0_ok (by kernel_rfl : E0.fn 48 = some Tryd.f48) (by kernel_rfl : Tryd.f48.body = some (Tryd.f48.body.getD .skip)) (by kernel_rfl) (by kernel_rfl) fun hq => ?_
 have hf : FIn ts := hq _ (by simp)
 have hh : inH h := hq _ (by simp)
 have hh' : 0 ≤ h ∧ h < 4294967296 := hh
 have hs := hf.ok.sz
 have h64 : (64 : Nat) ≤ 448 := by decide
 have hbk : BkOk (bkB ts) := hf.ok.bk
 refine (Good.ret [] (run_vc EUp_ok 1000 (udF0 ts h (depF ts h : Int) (fun x n => x = h ∧ n = ((0 : Nat) : Int) ∧ gdF ts h = true)) ?_ (fun s m h => h) fun fs m hb => ud0_go (fun x n ⟨e1, e2, e3⟩ => by
  rw [e1, e2]
  have hl := (lv_mem hf.ok).2 e3
  have e : depF ts h = depL (upF ts) h := by unfold depF; rw [if_pos e3]
  rw [e]
  exact uD_ok hf h (dep_le hf.fo hl).2 h (.inr hl) 0 (by omega)) hb)).mono fun _ _ h => h.1
 cases hg : goodB (bkB ts) h with
 | false =>
  have e : depF ts h = 0 := by unfold depF; rw [show gdF ts h = false from hg]; rfl
  simp only [bk_f, hg, e, hs, h64, hbk, hh', Bool.not_false, q6]
  rfl
 | true =>
  have hg' : gdF ts h = true := hg
  simp only [bk_f, hg, hg', hs, h64, hbk, hh', EqL_self, Bool.not_true, uD_d0_ok, uD_d1_ok0, q6]
  rfl
theorem uR_ok (hf : FIn ts) (h : Int) {D : Int} : ∀ x, x = 0 ∨ x ∈ lvT ts → ∀ n : Int, (x = 0 → n = D) → (x ≠ 0 → rtL (upF ts) x = D) → Good Tryd.prog (retOk 0 [] (u32o D) e0M) 0 (uR_F ts h x n) (uR_M ts h x n) := by
 have hs := hf.ok.sz
 have hb := hf.ok
 refine up_ind hf.fo (fun n hn _ => ?_) fun x hx ih n _ hn => ?_
 ·have e := hn rfl
  refine past_vc EUp_ok 1000 (urF ts h 0 n D (fun _ _ => False)) ?_ (fun _ _ h => h) (fun fs m hb => ur1_go (fun _ _ h => h.elim) hb)
  simp only [e, bne_self_eq_false, beqT, q6]
 ·refine past_vc EUp_ok 1000 (urF ts h x n D (fun x' n' => x' = upF ts x ∧ n' = x)) ?_ (fun _ _ h => h) (fun fs m hb => ur1_go (fun x' n' ⟨e1, e2⟩ => by
   rw [e1, e2]
   have hr := rt_cons hf.fo hx
   have hn := hn (hf.fo.nz x hx)
   exact ih x (fun e => by rw [if_pos e] at hr; rw [← hr]; exact hn) (fun e => by rw [if_neg e] at hr; rw [← hr]; exact hn)) hb)
  have d : (x != 0) = true := bne_iff_ne.2 (hf.fo.nz x hx)
  have hx' : 0 ≤ x ∧ x < 4294967296 := lv_in hb (.inr hx)
  simp only [d, hs, hb, hx', EqL_self, beqT, uD_d0_ok, uR_d1_ok0, q6]
theorem root_con (h : Int) (m : SMem) : Con E0 47 [tbS ts, u32 h] m (needs [FIn ts, inH h] (.ret (u32o (rtF ts h)) m)) := by
 refine Con.pure E0_ok (by kernel_rfl : E0.fn 47 = some Tryd.f47) (by kernel_rfl : Tryd.f47.body = some (Tryd.f47.body.getD .skip)) (by kernel_rfl) (by kernel_rfl) fun hq => ?_
 have hf : FIn ts := hq _ (by simp)
 have hh : inH h := hq _ (by simp)
 have hh' : 0 ≤ h ∧ h < 4294967296 := hh
 have hs := hf.ok.sz
 have h64 : (64 : Nat) ≤ 448 := by decide
 have hbk : BkOk (bkB ts) := hf.ok.bk
 refine (Good.ret [] (run_vc EUp_ok 1000 (urF0 ts h (rtF ts h) (fun x n => x = h ∧ gdF ts h = true)) ?_ (fun s m h => h) fun fs m hb => ur0_go (fun x n ⟨e1, e3⟩ => by
  rw [e1]
  have hl := (lv_mem hf.ok).2 e3
  have e : rtF ts h = rtL (upF ts) h := by unfold rtF; rw [if_pos e3]
  rw [e]
  exact uR_ok hf h h (.inr hl) n (fun e => absurd e (hf.fo.nz h hl)) (fun _ => rfl)) hb)).mono fun _ _ h => h.1
 cases hg : goodB (bkB ts) h with
 | false =>
  have e : rtF ts h = 0 := by unfold rtF; rw [show gdF ts h = false from hg]; rfl
  simp only [bk_f, hg, e, hs, h64, hbk, hh', Bool.not_false, q6]
 | true =>
  have hg' : gdF ts h = true := hg
  simp only [bk_f, hg, hg', hs, h64, hbk, hh', EqL_self, Bool.not_true, uD_d0_ok, uR_d1_ok0, q6]
theorem uO_ok (hf : FIn ts) (a h : Int) {o : Bool} : ∀ x, x = 0 ∨ x ∈ lvT ts → decide (a ∈ chL (upF ts) x) = o → Good Tryd.prog (retOk 0 [] (sB (.o o)) e0M) 0 (uO_F ts a h x) (uO_M ts a h x) := by
 have hs := hf.ok.sz
 have hb := hf.ok
 refine up_ind hf.fo (fun ho => ?_) fun x hx ih ho => ?_
 ·have e : o = false := by rw [← ho, ch_zero]; rfl
  refine past_vc EUp_ok 1000 (uoF ts a h 0 o (fun _ => False)) ?_ (fun _ _ h => h) (fun fs m hb => uo1_go (fun _ h => h.elim) hb)
  simp only [e, bne_self_eq_false, beqT, q6]
 ·refine past_vc EUp_ok 1000 (uoF ts a h x o (fun x' => x' = upF ts x ∧ (x == a) = false)) ?_ (fun _ _ h => h) (fun fs m hb => uo1_go (fun x' ⟨e1, e2⟩ => by
   rw [e1]
   refine ih ?_
   rw [← ho, ch_cons hf.fo hx]
   have e2 : x ≠ a := beq_eq_false_iff_ne.1 e2
   simp only [List.mem_cons, (show (a = x) = False from eq_false fun e => e2 e.symm), false_or]) hb)
  have d : (x != 0) = true := bne_iff_ne.2 (hf.fo.nz x hx)
  have hx' : 0 ≤ x ∧ x < 4294967296 := lv_in hb (.inr hx)
  cases c : (x == a) with
  | true =>
   have e : o = true := by
    have e2 : x = a := beq_iff_eq.1 c
    rw [← ho, ch_cons hf.fo hx, e2]
    simp
   simp only [d, e, beqT, q6]
  | false =>
   simp only [d, hs, hb, hx', EqL_self, beqT, uD_d0_ok, uO_d1_ok0, q6]
theorem out_con (a h : Int) (m : SMem) : Con E0 18 [tbS ts, u32 a, u32 h] m (needs [FIn ts, inH h] (.ret (sB (.o (outF ts a h))) m)) := by
 refine Con.pure E0_ok (by kernel_rfl : E0.fn 18 = some Tryd.f18) (by kernel_rfl : Tryd.f18.body = some (Tryd.f18.body.getD .skip)) (by kernel_rfl) (by kernel_rfl) fun hq => ?_
 have hf : FIn ts := hq _ (by simp)
 have hh : inH h := hq _ (by simp)
 have hh' : 0 ≤ h ∧ h < 4294967296 := hh
 have hs := hf.ok.sz
 have h64 : (64 : Nat) ≤ 448 := by decide
 have hbk : BkOk (bkB ts) := hf.ok.bk
 refine (Good.ret [] (run_vc EUp_ok 1000 (uoF0 ts a h (outF ts a h) (fun x => x = h ∧ gdF ts h = true)) ?_ (fun s m h => h) fun fs m hb => uo0_go (fun x ⟨e1, e3⟩ => by
  rw [e1]
  have hl := (lv_mem hf.ok).2 e3
  exact uO_ok hf a h h (.inr hl) (by unfold outF; rw [e3]; rfl)) hb)).mono fun _ _ h => h.1
 cases hg : goodB (bkB ts) h with
 | false =>
  have e : outF ts a h = false := by unfold outF; rw [show gdF ts h = false from hg]; rfl
  simp only [bk_f, hg, e, hs, h64, hbk, hh', Bool.not_false, q6]
 | true =>
  have hg' : gdF ts h = true := hg
  simp only [bk_f, hg, hg', hs, h64, hbk, hh', EqL_self, Bool.not_true, uD_d0_ok, uO_d1_ok0, q6]
def raE (ts : Array Value) (h up : Int) : Int := if gdF ts h = false ∨ (up ≠ 0 ∧ gdF ts up = false) then 4 else if h ∈ chL (upF ts) up then 12 else 0
def raS (ts : Array Value) (h up : Int) : Array Value := ts.setIfInBounds (pl h) (.int .u32 up)
def raT (ts : Array Value) (h up : Int) : Array Value := if raE ts h up = 0 then raS ts h up else ts
theorem rA_ok (hf : FIn ts) {h up : Int} (hh : gdF ts h = true) (hu : up = 0 ∨ gdF ts up = true) {zz : Array Value} (hz : zz.size = 448) : ∀ x, x = 0 ∨ x ∈ lvT ts → (h ∈ chL (upF ts) x ↔ h ∈ chL (upF ts) up) → Good Tryd.prog (retOk 0 [] (rgS (raT ts h up) (raE ts h up)) e0M) 0 (rA_F ts h up x zz) (rA_M ts h up x zz) := by
 have hs := hf.ok.sz
 have hb := hf.ok
 have hbk : BkOk (bkB ts) := hf.ok.bk
 have h64 : (64 : Nat) ≤ 448 := by decide
 obtain ⟨s1, s2, s3, s4, s5, s6, s7⟩ := good_f hb hh
 have hh' : 0 ≤ h ∧ h < 4294967296 := s6
 have es : (slotI h).toNat = sl h := rfl
 have n1 : ¬ (gdF ts h = false ∨ (up ≠ 0 ∧ gdF ts up = false)) := by
  rintro (k | ⟨k1, k2⟩)
  ·rw [hh] at k; cases k
  ·rcases hu with k | k
   ·exact k1 k
   ·rw [k] at k2; cases k2
 refine up_ind hf.fo (fun hi => ?_) fun x hx ih hi => ?_
 ·have n2 : h ∉ chL (upF ts) up := fun k => by have := hi.2 k; rw [ch_zero] at this; cases this
  have e1 : raE ts h up = 0 := by unfold raE; rw [if_neg n1, if_neg n2]
  have e2 : raT ts h up = raS ts h up := by unfold raT; rw [if_pos e1]
  refine past_vc ERa_ok 1000 (raF ts h up 0 zz (raT ts h up) (raE ts h up) (fun _ _ => False)) ?_ (fun _ _ h => h) (fun fs m hb => ra1_go (fun _ _ h => h.elim) hb)
  have e3 : ts.setIfInBounds (64 + sl h * 12) (.int .u32 up) = raS ts h up := rfl
  have e4 : (raS ts h up).size = 448 := by unfold raS; rw [set_size]; exact hs
  have y : 64 + sl h * 12 < 448 := by omega
  simp only [bne_self_eq_false, e1, e2, e3, e4, es, hs, hz, hh', s1, s2, y, q6]
 ·refine past_vc ERa_ok 1000 (raF ts h up x zz (raT ts h up) (raE ts h up) (fun x' z' => x' = upF ts x ∧ z' = zz ∧ (x == h) = false)) ?_ (fun _ _ h => h) (fun fs m hb => ra1_go (fun x' z' ⟨e1, e2, e3⟩ => by
   rw [e1, e2]
   refine ih ?_
   rw [← hi, ch_cons hf.fo hx]
   have e3 : x ≠ h := beq_eq_false_iff_ne.1 e3
   rw [List.mem_cons]
   exact ⟨.inr, fun k => k.resolve_left fun e => e3 e.symm⟩) hb)
  have d : (x != 0) = true := bne_iff_ne.2 (hf.fo.nz x hx)
  have hx' : 0 ≤ x ∧ x < 4294967296 := lv_in hb (.inr hx)
  cases c : (x == h) with
  | true =>
   have e : h ∈ chL (upF ts) up := by
    rw [← hi, ch_cons hf.fo hx, beq_iff_eq.1 c]
    exact List.mem_cons_self ..
   have e1 : raE ts h up = 12 := by unfold raE; rw [if_neg n1, if_pos e]
   have e2 : raT ts h up = ts := by unfold raT; rw [if_neg (by rw [e1]; decide)]
   simp only [d, e1, e2, hs, hz, q6]
  | false =>
   have hgx := (lv_mem hb).1 hx
   obtain ⟨x1, x2, x3, x4, x5, x6, x7⟩ := good_f hb hgx
   have r := hb.rg _ x3
   have esx : (slotI x).toNat = sl x := rfl
   have t0 : IsInt .u32 ts (64 + sl x * 12) := r.u
   have hu0 : 0 ≤ intAt ts (64 + sl x * 12) ∧ intAt ts (64 + sl x * 12) < 4294967296 := r.hu
   cases hp : goodB (bkB ts) (intAt ts (64 + sl x * 12)) with
   | true =>
    have eu : upF ts x = intAt ts (64 + sl x * 12) := by unfold upF; rw [hgx, if_pos rfl]; exact if_pos hp
    simp only [bk_f, d, hp, eu, esx, hs, h64, hbk, hx', hu0, x1, x2, t0, rA_d0_ok, q6]
   | false =>
    have eu : upF ts x = 0 := by unfold upF; rw [hgx, if_pos rfl]; exact if_neg (fun k => by have k : goodB (bkB ts) (intAt ts (64 + sl x * 12)) = true := k; rw [hp] at k; cases k)
    simp only [bk_f, d, hp, eu, esx, hs, h64, hbk, hx', hu0, x1, x2, t0, rA_d0_ok, q6]
theorem raise_con (h up : Int) (m : SMem) : Con E0 43 [tbS ts, u32 h, u32 up] m (needs [FIn ts, inH h, inH up] (.ret (rgS (raT ts h up) (raE ts h up)) m)) := by
 refine Con.pure E0_ok (by kernel_rfl : E0.fn 43 = some Tryd.f43) (by kernel_rfl : Tryd.f43.body = some (Tryd.f43.body.getD .skip)) (by kernel_rfl) (by kernel_rfl) fun hq => ?_
 have hf : FIn ts := hq _ (by simp)
 have hh : inH h := hq _ (by simp)
 have hu : inH up := hq _ (by simp)
 have hh' : 0 ≤ h ∧ h < 4294967296 := hh
 have hu' : 0 ≤ up ∧ up < 4294967296 := hu
 have hs := hf.ok.sz
 have h64 : (64 : Nat) ≤ 448 := by decide
 have hbk : BkOk (bkB ts) := hf.ok.bk
 refine (Good.ret [] (run_vc ERa_ok 1000 (raF0 ts h up (raT ts h up) (raE ts h up) (fun x z => x = up ∧ z.size = 448 ∧ gdF ts h = true ∧ (up = 0 ∨ gdF ts up = true))) ?_ (fun s m h => h) fun fs m hb => ra0_go (fun x z ⟨e1, e2, e3, e4⟩ => by
  rw [e1]
  exact rA_ok hf e3 e4 e2 up (e4.imp id (lv_mem hf.ok).2) Iff.rfl) hb)).mono fun _ _ h => h.1
 have bad : (gdF ts h = false ∨ (up ≠ 0 ∧ gdF ts up = false)) → raT ts h up = ts ∧ raE ts h up = 4 := fun k => by
  have e1 : raE ts h up = 4 := by unfold raE; rw [if_pos k]
  exact ⟨by unfold raT; rw [if_neg (by rw [e1]; decide)], e1⟩
 cases hg : goodB (bkB ts) h with
 | false =>
  obtain ⟨e1, e2⟩ := bad (.inl hg)
  simp only [bk_f, hg, e1, e2, hs, h64, hbk, hh', beqF, Bool.not_true, Bool.not_false, q6]
 | true =>
  have hg' : gdF ts h = true := hg
  by_cases hz : up = 0
  ·have d : (up != 0) = false := by rw [hz]; rfl
   simp only [bk_f, hg, hg', d, hz, bne_self_eq_false, hs, h64, hbk, hh', true_or, rA_d0_ok, q8, q6]
   rfl
  ·have d : (up != 0) = true := bne_iff_ne.2 hz
   cases hgu : goodB (bkB ts) up with
   | false =>
    obtain ⟨e1, e2⟩ := bad (.inr ⟨hz, hgu⟩)
    simp only [bk_f, hg, hgu, d, e1, e2, hs, h64, hbk, hh', hu', q8, q6]
   | true =>
    have hgu' : gdF ts up = true := hgu
    simp only [bk_f, hg, hg', hgu, hgu', d, hs, h64, hbk, hh', hu', or_true, rA_d0_ok, q8, q6]
    rfl
end
set_option linter.unusedVariables false
noncomputable def kdF (ts : Array Value) (h : Int) : List Int := if gdF ts h = true then kidsL (lvT ts) (upF ts) h else []
noncomputable def conT2 (g : FuncId) (l : List SV) (m : SMem) : Option Tree := match g, l with
 | 69, [.s (.agg (.op ts)), .s (.c (.f (.int .u32 h)))] => some (.need [TbOk ts, inH h.den] (rowT (kdF ts h.den) 30 m))
 | 48, [.s (.agg (.op ts)), .s (.c (.f (.int .u32 h)))] => some (.need [FIn ts, inH h.den] (.ret (i64 (.o (depF ts h.den : Int))) m))
 | 47, [.s (.agg (.op ts)), .s (.c (.f (.int .u32 h)))] => some (.need [FIn ts, inH h.den] (.ret (u32o (rtF ts h.den)) m))
 | 18, [.s (.agg (.op ts)), .s (.c (.f (.int .u32 a))), .s (.c (.f (.int .u32 h)))] => some (.need [FIn ts, inH h.den] (.ret (sB (.o (outF ts a.den h.den))) m))
 | 43, [.s (.agg (.op ts)), .s (.c (.f (.int .u32 h))), .s (.c (.f (.int .u32 u)))] => some (.need [FIn ts, inH h.den, inH u.den] (.ret (rgS (raT ts h.den u.den) (raE ts h.den u.den)) m))
 | g, l => conT1 g l m
noncomputable def EKd : Env := ⟨Tryd.prog, fnOf, conT1, haltAt [69 * 1000 + 5]⟩
noncomputable def EU0 : Env := ⟨Tryd.prog, fnOf, conT2, haltAt [80 * 1000 + 3]⟩
noncomputable def EUn : Env := ⟨Tryd.prog, fnOf, conT2, haltAt [80 * 1000 + 3, 67 * 1000 + 3]⟩
noncomputable def unLp : LoopP := rfP Tryd.f41 0 41
noncomputable def wkLp : LoopP := rfP Tryd.f67 0 67
noncomputable def nlS : SV := .s (.c (.f (.lit (.slice none 0 0))))
noncomputable def slS (i n : Nat) : SV := .s (.c (.f (.slice i (.l 0) (.o n) (.full 1))))
noncomputable def slC (i n : Nat) : SC := .f (.slice i (.l 0) (.o n) (.full 1))
noncomputable def slK (i n : Nat) : SC := .f (.slice i (.l 0) (.o n) (.cut 1))
noncomputable def kZ_d0 : List SIt := sekF Tryd.f69 5
noncomputable def kZ_F (ts : Array Value) (h : Int) (n : Nat) (rs : Array Value) (i : Int) : List SFr := [frOf 69 Tryd.f69 [(1, .s (.c (.f (.int .u32 (.o h))))), (2, ptr 0 (.l 0)), (5, nlS), (14, slS 1 n), (15, i64 (.o (n : Int))), (16, i64 (.o i))] kZ_d0]
noncomputable def kZ_M (ts : Array Value) (h : Int) (n : Nat) (rs : Array Value) (i : Int) : SMem := mkM 2 [(0, ⟨.op ts, 39, true⟩), (1, ⟨.pop rs, 30, true⟩)]
noncomputable def kZ_n (ts : Array Value) (h : Int) (n : Nat) (rs : Array Value) (Q : Int → Prop) (fs : List SFr) (m : SMem) : Prop := (match frNth fs 0 with | some f0 => (match rdI f0 16 with | some i => (match rdP f0 2 with | some p0 => (match rdSI f0 14 with | some p1 => Q i ∧ subOk 0 [(0, p0), (1, p1)] (kZ_F ts h n rs i) (kZ_M ts h n rs i) fs m | none => False) | none => False) | none => False) | none => False)
noncomputable def kS_d0 : List SIt := sekF Tryd.f69 5
noncomputable def kS_F (ts : Array Value) (h : Int) (n : Nat) (rs : Array Value) (i : Int) (k : Nat) (cs : Array Value) : List SFr := [frOf 69 Tryd.f69 [(1, .s (.c (.f (.int .u32 (.o h))))), (2, ptr 0 (.l 0)), (5, slS 2 k), (14, slS 1 n), (15, i64 (.o (n : Int))), (16, i64 (.o i))] kS_d0]
noncomputable def kS_M (ts : Array Value) (h : Int) (n : Nat) (rs : Array Value) (i : Int) (k : Nat) (cs : Array Value) : SMem := mkM 3 [(0, ⟨.op ts, 39, true⟩), (1, ⟨.pop rs, 30, true⟩), (2, ⟨.pop cs, 30, true⟩)]
noncomputable def kS_n (ts : Array Value) (h : Int) (n : Nat) (rs : Array Value) (Q : Int → Nat → Array Value → Prop) (fs : List SFr) (m : SMem) : Prop := (match frNth fs 0 with | some f0 => (match rdI f0 16 with | some i => (match rdP f0 2 with | some p0 => (match rdSI f0 14 with | some p1 => (match rdSI f0 5 with | some p2 => (match rdSN f0 5 with | some k => (match rdA m p2 with | some cs => Q i k cs ∧ subOk 0 [(0, p0), (1, p1), (2, p2)] (kS_F ts h n rs i k cs) (kS_M ts h n rs i k cs) fs m | none => False) | none => False) | none => False) | none => False) | none => False) | none => False) | none => False)
noncomputable def kZS (ts : Array Value) (h : Int) (n : Nat) (rs : Array Value) (QZ : Int → Prop) (QS : Int → Nat → Array Value → Prop) (fs : List SFr) (m : SMem) : Prop := match fs with | f :: _ => (match f.tm.get 5 with | some (.s (.c (.f (.slice _ _ _ _)))) => kS_n ts h n rs QS fs m | _ => kZ_n ts h n rs QZ fs m) | [] => False
noncomputable def nilK (s : SV) (m : SMem) : Prop := match s with | .s (.c (.f (.lit (.slice none 0 0)))) => True | _ => False
noncomputable def kd0_t (ts : Array Value) (h : Int) (n : Nat) (rs : Array Value) : Tree := run EKd 1000 0 [callFr 69 Tryd.f69.ntmps [tbS ts, u32 h] (Tryd.f69.body.getD .skip)] e0M
noncomputable def kd0_x (ts : Array Value) (h : Int) (n : Nat) (rs : Array Value) (QkZ : Int → Prop) (fs : List SFr) (m : SMem) : Prop := kZ_n ts h n rs QkZ fs m
noncomputable def uA_d0 : List SIt := sekF Tryd.f67 3
noncomputable def uA_d1 : List SIt := .inR 5 :: rfK Tryd.f41 0
noncomputable def uA_F (j : Nat) (ts : Array Value) (q : Nat) (os : Array Value) (n : Nat) (cs : Array Value) : List SFr := [frOfD 67 Tryd.f67 [(0, ylS 5), (1, ptr 2 (.l 0)), (4, ptr 7 (.l 0))] uA_d0 (colD (j)), frRf 41 Tryd.f41 [(5, ptr 1 (.l 0))] uA_d1 4]
noncomputable def uA_M (j : Nat) (ts : Array Value) (q : Nat) (os : Array Value) (n : Nat) (cs : Array Value) : SMem := addX (colX (j)) (mkMX 60 [(1, ⟨.ls [slC 3 q], 68, true⟩), (2, ⟨.op ts, 39, true⟩), (3, ⟨.pop os, 30, true⟩), (6, ⟨.pop cs, 30, true⟩), (7, ⟨.ls [slK 6 n], 68, true⟩)] [(4, .defr), (5, rfLp Tryd.f41 0 41 (tmOf Tryd.f41.ntmps [(5, ptr 1 (.l 0))]) 4)])
noncomputable def uA_n (j : Nat) (ts : Array Value) (Q : Nat → Array Value → Nat → Array Value → Prop) (fs : List SFr) (m : SMem) : Prop := (match frNth fs 0 with | some f0 => (match frNth fs 1 with | some f1 => (match rdP f1 5 with | some p1 => (match rdP f0 1 with | some p2 => (match rdCP m p1 0 with | some p3 => (match rdYl f0 0 with | some p5 => (match rdDl m p5 with | some p4 => (match rdP f0 4 with | some p7 => (match rdCP m p7 0 with | some p6 => (match rdCN m p1 0 with | some q => (match rdA m p3 with | some os => (match rdCN m p7 0 with | some n => (match rdA m p6 with | some cs => Q q os n cs ∧ subOk 0 ([(1, p1), (2, p2), (3, p3), (4, p4), (5, p5), (6, p6), (7, p7)] ++ colZ (j) f0.dfs) (uA_F j ts q os n cs) (uA_M j ts q os n cs) fs m | none => False) | none => False) | none => False) | none => False) | none => False) | none => False) | none => False) | none => False) | none => False) | none => False) | none => False) | none => False) | none => False)
noncomputable def uB_d0 : List SIt := sekF Tryd.f80 3
noncomputable def uB_d1 : List SIt := .inR 65 :: rfK Tryd.f67 0
noncomputable def uB_d2 : List SIt := .inR 5 :: rfK Tryd.f41 0
noncomputable def uB_F (j : Nat) (ts : Array Value) (r : Nat) (ks : Array Value) (i : Int) (q : Nat) (os : Array Value) (n : Nat) (cs : Array Value) : List SFr := [frOf 80 Tryd.f80 [(0, ylS 65), (1, ptr 63 (.l 0)), (3, i64 (.o i))] uB_d0, frOfD 67 Tryd.f67 [(0, ylS 5), (1, ptr 2 (.l 0)), (4, ptr 7 (.l 0))] uB_d1 (colD (j+1)), frRf 41 Tryd.f41 [(5, ptr 1 (.l 0))] uB_d2 4]
noncomputable def uB_M (j : Nat) (ts : Array Value) (r : Nat) (ks : Array Value) (i : Int) (q : Nat) (os : Array Value) (n : Nat) (cs : Array Value) : SMem := addX (colX (j+1)) (mkMX 66 [(1, ⟨.ls [slC 61 q], 68, true⟩), (2, ⟨.op ts, 39, true⟩), (6, ⟨.pop cs, 30, true⟩), (7, ⟨.ls [slK 6 n], 68, true⟩), (61, ⟨.pop os, 30, true⟩), (62, ⟨.pop ks, 30, true⟩), (63, ⟨.ls [slC 62 r], 68, true⟩)] [(4, .defr), (5, rfLp Tryd.f41 0 41 (tmOf Tryd.f41.ntmps [(5, ptr 1 (.l 0))]) 4), (65, rfLp Tryd.f67 0 67 (tmOf Tryd.f67.ntmps [(0, ylS 5), (1, ptr 2 (.l 0)), (4, ptr 7 (.l 0))]) (20 + j))])
noncomputable def uB_n (j : Nat) (ts : Array Value) (r : Nat) (ks : Array Value) (Q : Int → Nat → Array Value → Nat → Array Value → Prop) (fs : List SFr) (m : SMem) : Prop := (match frNth fs 0 with | some f0 => (match frNth fs 1 with | some f1 => (match frNth fs 2 with | some f2 => (match rdI f0 3 with | some i => (match rdP f2 5 with | some p1 => (match rdP f1 1 with | some p2 => (match rdYl f1 0 with | some p5 => (match rdDl m p5 with | some p4 => (match rdP f1 4 with | some p7 => (match rdCP m p7 0 with | some p6 => (match rdCP m p1 0 with | some p61 => (match rdP f0 1 with | some p63 => (match rdCP m p63 0 with | some p62 => (match rdYl f0 0 with | some p65 => (match rdCN m p1 0 with | some q => (match rdA m p61 with | some os => (match rdCN m p7 0 with | some n => (match rdA m p6 with | some cs => Q i q os n cs ∧ subOk 0 ([(1, p1), (2, p2), (4, p4), (5, p5), (6, p6), (7, p7), (61, p61), (62, p62), (63, p63), (65, p65)] ++ colZ (j+1) f1.dfs) (uB_F j ts r ks i q os n cs) (uB_M j ts r ks i q os n cs) fs m | none => False) | none => False) | none => False) | none => False) | none => False) | none => False) | none => False) | none => False) | none => False) | none => False) | none => False) | none => False) | none => False) | none => False) | none => False) | none => False) | none => False) | none => False)
noncomputable def uI_d0 : List SIt := sekF Tryd.f80 3
noncomputable def uI_d1 : List SIt := .inR 13 :: rfK Tryd.f67 0
noncomputable def uI_d2 : List SIt := .inR 5 :: rfK Tryd.f41 0
noncomputable def uI_F (ts : Array Value) (h : Int) (r : Nat) (ks : Array Value) (i : Int) : List SFr := [frOf 80 Tryd.f80 [(0, ylS 13), (1, ptr 11 (.l 0)), (3, i64 (.o i))] uI_d0, frRf 67 Tryd.f67 [(0, ylS 5), (1, ptr 2 (.l 0)), (4, ptr 7 (.l 0))] uI_d1 12, frRf 41 Tryd.f41 [(5, ptr 1 (.l 0))] uI_d2 4]
noncomputable def uI_M (ts : Array Value) (h : Int) (r : Nat) (ks : Array Value) (i : Int) : SMem := mkMX 14 [(1, ⟨.ls [.f (.slice 9 (.l 0) (.l 1) (.full 1))], 68, true⟩), (2, ⟨.op ts, 39, true⟩), (6, ⟨.ls [.f (.int .u32 (.o h))], 30, true⟩), (7, ⟨.ls [.f (.slice 6 (.l 0) (.l 0) (.n (.l 1)))], 68, true⟩), (9, ⟨.pre [.f (.int .u32 (.o h))], 30, true⟩), (10, ⟨.pop ks, 30, true⟩), (11, ⟨.ls [slC 10 r], 68, true⟩)] [(4, .defr), (5, rfLp Tryd.f41 0 41 (tmOf Tryd.f41.ntmps [(5, ptr 1 (.l 0))]) 4), (12, .defr), (13, rfLp Tryd.f67 0 67 (tmOf Tryd.f67.ntmps [(0, ylS 5), (1, ptr 2 (.l 0)), (4, ptr 7 (.l 0))]) 12)]
noncomputable def uI_n (ts : Array Value) (h : Int) (r : Nat) (ks : Array Value) (Q : Int → Prop) (fs : List SFr) (m : SMem) : Prop := (match frNth fs 0 with | some f0 => (match frNth fs 1 with | some f1 => (match frNth fs 2 with | some f2 => (match rdI f0 3 with | some i => (match rdP f2 5 with | some p1 => (match rdP f1 1 with | some p2 => (match rdYl f1 0 with | some p5 => (match rdDl m p5 with | some p4 => (match rdP f1 4 with | some p7 => (match rdCP m p7 0 with | some p6 => (match rdCP m p1 0 with | some p9 => (match rdP f0 1 with | some p11 => (match rdCP m p11 0 with | some p10 => (match rdYl f0 0 with | some p13 => (match rdDl m p13 with | some p12 => Q i ∧ subOk 0 [(1, p1), (2, p2), (4, p4), (5, p5), (6, p6), (7, p7), (9, p9), (10, p10), (11, p11), (12, p12), (13, p13)] (uI_F ts h r ks i) (uI_M ts h r ks i) fs m | none => False) | none => False) | none => False) | none => False) | none => False) | none => False) | none => False) | none => False) | none => False) | none => False) | none => False) | none => False) | none => False) | none => False) | none => False)
noncomputable def unT0 (ts : Array Value) (h : Int) : Tree := run EU0 1000 0 [callFr 41 Tryd.f41.ntmps [tbS ts, u32 h] (Tryd.f41.body.getD .skip)] e0M
noncomputable def uAB (j : Nat) (ts : Array Value) (r : Nat) (ks : Array Value) (QA : Nat → Array Value → Nat → Array Value → Prop) (QB : Int → Nat → Array Value → Nat → Array Value → Prop) (fs : List SFr) (m : SMem) : Prop := match Nat.beq (atR fs) (67 * 1000 + 3) with | true => uA_n (j + 1) ts QA fs m | false => uB_n j ts r ks QB fs m
theorem kZ_d0_ok (r : Nat → Option Nat) : TodoOk r kZ_d0 kZ_d0 := TodoOk.it (by kernel_rfl)
theorem kS_d0_ok (r : Nat → Option Nat) : TodoOk r kS_d0 kS_d0 := TodoOk.it (by kernel_rfl)
theorem uA_d0_ok (r : Nat → Option Nat) : TodoOk r uA_d0 uA_d0 := TodoOk.it (by kernel_rfl)
theorem uA_d1_ok {l : List (Nat × Nat)} : TodoOk (ren 0 ([(1, 1), (2, 2), (3, 3), (4, 4), (5, 5), (6, 6), (7, 7)] ++ l)) uA_d1 uA_d1 := TodoOk.rf rfl (by kernel_rfl)
theorem uA_d1_ok0 : TodoOk (ren 0 [(1, 1), (2, 2), (3, 3), (4, 4), (5, 5), (6, 6), (7, 7)]) uA_d1 uA_d1 := TodoOk.rf rfl (by kernel_rfl)
theorem uB_d0_ok (r : Nat → Option Nat) : TodoOk r uB_d0 uB_d0 := TodoOk.it (by kernel_rfl)
theorem uB_d1_ok {l : List (Nat × Nat)} : TodoOk (ren 0 ([(1, 1), (2, 2), (4, 4), (5, 5), (6, 6), (7, 7), (61, 61), (62, 62), (63, 63), (65, 65)] ++ l)) uB_d1 uB_d1 := TodoOk.rf rfl (by kernel_rfl)
theorem uB_d1_ok0 : TodoOk (ren 0 [(1, 1), (2, 2), (4, 4), (5, 5), (6, 6), (7, 7), (61, 61), (62, 62), (63, 63), (65, 65)]) uB_d1 uB_d1 := TodoOk.rf rfl (by kernel_rfl)
theorem uB_d2_ok {l : List (Nat × Nat)} : TodoOk (ren 0 ([(1, 1), (2, 2), (4, 4), (5, 5), (6, 6), (7, 7), (61, 61), (62, 62), (63, 63), (65, 65)] ++ l)) uB_d2 uB_d2 := TodoOk.rf rfl (by kernel_rfl)
theorem uI_d0_ok (r : Nat → Option Nat) : TodoOk r uI_d0 uI_d0 := TodoOk.it (by kernel_rfl)
theorem uI_d1_ok {l : List (Nat × Nat)} : TodoOk (ren 0 ([(1, 1), (2, 2), (4, 4), (5, 5), (6, 6), (7, 7), (9, 9), (10, 10), (11, 11), (12, 12), (13, 13)] ++ l)) uI_d1 uI_d1 := TodoOk.rf rfl (by kernel_rfl)
theorem uI_d1_ok0 : TodoOk (ren 0 [(1, 1), (2, 2), (4, 4), (5, 5), (6, 6), (7, 7), (9, 9), (10, 10), (11, 11), (12, 12), (13, 13)]) uI_d1 uI_d1 := TodoOk.rf rfl (by kernel_rfl)
theorem uI_d2_ok {l : List (Nat × Nat)} : TodoOk (ren 0 ([(1, 1), (2, 2), (4, 4), (5, 5), (6, 6), (7, 7), (9, 9), (10, 10), (11, 11), (12, 12), (13, 13)] ++ l)) uI_d2 uI_d2 := TodoOk.rf rfl (by kernel_rfl)
theorem kZ_good {A : SV → SMem → Prop} {ts : Array Value} {h : Int} {n : Nat} {rs : Array Value} {Q : Int → Prop} {fs : List SFr} {m : SMem} (H : ∀ i, Q i → Good Tryd.prog A 0 (kZ_F ts h n rs i) (kZ_M ts h n rs i)) (hb : kZ_n ts h n rs Q fs m) : Good Tryd.prog A 0 fs m := by
 unfold kZ_n at hb
 iterate 4 (split at hb; rotate_left; exact hb.elim)
 exact Good.of_sub hb.2 (H _ hb.1)
theorem kS_good {A : SV → SMem → Prop} {ts : Array Value} {h : Int} {n : Nat} {rs : Array Value} {Q : Int → Nat → Array Value → Prop} {fs : List SFr} {m : SMem} (H : ∀ i k cs, Q i k cs → Good Tryd.prog A 0 (kS_F ts h n rs i k cs) (kS_M ts h n rs i k cs)) (hb : kS_n ts h n rs Q fs m) : Good Tryd.prog A 0 fs m := by
 unfold kS_n at hb
 iterate 7 (split at hb; rotate_left; exact hb.elim)
 exact Good.of_sub hb.2 (H _ _ _ hb.1)
theorem kd0_go {A : SV → SMem → Prop} {ts : Array Value} {h : Int} {n : Nat} {rs : Array Value} {QkZ : Int → Prop} {fs : List SFr} {m : SMem} (hkZ : ∀ i', QkZ i' → Good Tryd.prog A 0 (kZ_F ts h n rs i') (kZ_M ts h n rs i')) (hb : kd0_x ts h n rs QkZ fs m) : Good Tryd.prog A 0 fs m := by
 unfold kd0_x at hb
 exact kZ_good hkZ hb
theorem uA_good {A : SV → SMem → Prop} {j : Nat} {ts : Array Value} {Q : Nat → Array Value → Nat → Array Value → Prop} {fs : List SFr} {m : SMem} (H : ∀ q os n cs, Q q os n cs → Good Tryd.prog A 0 (uA_F j ts q os n cs) (uA_M j ts q os n cs)) (hb : uA_n j ts Q fs m) : Good Tryd.prog A 0 fs m := by
 unfold uA_n at hb
 iterate 13 (split at hb; rotate_left; exact hb.elim)
 exact Good.of_sub hb.2 (H _ _ _ _ hb.1)
theorem uB_good {A : SV → SMem → Prop} {j : Nat} {ts : Array Value} {r : Nat} {ks : Array Value} {Q : Int → Nat → Array Value → Nat → Array Value → Prop} {fs : List SFr} {m : SMem} (H : ∀ i q os n cs, Q i q os n cs → Good Tryd.prog A 0 (uB_F j ts r ks i q os n cs) (uB_M j ts r ks i q os n cs)) (hb : uB_n j ts r ks Q fs m) : Good Tryd.prog A 0 fs m := by
 unfold uB_n at hb
 iterate 18 (split at hb; rotate_left; exact hb.elim)
 exact Good.of_sub hb.2 (H _ _ _ _ _ hb.1)
theorem uI_good {A : SV → SMem → Prop} {ts : Array Value} {h : Int} {r : Nat} {ks : Array Value} {Q : Int → Prop} {fs : List SFr} {m : SMem} (H : ∀ i, Q i → Good Tryd.prog A 0 (uI_F ts h r ks i) (uI_M ts h r ks i)) (hb : uI_n ts h r ks Q fs m) : Good Tryd.prog A 0 fs m := by
 unfold uI_n at hb
 iterate 15 (split at hb; rotate_left; exact hb.elim)
 exact Good.of_sub hb.2 (H _ hb.1)
set_option maxRecDepth 100000
theorem kd1 (ts : Array Value) (h : Int) (n : Nat) (rs : Array Value) (i : Int) (QZ : Int → Prop) (QS : Int → Nat → Array Value → Prop) : (stepT EKd.go (run EKd 1000) 0 (kZ_F ts h n rs i) (kZ_M ts h n rs i)).vc nilK (kZS ts h n rs QZ QS) =
  ((decide (i < (↑n : Int)) = true → ((0 ≤ i ∧ i < (↑n : Int)) ∧ True) ∧ (IsInt .u32 rs (0 + Int.toNat i * 1) ∧ True) ∧ (Array.size ts = 448 ∧ True) ∧ (TbOk ts ∧ (0 ≤ intAt rs (0 + Int.toNat i * 1) ∧ intAt rs (0 + Int.toNat i * 1) < 4294967296) ∧ True) ∧ ((upF ts (intAt rs (0 + Int.toNat i * 1)) == h) = true → QS (ari .add .i64 i 1) (1 : Nat) #[Value.int .u32 (intAt rs (0 + Int.toNat i * 1))] ∧ cN ∧ TodoOk (ren 0 [(0, 0), (1, 1), (2, 3)]) kZ_d0 kZ_d0 ∧ h = h ∧ (↑n : Int) = (↑n : Int) ∧ (1 : Nat) = 1 ∧ ari .add .i64 i 1 = ari .add .i64 i 1 ∧ n = n ∧ 39 = 39 ∧ ts = ts ∧ 30 = 30 ∧ rs = rs ∧ 30 = 30 ∧ #[Value.int .u32 (intAt rs (0 + Int.toNat i * 1))] = #[Value.int .u32 (intAt rs (0 + Int.toNat i * 1))] ∧ True) ∧ ((upF ts (intAt rs (0 + Int.toNat i * 1)) == h) = false → QZ (ari .add .i64 i 1) ∧ cN ∧ TodoOk (ren 0 [(0, 0), (1, 1)]) kZ_d0 kZ_d0 ∧ h = h ∧ (↑n : Int) = (↑n : Int) ∧ Value.slice none 0 0 = Value.slice none 0 0 ∧ ari .add .i64 i 1 = ari .add .i64 i 1 ∧ n = n ∧ 39 = 39 ∧ ts = ts ∧ 30 = 30 ∧ rs = rs ∧ True)) ∧ (decide (i < (↑n : Int)) = false → True)) := by kernel_rfl
theorem kd2 (ts : Array Value) (h : Int) (n : Nat) (rs : Array Value) (i : Int) (kF : Nat) (csF : Array Value) (QZ : Int → Prop) (QS : Int → Nat → Array Value → Prop) : (stepT EKd.go (run EKd 1000) 0 (kZ_F ts h n rs i) (kZ_M ts h n rs i)).vc (freshA kF csF 30) (kZS ts h n rs QZ QS) =
  ((decide (i < (↑n : Int)) = true → ((0 ≤ i ∧ i < (↑n : Int)) ∧ True) ∧ (IsInt .u32 rs (0 + Int.toNat i * 1) ∧ True) ∧ (Array.size ts = 448 ∧ True) ∧ (TbOk ts ∧ (0 ≤ intAt rs (0 + Int.toNat i * 1) ∧ intAt rs (0 + Int.toNat i * 1) < 4294967296) ∧ True) ∧ ((upF ts (intAt rs (0 + Int.toNat i * 1)) == h) = true → QS (ari .add .i64 i 1) (1 : Nat) #[Value.int .u32 (intAt rs (0 + Int.toNat i * 1))] ∧ cN ∧ TodoOk (ren 0 [(0, 0), (1, 1), (2, 3)]) kZ_d0 kZ_d0 ∧ h = h ∧ (↑n : Int) = (↑n : Int) ∧ (1 : Nat) = 1 ∧ ari .add .i64 i 1 = ari .add .i64 i 1 ∧ n = n ∧ 39 = 39 ∧ ts = ts ∧ 30 = 30 ∧ rs = rs ∧ 30 = 30 ∧ #[Value.int .u32 (intAt rs (0 + Int.toNat i * 1))] = #[Value.int .u32 (intAt rs (0 + Int.toNat i * 1))] ∧ True) ∧ ((upF ts (intAt rs (0 + Int.toNat i * 1)) == h) = false → QZ (ari .add .i64 i 1) ∧ cN ∧ TodoOk (ren 0 [(0, 0), (1, 1)]) kZ_d0 kZ_d0 ∧ h = h ∧ (↑n : Int) = (↑n : Int) ∧ Value.slice none 0 0 = Value.slice none 0 0 ∧ ari .add .i64 i 1 = ari .add .i64 i 1 ∧ n = n ∧ 39 = 39 ∧ ts = ts ∧ 30 = 30 ∧ rs = rs ∧ True)) ∧ (decide (i < (↑n : Int)) = false → False)) := by kernel_rfl
theorem kd3 (ts : Array Value) (h : Int) (n : Nat) (rs : Array Value) (i : Int) (k : Nat) (cs : Array Value) (kF : Nat) (csF : Array Value) (QS : Int → Nat → Array Value → Prop) : (stepT EKd.go (run EKd 1000) 0 (kS_F ts h n rs i k cs) (kS_M ts h n rs i k cs)).vc (freshA kF csF 30) (kS_n ts h n rs QS) =
  ((decide (i < (↑n : Int)) = true → ((0 ≤ i ∧ i < (↑n : Int)) ∧ True) ∧ (IsInt .u32 rs (0 + Int.toNat i * 1) ∧ True) ∧ (Array.size ts = 448 ∧ True) ∧ (TbOk ts ∧ (0 ≤ intAt rs (0 + Int.toNat i * 1) ∧ intAt rs (0 + Int.toNat i * 1) < 4294967296) ∧ True) ∧ ((upF ts (intAt rs (0 + Int.toNat i * 1)) == h) = true → (((k + 1) * 4 ≤ 140737488355328 ∧ k + 1 ≤ 140737488355328) ∧ k * 1 = Array.size cs ∧ True) ∧ QS (ari .add .i64 i 1) (k + 1) (cs ++ #[Value.int .u32 (intAt rs (0 + Int.toNat i * 1))]) ∧ cN ∧ TodoOk (ren 0 [(0, 0), (1, 1), (2, 4)]) kZ_d0 kZ_d0 ∧ h = h ∧ (↑n : Int) = (↑n : Int) ∧ k + 1 = k + 1 ∧ ari .add .i64 i 1 = ari .add .i64 i 1 ∧ n = n ∧ 39 = 39 ∧ ts = ts ∧ 30 = 30 ∧ rs = rs ∧ 30 = 30 ∧ cs ++ #[Value.int .u32 (intAt rs (0 + Int.toNat i * 1))] = cs ++ #[Value.int .u32 (intAt rs (0 + Int.toNat i * 1))] ∧ True) ∧ ((upF ts (intAt rs (0 + Int.toNat i * 1)) == h) = false → QS (ari .add .i64 i 1) k cs ∧ cN ∧ TodoOk (ren 0 [(0, 0), (1, 1), (2, 2)]) kZ_d0 kZ_d0 ∧ h = h ∧ (↑n : Int) = (↑n : Int) ∧ k = k ∧ ari .add .i64 i 1 = ari .add .i64 i 1 ∧ n = n ∧ 39 = 39 ∧ ts = ts ∧ 30 = 30 ∧ rs = rs ∧ 30 = 30 ∧ cs = cs ∧ True)) ∧ (decide (i < (↑n : Int)) = false → kF = k ∧ 30 = 30 ∧ csF = cs ∧ True)) := by kernel_rfl
theorem kdN (ts : Array Value) (h : Int) (n : Nat) (rs : Array Value) (Q : Int → Prop) : (kd0_t ts h n rs).vc nilK (kd0_x ts h n rs Q) =
  ((64 ≤ Array.size ts ∧ True) ∧ (BkOk (Array.extract ts 0 64) ∧ (0 ≤ h ∧ h < 4294967296) ∧ True) ∧ ((!goodB (Array.extract ts 0 64) h) = true → True) ∧ ((!goodB (Array.extract ts 0 64) h) = false → (Array.size ts = 448 ∧ True) ∧ (64 ≤ Array.size ts ∧ True) ∧ (BkOk (Array.extract ts 0 64) ∧ True) ∧ (decide (List.length (issued (Array.extract ts 0 64)) = 0) = true → False) ∧ (decide (List.length (issued (Array.extract ts 0 64)) = 0) = false → Q (0 : Int) ∧ cN ∧ TodoOk (ren 0 [(0, 0), (1, 2)]) kZ_d0 kZ_d0 ∧ h = h ∧ (↑n : Int) = (↑(List.length (issued (Array.extract ts 0 64))) : Int) ∧ Value.slice none 0 0 = Value.slice none 0 0 ∧ (0 : Int) = (0 : Int) ∧ n = List.length (issued (Array.extract ts 0 64)) ∧ 39 = 39 ∧ ts = ts ∧ 30 = 30 ∧ rs = u32s (issued (Array.extract ts 0 64)) ∧ True))) := by kernel_rfl
theorem kdF0 (ts : Array Value) (h : Int) (n : Nat) (rs : Array Value) (kF : Nat) (csF : Array Value) (Q : Int → Prop) : (kd0_t ts h n rs).vc (freshA kF csF 30) (kd0_x ts h n rs Q) =
  ((64 ≤ Array.size ts ∧ True) ∧ (BkOk (Array.extract ts 0 64) ∧ (0 ≤ h ∧ h < 4294967296) ∧ True) ∧ ((!goodB (Array.extract ts 0 64) h) = true → False) ∧ ((!goodB (Array.extract ts 0 64) h) = false → (Array.size ts = 448 ∧ True) ∧ (64 ≤ Array.size ts ∧ True) ∧ (BkOk (Array.extract ts 0 64) ∧ True) ∧ (decide (List.length (issued (Array.extract ts 0 64)) = 0) = true → False) ∧ (decide (List.length (issued (Array.extract ts 0 64)) = 0) = false → Q (0 : Int) ∧ cN ∧ TodoOk (ren 0 [(0, 0), (1, 2)]) kZ_d0 kZ_d0 ∧ h = h ∧ (↑n : Int) = (↑(List.length (issued (Array.extract ts 0 64))) : Int) ∧ Value.slice none 0 0 = Value.slice none 0 0 ∧ (0 : Int) = (0 : Int) ∧ n = List.length (issued (Array.extract ts 0 64)) ∧ 39 = 39 ∧ ts = ts ∧ 30 = 30 ∧ rs = u32s (issued (Array.extract ts 0 64)) ∧ True))) := by kernel_rfl
theorem unN (ts : Array Value) (h : Int) (r : Nat) (ks : Array Value) (Q : Int → Prop) : (unT0 ts h).vc nilK (uI_n ts h r ks Q) =
  ((Array.size ts = 448 ∧ True) ∧ (64 ≤ Array.size ts ∧ True) ∧ (BkOk (Array.extract ts 0 64) ∧ (0 ≤ h ∧ h < 4294967296) ∧ True) ∧ ((!goodB (Array.extract ts 0 64) h) = true → True) ∧ ((!goodB (Array.extract ts 0 64) h) = false → (Array.size ts = 448 ∧ True) ∧ (TbOk ts ∧ (0 ≤ h ∧ h < 4294967296) ∧ True) ∧ (decide (List.length (kdF ts h) = 0) = true → False) ∧ (decide (List.length (kdF ts h) = 0) = false → (decide (ari .sub .i64 (↑(List.length (kdF ts h)) : Int) (1 : Int) ≥ 0) = true → Q (ari .sub .i64 (↑(List.length (kdF ts h)) : Int) (1 : Int)) ∧ cN ∧ TodoOk (ren 0 [(1, 1), (2, 2), (4, 4), (5, 5), (6, 6), (7, 7), (9, 9), (10, 10), (11, 11), (12, 12), (13, 13)]) uB_d0 uB_d0 ∧ ari .sub .i64 (↑(List.length (kdF ts h)) : Int) (1 : Int) = ari .sub .i64 (↑(List.length (kdF ts h)) : Int) (1 : Int) ∧ cN ∧ TodoOk (ren 0 [(1, 1), (2, 2), (4, 4), (5, 5), (6, 6), (7, 7), (9, 9), (10, 10), (11, 11), (12, 12), (13, 13)]) uI_d1 uI_d1 ∧ cN ∧ TodoOk (ren 0 [(1, 1), (2, 2), (4, 4), (5, 5), (6, 6), (7, 7), (9, 9), (10, 10), (11, 11), (12, 12), (13, 13)]) uA_d1 uA_d1 ∧ 68 = 68 ∧ 68 = 68 ∧ 68 = 68 ∧ r = List.length (kdF ts h) ∧ 30 = 30 ∧ h = h ∧ 39 = 39 ∧ ts = ts ∧ 30 = 30 ∧ h = h ∧ 30 = 30 ∧ ks = u32s (kdF ts h) ∧ EqL unLp unLp ∧ EqL wkLp wkLp ∧ True) ∧ (decide (ari .sub .i64 (↑(List.length (kdF ts h)) : Int) (1 : Int) ≥ 0) = false → False)))) := by kernel_rfl
theorem unF0 (ts : Array Value) (h : Int) (r : Nat) (ks : Array Value) (kF : Nat) (csF : Array Value) (Q : Int → Prop) : (unT0 ts h).vc (freshA kF csF 30) (uI_n ts h r ks Q) =
  ((Array.size ts = 448 ∧ True) ∧ (64 ≤ Array.size ts ∧ True) ∧ (BkOk (Array.extract ts 0 64) ∧ (0 ≤ h ∧ h < 4294967296) ∧ True) ∧ ((!goodB (Array.extract ts 0 64) h) = true → False) ∧ ((!goodB (Array.extract ts 0 64) h) = false → (Array.size ts = 448 ∧ True) ∧ (TbOk ts ∧ (0 ≤ h ∧ h < 4294967296) ∧ True) ∧ (decide (List.length (kdF ts h) = 0) = true → kF = (1 : Nat) ∧ 30 = 30 ∧ csF = #[Value.int .u32 h] ∧ True) ∧ (decide (List.length (kdF ts h) = 0) = false → (decide (ari .sub .i64 (↑(List.length (kdF ts h)) : Int) (1 : Int) ≥ 0) = true → Q (ari .sub .i64 (↑(List.length (kdF ts h)) : Int) (1 : Int)) ∧ cN ∧ TodoOk (ren 0 [(1, 1), (2, 2), (4, 4), (5, 5), (6, 6), (7, 7), (9, 9), (10, 10), (11, 11), (12, 12), (13, 13)]) uB_d0 uB_d0 ∧ ari .sub .i64 (↑(List.length (kdF ts h)) : Int) (1 : Int) = ari .sub .i64 (↑(List.length (kdF ts h)) : Int) (1 : Int) ∧ cN ∧ TodoOk (ren 0 [(1, 1), (2, 2), (4, 4), (5, 5), (6, 6), (7, 7), (9, 9), (10, 10), (11, 11), (12, 12), (13, 13)]) uI_d1 uI_d1 ∧ cN ∧ TodoOk (ren 0 [(1, 1), (2, 2), (4, 4), (5, 5), (6, 6), (7, 7), (9, 9), (10, 10), (11, 11), (12, 12), (13, 13)]) uA_d1 uA_d1 ∧ 68 = 68 ∧ 68 = 68 ∧ 68 = 68 ∧ r = List.length (kdF ts h) ∧ 30 = 30 ∧ h = h ∧ 39 = 39 ∧ ts = ts ∧ 30 = 30 ∧ h = h ∧ 30 = 30 ∧ ks = u32s (kdF ts h) ∧ EqL unLp unLp ∧ EqL wkLp wkLp ∧ True) ∧ (decide (ari .sub .i64 (↑(List.length (kdF ts h)) : Int) (1 : Int) ≥ 0) = false → kF = (1 : Nat) ∧ 30 = 30 ∧ csF = #[Value.int .u32 h] ∧ True)))) := by kernel_rfl
theorem unI (ts : Array Value) (h : Int) (r : Nat) (ks : Array Value) (i : Int) (kF : Nat) (csF : Array Value) (QA : Nat → Array Value → Nat → Array Value → Prop) (QB : Int → Nat → Array Value → Nat → Array Value → Prop) : (stepT EUn.go (run EUn 1000) 0 (uI_F ts h r ks i) (uI_M ts h r ks i)).vc (freshA kF csF 30) (uAB 0 ts r ks QA QB) =
  (((0 ≤ i ∧ i < (↑r : Int)) ∧ True) ∧ (IsInt .u32 ks (0 + Int.toNat i * 1) ∧ True) ∧ (decide (ari .sub .i64 i 1 ≥ 0) = true → QB (ari .sub .i64 i 1) (1 : Nat) #[Value.int .u32 h] (1 : Nat) #[Value.int .u32 (intAt ks (0 + Int.toNat i * 1))] ∧ cN ∧ TodoOk (ren 0 [(1, 1), (2, 2), (4, 4), (5, 5), (6, 15), (7, 7), (61, 9), (62, 10), (63, 11), (65, 13), (20, 12)]) uB_d0 uB_d0 ∧ ari .sub .i64 i 1 = ari .sub .i64 i 1 ∧ cN ∧ TodoOk (ren 0 [(1, 1), (2, 2), (4, 4), (5, 5), (6, 15), (7, 7), (61, 9), (62, 10), (63, 11), (65, 13), (20, 12)]) uB_d1 uI_d1 ∧ cN ∧ TodoOk (ren 0 [(1, 1), (2, 2), (4, 4), (5, 5), (6, 15), (7, 7), (61, 9), (62, 10), (63, 11), (65, 13), (20, 12)]) uA_d1 uA_d1 ∧ 68 = 68 ∧ (1 : Nat) = 1 ∧ 68 = 68 ∧ (1 : Nat) = 1 ∧ 68 = 68 ∧ r = r ∧ 30 = 30 ∧ #[Value.int .u32 h] = #[Value.int .u32 h] ∧ 39 = 39 ∧ ts = ts ∧ 30 = 30 ∧ #[Value.int .u32 (intAt ks (0 + Int.toNat i * 1))] = #[Value.int .u32 (intAt ks (0 + Int.toNat i * 1))] ∧ 30 = 30 ∧ ks = ks ∧ EqL unLp unLp ∧ EqL wkLp wkLp ∧ True) ∧ (decide (ari .sub .i64 i 1 ≥ 0) = false → QA (1 : Nat) #[Value.int .u32 h] (1 : Nat) #[Value.int .u32 (intAt ks (0 + Int.toNat i * 1))] ∧ cN ∧ TodoOk (ren 0 [(1, 1), (2, 2), (3, 9), (4, 4), (5, 5), (6, 15), (7, 7), (20, 12)]) uA_d0 uA_d0 ∧ cN ∧ TodoOk (ren 0 [(1, 1), (2, 2), (3, 9), (4, 4), (5, 5), (6, 15), (7, 7), (20, 12)]) uA_d1 uA_d1 ∧ 68 = 68 ∧ (1 : Nat) = 1 ∧ 30 = 30 ∧ #[Value.int .u32 h] = #[Value.int .u32 h] ∧ 68 = 68 ∧ (1 : Nat) = 1 ∧ 39 = 39 ∧ ts = ts ∧ 30 = 30 ∧ #[Value.int .u32 (intAt ks (0 + Int.toNat i * 1))] = #[Value.int .u32 (intAt ks (0 + Int.toNat i * 1))] ∧ EqL unLp unLp ∧ True)) := by kernel_rfl
end Go.Proofs.YtdopckcockgefaaDoor
