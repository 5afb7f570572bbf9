/- Of handle: a book's slots, as numbers. No condition. -/
import Derived.Test.YtnicipemkcofpaaE1
import Derived.Test.YtnicipemkcofpaaK24
import Derived.IntWalk
import Derived.Test.YtnicipemkcofpaaK23
import Derived.Test.YtnicipemkcofpaaK14b
import Derived.Test.YtnicipemkcofpaaK15
import Derived.Test.YtnicipemkcofpaaF1
import Derived.Test.YtnicipemkcofpaaK26
import Derived.Test.YtnicipemkcofpaaRows
import Derived.ProofKit
import Derived.OpenShut
import Derived.ChangeSame
import Derived.Deep.Slices
import Derived.Deep.Fields
set_option linter.unusedVariables false
set_option linter.unusedSimpArgs false
namespace Go.Proofs.Ytnicipemkcofpaa
set_option maxRecDepth 100000
def ageAt (bs : Array Value) (i : Nat) : Int := intAt bs (i * 2)
def kindAt (bs : Array Value) (i : Nat) : Int := intAt bs (i * 2 + 1)
/-- A book: of each slot its age, and what it is. -/
structure BkOk (bs : Array Value) : Prop where
  sz : bs.size = 64
  a : ∀ i, i < 32 → IsInt .u32 bs (i * 2)
  k : ∀ i, i < 32 → IsInt .u8 bs (i * 2 + 1)
  ra : ∀ i, i < 32 → 0 ≤ ageAt bs i ∧ ageAt bs i ≤ 8388607
  rk : ∀ i, i < 32 → 0 ≤ kindAt bs i ∧ kindAt bs i ≤ 2
def nameI (i : Nat) (a : Int) : Int := 256 * a + i + 1
def slotOk (h : Int) : Bool := decide (h ≠ 0 ∧ (h - 1) % 256 < 32 ∧ (h - 1) / 256 ≤ 8388607)
def slotI (h : Int) : Int := if slotOk h = true then (h - 1) % 256 else 0
def goodB (bs : Array Value) (h : Int) : Bool := slotOk h && (decide (ageAt bs (slotI h).toNat = (h - 1) / 256) && decide (kindAt bs (slotI h).toNat = 1))
def atOk (bs : Array Value) (i : Int) : Bool := decide (0 ≤ i ∧ i < 32) && decide (kindAt bs i.toNat = 1)
def atI (bs : Array Value) (i : Int) : Int := if atOk bs i = true then nameI i.toNat (ageAt bs i.toNat) else 0
def inH (h : Int) : Prop := 0 ≤ h ∧ h < 4294967296
/-- Slots without the handle. -/
def voidS (bs : Array Value) (i : Nat) : Array Value := if ageAt bs i = 8388607 then bs.setIfInBounds (i * 2 + 1) (.int .u8 2) else putAt bs (i * 2) [.int .u32 (ageAt bs i + 1), .int .u8 0]
def voidB (bs : Array Value) (h : Int) : Array Value := if goodB bs h = true then voidS bs (slotI h).toNat else bs
/-- The least free slot from one on. -/
def freeFrom (bs : Array Value) : Nat → Nat → Option Nat
  | 0, _ => none
  | k + 1, i => if kindAt bs i = 0 then some i else freeFrom bs k (i + 1)
def freeS (bs : Array Value) : Option Nat := freeFrom bs 32 0
def issueB (bs : Array Value) : Array Value := match freeS bs with
  | some i => bs.setIfInBounds (i * 2 + 1) (.int .u8 1)
  | none => bs
def issueI (bs : Array Value) : Int := match freeS bs with
  | some i => nameI i (ageAt bs i)
  | none => 0
def issueOk (bs : Array Value) : Bool := (freeS bs).isSome
theorem slotI_lt {h : Int} (hh : inH h) : 0 ≤ slotI h ∧ slotI h < 32 := by
  unfold slotI
  split
  · rename_i e
    unfold slotOk at e
    have := of_decide_eq_true e
    have := hh.1
    omega
  · omega
theorem u32_in {t : Int} (h1 : 0 ≤ t) (h2 : t < 4294967296) : IntKind.u32.wrap t = t := by
  unfold IntKind.wrap
  simp only [IntKind.signed, IntKind.bits]
  exact Int.emod_eq_of_lt h1 (by omega)
theorem i64_in' {t : Int} (h1 : -9223372036854775808 ≤ t) (h2 : t ≤ 9223372036854775807) : IntKind.i64.wrap t = t := Go.IntWalk.i64_in _ (by omega)
noncomputable section
def u32 (n : Int) : SV := .s (.c (.f (.int .u32 (.o n))))
def bkS (bs : Array Value) : SV := .s (.agg (.op bs))
def ibT (x : Int) (b : Bool) : SV := .tup [.c (.f (.int .i64 (.o x))), .c (.f (.bool (.o b)))]
def hbT (x : Int) (b : Bool) : SV := .tup [.c (.f (.int .u32 (.o x))), .c (.f (.bool (.o b)))]
def bbT (bs : Array Value) (b : Bool) : SV := .tup [.agg (.op bs), .c (.f (.bool (.o b)))]
def bhbT (bs : Array Value) (x : Int) (b : Bool) : SV := .tup [.agg (.op bs), .c (.f (.int .u32 (.o x))), .c (.f (.bool (.o b)))]
def e0M : SMem := ⟨0, .nil, []⟩
end
end Go.Proofs.Ytnicipemkcofpaa
/- Of handle: Slot, Good, At, Void, as propositions. No condition. -/
namespace Go.Proofs.Ytnicipemkcofpaa
set_option maxRecDepth 100000
theorem slot_run (h x : Int) (b : Bool) : (run E0 1000 0 [callFr 13 Try.f13.ntmps [u32 h] (Try.f13.body.getD .skip)] e0M).vc (retOk 0 [] (ibT x b) e0M) (fun _ _ => False) =
    ((((h == (0 : Int)) == false) = true → ((decide (ari BinOp.rem IntKind.u32 (ari BinOp.sub IntKind.u32 h (1 : Int)) (256 : Int) ≥ (32 : Int)) == false) = true → (decide (ari BinOp.quo IntKind.u32 (ari BinOp.sub IntKind.u32 h (1 : Int)) (256 : Int) > (8388607 : Int)) = true → x = (0 : Int) ∧ b = false ∧ True) ∧ (decide (ari BinOp.quo IntKind.u32 (ari BinOp.sub IntKind.u32 h (1 : Int)) (256 : Int) > (8388607 : Int)) = false → x = IntKind.wrap IntKind.i64 (ari BinOp.rem IntKind.u32 (ari BinOp.sub IntKind.u32 h (1 : Int)) (256 : Int)) ∧ b = true ∧ True)) ∧ ((decide (ari BinOp.rem IntKind.u32 (ari BinOp.sub IntKind.u32 h (1 : Int)) (256 : Int) ≥ (32 : Int)) == false) = false → x = (0 : Int) ∧ b = false ∧ True)) ∧ (((h == (0 : Int)) == false) = false → x = (0 : Int) ∧ b = false ∧ True)) := by kernel_rfl
theorem good_run (bs : Array Value) (h : Int) (b : Bool) : (run E0 1000 0 [callFr 15 Try.f15.ntmps [bkS bs, u32 h] (Try.f15.body.getD .skip)] e0M).vc (retOk 0 [] (sB (.o b)) e0M) (fun _ _ => False) =
    ((((h == (0 : Int)) == false) = true → ((decide (ari BinOp.rem IntKind.u32 (ari BinOp.sub IntKind.u32 h (1 : Int)) (256 : Int) ≥ (32 : Int)) == false) = true → (decide (ari BinOp.quo IntKind.u32 (ari BinOp.sub IntKind.u32 h (1 : Int)) (256 : Int) > (8388607 : Int)) = true → b = false ∧ True) ∧ (decide (ari BinOp.quo IntKind.u32 (ari BinOp.sub IntKind.u32 h (1 : Int)) (256 : Int) > (8388607 : Int)) = false → (((0 : Int) ≤ IntKind.wrap IntKind.i64 (ari BinOp.rem IntKind.u32 (ari BinOp.sub IntKind.u32 h (1 : Int)) (256 : Int)) ∧ IntKind.wrap IntKind.i64 (ari BinOp.rem IntKind.u32 (ari BinOp.sub IntKind.u32 h (1 : Int)) (256 : Int)) < (32 : Int)) ∧ True) ∧ (IsInt IntKind.u32 bs ((0 : Nat) + Int.toNat (IntKind.wrap IntKind.i64 (ari BinOp.rem IntKind.u32 (ari BinOp.sub IntKind.u32 h (1 : Int)) (256 : Int))) * 2) ∧ IsInt IntKind.u8 bs ((0 : Nat) + Int.toNat (IntKind.wrap IntKind.i64 (ari BinOp.rem IntKind.u32 (ari BinOp.sub IntKind.u32 h (1 : Int)) (256 : Int))) * 2 + 1) ∧ True) ∧ b = (intAt bs ((0 : Nat) + Int.toNat (IntKind.wrap IntKind.i64 (ari BinOp.rem IntKind.u32 (ari BinOp.sub IntKind.u32 h (1 : Int)) (256 : Int))) * 2) == ari BinOp.quo IntKind.u32 (ari BinOp.sub IntKind.u32 h (1 : Int)) (256 : Int) && intAt bs ((0 : Nat) + Int.toNat (IntKind.wrap IntKind.i64 (ari BinOp.rem IntKind.u32 (ari BinOp.sub IntKind.u32 h (1 : Int)) (256 : Int))) * 2 + 1) == (1 : Int)) ∧ True)) ∧ ((decide (ari BinOp.rem IntKind.u32 (ari BinOp.sub IntKind.u32 h (1 : Int)) (256 : Int) ≥ (32 : Int)) == false) = false → b = false ∧ True)) ∧ (((h == (0 : Int)) == false) = false → b = false ∧ True)) := by kernel_rfl
theorem at_run (bs : Array Value) (i x : Int) (b : Bool) : (run E0 1000 0 [callFr 17 Try.f17.ntmps [bkS bs, i64 (.o i)] (Try.f17.body.getD .skip)] e0M).vc (retOk 0 [] (hbT x b) e0M) (fun _ _ => False) =
    (((decide (i < (0 : Int)) == false) = true → ((decide (i ≥ (32 : Int)) == false) = true → (((0 : Int) ≤ i ∧ i < (32 : Int)) ∧ True) ∧ (IsInt IntKind.u8 bs ((0 : Nat) + Int.toNat i * 2 + 1) ∧ True) ∧ ((intAt bs ((0 : Nat) + Int.toNat i * 2 + 1) != (1 : Int)) = true → x = (0 : Int) ∧ b = false ∧ True) ∧ ((intAt bs ((0 : Nat) + Int.toNat i * 2 + 1) != (1 : Int)) = false → (((0 : Int) ≤ i ∧ i < (32 : Int)) ∧ True) ∧ (IsInt IntKind.u32 bs ((0 : Nat) + Int.toNat i * 2) ∧ True) ∧ x = ari BinOp.add IntKind.u32 (ari BinOp.add IntKind.u32 (ari BinOp.mul IntKind.u32 (256 : Int) (intAt bs ((0 : Nat) + Int.toNat i * 2))) (IntKind.wrap IntKind.u32 i)) (1 : Int) ∧ b = true ∧ True)) ∧ ((decide (i ≥ (32 : Int)) == false) = false → x = (0 : Int) ∧ b = false ∧ True)) ∧ ((decide (i < (0 : Int)) == false) = false → x = (0 : Int) ∧ b = false ∧ True)) := by kernel_rfl
end Go.Proofs.Ytnicipemkcofpaa
/- Of handle: the contracts of Slot, Good, At. No condition. -/
namespace Go.Proofs.Ytnicipemkcofpaa
set_option maxRecDepth 100000
set_option linter.unusedSimpArgs false
theorem sub_h {h : Int} (hh : inH h) (h0 : h ≠ 0) : ari .sub .u32 h 1 = h - 1 ∧ ari .rem .u32 (h - 1) 256 = (h - 1) % 256 ∧ ari .quo .u32 (h - 1) 256 = (h - 1) / 256 := by
  have h1 := hh.1
  have h2 := hh.2
  refine ⟨by rw [ari_sub, u32_in (by omega) (by omega)], by rw [ari_rem, Int.tmod_eq_emod_of_nonneg (by omega)], ?_⟩
  rw [ari_quo, Int.tdiv_eq_ediv_of_nonneg (by omega), u32_in (by omega) (by omega)]
section
variable {bs : Array Value}
theorem slot_con (h : Int) (m : SMem) : Con E0 13 [u32 h] m (needs [inH h] (.ret (ibT (slotI h) (slotOk h)) m)) := by
  refine Con.pure E0_ok (by kernel_rfl : E0.fn 13 = some Try.f13) (by kernel_rfl : Try.f13.body = some (Try.f13.body.getD .skip)) (by kernel_rfl) (by kernel_rfl) fun hq => ?_
  have hh : inH h := hq _ (by simp)
  refine (Good.ret [] (run_vc E0_ok 1000 (slot_run h (slotI h) (slotOk h)) ?_ (fun s m h => h) fun _ _ h => h.elim)).mono fun _ _ h => h.1
  have h1 := hh.1
  have h2 := hh.2
  by_cases h0 : h = 0
  · have d : (h == 0) = true := by rw [h0]; rfl
    have e : slotOk h = false := decide_eq_false (fun k => k.1 h0)
    simp only [d, e, slotI, beqT, beqF, Bool.not_true, Bool.not_false, true_implies, Bool.true_eq_false, Bool.false_eq_true, false_implies, if_false, and_true, true_and]
  · have d : (h == 0) = false := by simpa using h0
    obtain ⟨e1, e2, e3⟩ := sub_h hh h0
    by_cases c1 : (h - 1) % 256 ≥ 32
    · have d1 : decide ((h - 1) % 256 ≥ 32) = true := decide_eq_true c1
      have e : slotOk h = false := decide_eq_false (fun k => by omega)
      simp only [d, d1, e, e1, e2, e3, slotI, beqT, beqF, Bool.not_true, Bool.not_false, true_implies, Bool.true_eq_false, Bool.false_eq_true, false_implies, if_false, and_true, true_and]
    · have d1 : decide ((h - 1) % 256 ≥ 32) = false := decide_eq_false c1
      by_cases c2 : (h - 1) / 256 > 8388607
      · have d2 : decide ((h - 1) / 256 > 8388607) = true := decide_eq_true c2
        have e : slotOk h = false := decide_eq_false (fun k => by omega)
        simp only [d, d1, d2, e, e1, e2, e3, slotI, beqT, beqF, Bool.not_true, Bool.not_false, true_implies, Bool.true_eq_false, Bool.false_eq_true, false_implies, if_false, and_true, true_and]
      · have d2 : decide ((h - 1) / 256 > 8388607) = false := decide_eq_false c2
        have e : slotOk h = true := decide_eq_true ⟨h0, by omega, by omega⟩
        simp only [d, d1, d2, e, e1, e2, e3, slotI, beqT, beqF, Bool.not_true, Bool.not_false, true_implies, Bool.true_eq_false, Bool.false_eq_true, false_implies, if_true, and_true, true_and]
        exact (i64_in' (by omega) (by omega)).symm
theorem good_con (h : Int) (m : SMem) : Con E0 15 [bkS bs, u32 h] m (needs [BkOk bs, inH h] (.ret (sB (.o (goodB bs h))) m)) := by
  refine Con.pure E0_ok (by kernel_rfl : E0.fn 15 = some Try.f15) (by kernel_rfl : Try.f15.body = some (Try.f15.body.getD .skip)) (by kernel_rfl) (by kernel_rfl) fun hq => ?_
  have hb : BkOk bs := hq _ (by simp)
  have hh : inH h := hq _ (by simp)
  refine (Good.ret [] (run_vc E0_ok 1000 (good_run bs h (goodB bs h)) ?_ (fun s m h => h) fun _ _ h => h.elim)).mono fun _ _ h => h.1
  have h1 := hh.1
  have h2 := hh.2
  by_cases h0 : h = 0
  · have d : (h == 0) = true := by rw [h0]; rfl
    have e : slotOk h = false := decide_eq_false (fun k => k.1 h0)
    simp only [d, e, goodB, Bool.false_and, beqT, beqF, Bool.not_true, Bool.not_false, true_implies, Bool.true_eq_false, Bool.false_eq_true, false_implies, if_false, and_true, true_and]
  · have d : (h == 0) = false := by simpa using h0
    obtain ⟨e1, e2, e3⟩ := sub_h hh h0
    by_cases c1 : (h - 1) % 256 ≥ 32
    · have d1 : decide ((h - 1) % 256 ≥ 32) = true := decide_eq_true c1
      have e : slotOk h = false := decide_eq_false (fun k => by omega)
      simp only [d, d1, e, e1, e2, e3, goodB, Bool.false_and, beqT, beqF, Bool.not_true, Bool.not_false, true_implies, Bool.true_eq_false, Bool.false_eq_true, false_implies, if_false, and_true, true_and]
    · have d1 : decide ((h - 1) % 256 ≥ 32) = false := decide_eq_false c1
      by_cases c2 : (h - 1) / 256 > 8388607
      · have d2 : decide ((h - 1) / 256 > 8388607) = true := decide_eq_true c2
        have e : slotOk h = false := decide_eq_false (fun k => by omega)
        simp only [d, d1, d2, e, e1, e2, e3, goodB, Bool.false_and, beqT, beqF, Bool.not_true, Bool.not_false, true_implies, Bool.true_eq_false, Bool.false_eq_true, false_implies, if_false, and_true, true_and]
      · have d2 : decide ((h - 1) / 256 > 8388607) = false := decide_eq_false c2
        have e : slotOk h = true := decide_eq_true ⟨h0, by omega, by omega⟩
        have es : slotI h = (h - 1) % 256 := by unfold slotI; rw [if_pos e]
        have ew : IntKind.i64.wrap ((h - 1) % 256) = (h - 1) % 256 := i64_in' (by omega) (by omega)
        have hlt : ((h - 1) % 256).toNat < 32 := by omega
        simp only [d, d1, d2, e, e1, e2, e3, ew, es, goodB, Nat.zero_add, Bool.true_and, beqT, beqF, Bool.not_true, Bool.not_false, true_implies, Bool.true_eq_false, Bool.false_eq_true, false_implies, if_true, and_true, true_and]
        refine ⟨by omega, ⟨hb.a _ hlt, hb.k _ hlt⟩, ?_⟩
        unfold ageAt kindAt
        rw [Bool.eq_iff_iff]
        simp
theorem nameI_run {i : Nat} {a : Int} (hi : i < 32) (ha : 0 ≤ a ∧ a ≤ 8388607) : ari .add .u32 (ari .add .u32 (ari .mul .u32 256 a) (IntKind.u32.wrap (i : Int))) 1 = nameI i a := by
  have e1 : ari .mul .u32 256 a = 256 * a := by rw [ari_mul]; exact u32_in (by omega) (by omega)
  have e2 : IntKind.u32.wrap (i : Int) = i := u32_in (by omega) (by omega)
  rw [e1, e2, ari_add, ari_add, u32_in (t := 256 * a + i) (by omega) (by omega), u32_in (by omega) (by omega)]
  rfl
theorem at_con (i : Int) (m : SMem) : Con E0 17 [bkS bs, i64 (.o i)] m (needs [BkOk bs] (.ret (hbT (atI bs i) (atOk bs i)) m)) := by
  refine Con.pure E0_ok (by kernel_rfl : E0.fn 17 = some Try.f17) (by kernel_rfl : Try.f17.body = some (Try.f17.body.getD .skip)) (by kernel_rfl) (by kernel_rfl) fun hq => ?_
  have hb : BkOk bs := hq _ (by simp)
  refine (Good.ret [] (run_vc E0_ok 1000 (at_run bs i (atI bs i) (atOk bs i)) ?_ (fun s m h => h) fun _ _ h => h.elim)).mono fun _ _ h => h.1
  by_cases c1 : i < 0
  · have d1 : decide (i < 0) = true := decide_eq_true c1
    have e : atOk bs i = false := by unfold atOk; rw [decide_eq_false (by omega)]; rfl
    simp only [d1, e, atI, beqT, beqF, Bool.not_true, Bool.not_false, true_implies, Bool.true_eq_false, Bool.false_eq_true, false_implies, if_false, and_true, true_and]
  · have d1 : decide (i < 0) = false := decide_eq_false c1
    by_cases c2 : i ≥ 32
    · have d2 : decide (i ≥ 32) = true := decide_eq_true c2
      have e : atOk bs i = false := by unfold atOk; rw [decide_eq_false (by omega)]; rfl
      simp only [d1, d2, e, atI, beqT, beqF, Bool.not_true, Bool.not_false, true_implies, Bool.true_eq_false, Bool.false_eq_true, false_implies, if_false, and_true, true_and]
    · have d2 : decide (i ≥ 32) = false := decide_eq_false c2
      obtain ⟨k, rfl⟩ : ∃ k : Nat, i = (k : Int) := ⟨i.toNat, by omega⟩
      have hk : k < 32 := by omega
      have ek : atOk bs (k : Int) = decide (kindAt bs k = 1) := by unfold atOk; rw [decide_eq_true (by omega), Bool.true_and, Int.toNat_natCast]
      by_cases c3 : kindAt bs k = 1
      · have d3 : (intAt bs (k * 2 + 1) != 1) = false := by
          have c3 : intAt bs (k * 2 + 1) = 1 := c3
          rw [c3]; rfl
        have en := nameI_run hk (hb.ra k hk)
        unfold ageAt at en
        rw [decide_eq_true c3] at ek
        simp only [d1, d2, d3, ek, atI, Nat.zero_add, Int.toNat_natCast, en, beqT, beqF, Bool.not_true, Bool.not_false, true_implies, Bool.true_eq_false, Bool.false_eq_true, false_implies, if_true, and_true, true_and]
        exact ⟨by omega, hb.k k hk, by omega, hb.a k hk, rfl⟩
      · have d3 : (intAt bs (k * 2 + 1) != 1) = true := by
          have c3 : ¬ intAt bs (k * 2 + 1) = 1 := c3
          simpa using c3
        rw [decide_eq_false c3] at ek
        simp only [d1, d2, d3, ek, atI, Nat.zero_add, Int.toNat_natCast, beqT, beqF, Bool.not_true, Bool.not_false, true_implies, Bool.true_eq_false, Bool.false_eq_true, false_implies, if_false, and_true, true_and]
        exact ⟨by omega, hb.k k hk⟩
end
end Go.Proofs.Ytnicipemkcofpaa
/- Of handle: Void, Issue, Issued: their states. No condition. -/
namespace Go.Proofs.Ytnicipemkcofpaa
set_option linter.unusedVariables false
theorem Con.args {E : Env} {f : FuncId} {l l' : List SV} {m : SMem} {t : Tree} (h : ∀ R vs, All2 (SV.ok R) l vs → All2 (SV.ok R) l' vs) (hc : Con E f l' m t) : Con E f l m t := by
 intro A hs
 obtain ⟨fn, h1, h2, h3⟩ := hc A hs
 exact ⟨fn, h1, h2, fun n0 F w0 w R args hl hR => h3 n0 F w0 w R args (h R _ hl) hR⟩
theorem Con.asked {E : Env} {g : FuncId} {l : List SV} {m : SMem} {q : List Prop} {t : Tree} (h : (∀ p ∈ q, p) → Con E g l m t) : Con E g l m (.need q t) := by
 intro A hs
 exact h hs.1 A hs.2
noncomputable def conH1 (g : FuncId) (l : List SV) (m : SMem) : Option Tree := match g, l with
  | 13, [.s (.c (.f (.int .u32 h)))] => some (.need [inH h.den] (.ret (ibT (slotI h.den) (slotOk h.den)) m))
  | 15, [.s (.agg (.op bs)), .s (.c (.f (.int .u32 h)))] => some (.need [BkOk bs, inH h.den] (.ret (sB (.o (goodB bs h.den))) m))
  | 17, [.s (.agg (.op bs)), .s (.c (.f (.int .i64 i)))] => some (.need [BkOk bs] (.ret (hbT (atI bs i.den) (atOk bs i.den)) m))
  | _, _ => none
noncomputable def EH : Env := ⟨Try.prog, fnOf, conH1, haltAt [11002, 18003]⟩
noncomputable def hI_d0 : List SIt := sekF Try.f11 2
noncomputable def hI_F (bs : Array Value) (i : Int) (zz : Array Value) : List SFr := [frOf 11 Try.f11 [(1, ptr 0 (.l 0)), (2, ptr 1 (.l 0)), (3, .s (.c (.f (.int .u32 (.l 0))))), (6, i64 (.o i))] hI_d0]
noncomputable def hI_M (bs : Array Value) (i : Int) (zz : Array Value) : SMem := mkM 2 [(0, ⟨.op bs, 30, true⟩), (1, ⟨.op zz, 30, true⟩)]
noncomputable def hI_n (bs : Array Value) (Q : Int → Array Value → Prop) (fs : List SFr) (m : SMem) : Prop := (match frNth fs 0 with | some f0 => (match rdI f0 6 with | some i => (match rdP f0 1 with | some p0 => (match rdP f0 2 with | some p1 => (match rdA m p1 with | some zz => Q i zz ∧ subOk 0 [(0, p0), (1, p1)] (hI_F bs i zz) (hI_M bs i zz) fs m | none => False) | none => False) | none => False) | none => False) | none => False)
noncomputable def hZ_d0 : List SIt := sekF Try.f18 3
noncomputable def hZ_F (bs : Array Value) (i : Int) : List SFr := [frOf 18 Try.f18 [(1, ptr 0 (.l 0)), (3, .s (.c (.f (.lit (.slice none 0 0))))), (7, i64 (.o i))] hZ_d0]
noncomputable def hZ_M (bs : Array Value) (i : Int) : SMem := mkM 1 [(0, ⟨.op bs, 30, true⟩)]
noncomputable def hZ_n (bs : Array Value) (Q : Int → Prop) (fs : List SFr) (m : SMem) : Prop := (match frNth fs 0 with | some f0 => (match rdI f0 7 with | some i => (match rdP f0 1 with | some p0 => Q i ∧ subOk 0 [(0, p0)] (hZ_F bs i) (hZ_M bs i) fs m | none => False) | none => False) | none => False)
noncomputable def hS_d0 : List SIt := sekF Try.f18 3
noncomputable def hS_F (bs : Array Value) (i : Int) (k : Nat) (cs : Array Value) : List SFr := [frOf 18 Try.f18 [(1, ptr 0 (.l 0)), (3, .s (.c (.f (.slice 1 (.l 0) (.o k) (.full 1))))), (7, i64 (.o i))] hS_d0]
noncomputable def hS_M (bs : Array Value) (i : Int) (k : Nat) (cs : Array Value) : SMem := mkM 2 [(0, ⟨.op bs, 30, true⟩), (1, ⟨.pop cs, 41, true⟩)]
noncomputable def hS_n (bs : Array Value) (Q : Int → Nat → Array Value → Prop) (fs : List SFr) (m : SMem) : Prop := (match frNth fs 0 with | some f0 => (match rdI f0 7 with | some i => (match rdP f0 1 with | some p0 => (match rdSI f0 3 with | some p1 => (match rdSN f0 3 with | some k => (match rdA m p1 with | some cs => Q i k cs ∧ subOk 0 [(0, p0), (1, p1)] (hS_F bs i k cs) (hS_M bs i k cs) fs m | none => False) | none => False) | none => False) | none => False) | none => False) | none => False)
noncomputable def freshA (k : Nat) (cs : Array Value) (ty : TypeId) (s : SV) (m : SMem) : Prop := match s with | .s (.c (.f (.slice sid _ _ _))) => retOk 0 [(0, sid)] (.s (.c (.f (.slice 0 (.l 0) (.o k) (.full 1))))) (mkM 1 [(0, ⟨.pop cs, ty, true⟩)]) s m | _ => False
noncomputable def nilA (s : SV) (m : SMem) : Prop := retOk 0 [] (.s (.c (.f (.lit (.slice none 0 0))))) e0M s m
noncomputable def hZS (bs : Array Value) (QZ : Int → Prop) (QS : Int → Nat → Array Value → Prop) (fs : List SFr) (m : SMem) : Prop := match fs with | f :: _ => (match f.tm.get 3 with | some (.s (.c (.f (.slice _ _ _ _)))) => hS_n bs QS fs m | _ => hZ_n bs QZ fs m) | [] => False
noncomputable def vd_t (bs : Array Value) (h : Int) (o : Array Value) (b : Bool) : Tree := run EH 1000 0 [callFr 9 Try.f9.ntmps [bkS bs, u32 h] (Try.f9.body.getD .skip)] e0M
noncomputable def vd_x (bs : Array Value) (h : Int) (o : Array Value) (b : Bool)  (fs : List SFr) (m : SMem) : Prop := False
noncomputable def is0_t (bs : Array Value) : Tree := run EH 1000 0 [callFr 11 Try.f11.ntmps [bkS bs] (Try.f11.body.getD .skip)] e0M
noncomputable def is0_x (bs : Array Value) (QhI : Int → Array Value → Prop) (fs : List SFr) (m : SMem) : Prop := hI_n bs QhI fs m
noncomputable def id0_t (bs : Array Value) : Tree := run EH 1000 0 [callFr 18 Try.f18.ntmps [bkS bs] (Try.f18.body.getD .skip)] e0M
noncomputable def id0_x (bs : Array Value) (QhZ : Int → Prop) (fs : List SFr) (m : SMem) : Prop := hZ_n bs QhZ fs m
theorem hI_d0_ok (r : Nat → Option Nat) : TodoOk r hI_d0 hI_d0 := TodoOk.it (by kernel_rfl)
theorem hZ_d0_ok (r : Nat → Option Nat) : TodoOk r hZ_d0 hZ_d0 := TodoOk.it (by kernel_rfl)
theorem hS_d0_ok (r : Nat → Option Nat) : TodoOk r hS_d0 hS_d0 := TodoOk.it (by kernel_rfl)
theorem hI_good {A : SV → SMem → Prop} {bs : Array Value} {Q : Int → Array Value → Prop} {fs : List SFr} {m : SMem} (H : ∀ i zz, Q i zz → Good Try.prog A 0 (hI_F bs i zz) (hI_M bs i zz)) (hb : hI_n bs Q fs m) : Good Try.prog A 0 fs m := by
  unfold hI_n at hb
  split at hb
  rotate_left
  · exact hb.elim
  split at hb
  rotate_left
  · exact hb.elim
  split at hb
  rotate_left
  · exact hb.elim
  split at hb
  rotate_left
  · exact hb.elim
  split at hb
  rotate_left
  · exact hb.elim
  exact Good.of_sub hb.2 (H _ _ hb.1)
theorem hZ_good {A : SV → SMem → Prop} {bs : Array Value} {Q : Int → Prop} {fs : List SFr} {m : SMem} (H : ∀ i, Q i → Good Try.prog A 0 (hZ_F bs i) (hZ_M bs i)) (hb : hZ_n bs Q fs m) : Good Try.prog A 0 fs m := by
  unfold hZ_n at hb
  split at hb
  rotate_left
  · exact hb.elim
  split at hb
  rotate_left
  · exact hb.elim
  split at hb
  rotate_left
  · exact hb.elim
  exact Good.of_sub hb.2 (H _ hb.1)
theorem hS_good {A : SV → SMem → Prop} {bs : Array Value} {Q : Int → Nat → Array Value → Prop} {fs : List SFr} {m : SMem} (H : ∀ i k cs, Q i k cs → Good Try.prog A 0 (hS_F bs i k cs) (hS_M bs i k cs)) (hb : hS_n bs Q fs m) : Good Try.prog A 0 fs m := by
  unfold hS_n at hb
  split at hb
  rotate_left
  · exact hb.elim
  split at hb
  rotate_left
  · exact hb.elim
  split at hb
  rotate_left
  · exact hb.elim
  split at hb
  rotate_left
  · exact hb.elim
  split at hb
  rotate_left
  · exact hb.elim
  split at hb
  rotate_left
  · exact hb.elim
  exact Good.of_sub hb.2 (H _ _ _ hb.1)
theorem is0_go {A : SV → SMem → Prop} {bs : Array Value} {QhI : Int → Array Value → Prop} {fs : List SFr} {m : SMem} (hhI : ∀ i' zz', QhI i' zz' → Good Try.prog A 0 (hI_F bs i' zz') (hI_M bs i' zz')) (hb : is0_x bs QhI fs m) : Good Try.prog A 0 fs m := by
  unfold is0_x at hb
  exact hI_good hhI hb
theorem id0_go {A : SV → SMem → Prop} {bs : Array Value} {QhZ : Int → Prop} {fs : List SFr} {m : SMem} (hhZ : ∀ i', QhZ i' → Good Try.prog A 0 (hZ_F bs i') (hZ_M bs i')) (hb : id0_x bs QhZ fs m) : Good Try.prog A 0 fs m := by
  unfold id0_x at hb
  exact hZ_good hhZ hb
end Go.Proofs.Ytnicipemkcofpaa
/- Of handle: Void, Issue, Issued: their states. -/
namespace Go.Proofs.Ytnicipemkcofpaa
set_option maxRecDepth 100000
theorem vd_vc (bs : Array Value) (h : Int) (o : Array Value) (b : Bool) : (vd_t bs h o b).vc ((retOk 0 [] (bbT o b) e0M)) (vd_x bs h o b ) =
    ((Array.size bs = (64 : Nat) ∧ True) ∧ (BkOk bs ∧ ((0 : Int) ≤ h ∧ h < (4294967296 : Int)) ∧ True) ∧ ((!goodB bs h) = true → (Array.size bs = (64 : Nat) ∧ True) ∧ (Array.size bs = (64 : Nat) ∧ Array.size bs = (64 : Nat) ∧ True) ∧ (Array.size bs = (64 : Nat) ∧ True) ∧ o = bs ∧ b = false ∧ True) ∧ ((!goodB bs h) = false → (((0 : Int) ≤ h ∧ h < (4294967296 : Int)) ∧ True) ∧ (((0 : Int) ≤ slotI h ∧ slotI h < (32 : Int)) ∧ True) ∧ (IsInt IntKind.u32 bs ((0 : Nat) + Int.toNat (slotI h) * 2) ∧ True) ∧ ((intAt bs ((0 : Nat) + Int.toNat (slotI h) * 2) == (8388607 : Int)) = true → (((0 : Int) ≤ slotI h ∧ slotI h < (32 : Int)) ∧ True) ∧ ((0 : Nat) + Int.toNat (slotI h) * 2 + 1 < Array.size bs ∧ True) ∧ (Array.size (Array.setIfInBounds bs ((0 : Nat) + Int.toNat (slotI h) * 2 + 1) (Value.int IntKind.u8 (2 : Int))) = (64 : Nat) ∧ True) ∧ (Array.size (Array.setIfInBounds bs ((0 : Nat) + Int.toNat (slotI h) * 2 + 1) (Value.int IntKind.u8 (2 : Int))) = (64 : Nat) ∧ Array.size (Array.setIfInBounds bs ((0 : Nat) + Int.toNat (slotI h) * 2 + 1) (Value.int IntKind.u8 (2 : Int))) = (64 : Nat) ∧ True) ∧ (Array.size (Array.setIfInBounds bs ((0 : Nat) + Int.toNat (slotI h) * 2 + 1) (Value.int IntKind.u8 (2 : Int))) = (64 : Nat) ∧ True) ∧ o = Array.setIfInBounds bs ((0 : Nat) + Int.toNat (slotI h) * 2 + 1) (Value.int IntKind.u8 (2 : Int)) ∧ b = true ∧ True) ∧ ((intAt bs ((0 : Nat) + Int.toNat (slotI h) * 2) == (8388607 : Int)) = false → (((0 : Int) ≤ slotI h ∧ slotI h < (32 : Int)) ∧ True) ∧ (IsInt IntKind.u32 bs ((0 : Nat) + Int.toNat (slotI h) * 2) ∧ True) ∧ (((0 : Int) ≤ slotI h ∧ slotI h < (32 : Int)) ∧ True) ∧ ((0 : Nat) + Int.toNat (slotI h) * 2 + List.length [Value.int IntKind.u32 (ari BinOp.add IntKind.u32 (intAt bs ((0 : Nat) + Int.toNat (slotI h) * 2)) (1 : Int)), Value.int IntKind.u8 (0 : Int)] ≤ Array.size bs ∧ True) ∧ (Array.size (putAt bs ((0 : Nat) + Int.toNat (slotI h) * 2) [Value.int IntKind.u32 (ari BinOp.add IntKind.u32 (intAt bs ((0 : Nat) + Int.toNat (slotI h) * 2)) (1 : Int)), Value.int IntKind.u8 (0 : Int)]) = (64 : Nat) ∧ True) ∧ (Array.size (putAt bs ((0 : Nat) + Int.toNat (slotI h) * 2) [Value.int IntKind.u32 (ari BinOp.add IntKind.u32 (intAt bs ((0 : Nat) + Int.toNat (slotI h) * 2)) (1 : Int)), Value.int IntKind.u8 (0 : Int)]) = (64 : Nat) ∧ Array.size (putAt bs ((0 : Nat) + Int.toNat (slotI h) * 2) [Value.int IntKind.u32 (ari BinOp.add IntKind.u32 (intAt bs ((0 : Nat) + Int.toNat (slotI h) * 2)) (1 : Int)), Value.int IntKind.u8 (0 : Int)]) = (64 : Nat) ∧ True) ∧ (Array.size (putAt bs ((0 : Nat) + Int.toNat (slotI h) * 2) [Value.int IntKind.u32 (ari BinOp.add IntKind.u32 (intAt bs ((0 : Nat) + Int.toNat (slotI h) * 2)) (1 : Int)), Value.int IntKind.u8 (0 : Int)]) = (64 : Nat) ∧ True) ∧ o = putAt bs ((0 : Nat) + Int.toNat (slotI h) * 2) [Value.int IntKind.u32 (ari BinOp.add IntKind.u32 (intAt bs ((0 : Nat) + Int.toNat (slotI h) * 2)) (1 : Int)), Value.int IntKind.u8 (0 : Int)] ∧ b = true ∧ True))) := by kernel_rfl
theorem is0_vc (bs : Array Value) (QhI : Int → Array Value → Prop) : (is0_t bs).vc ((fun _ _ => False)) (is0_x bs QhI) =
    (QhI (0 : Int) #[Value.int IntKind.u32 (0 : Int), Value.int IntKind.u8 (0 : Int), Value.int IntKind.u32 (0 : Int), Value.int IntKind.u8 (0 : Int), Value.int IntKind.u32 (0 : Int), Value.int IntKind.u8 (0 : Int), Value.int IntKind.u32 (0 : Int), Value.int IntKind.u8 (0 : Int), Value.int IntKind.u32 (0 : Int), Value.int IntKind.u8 (0 : Int), Value.int IntKind.u32 (0 : Int), Value.int IntKind.u8 (0 : Int), Value.int IntKind.u32 (0 : Int), Value.int IntKind.u8 (0 : Int), Value.int IntKind.u32 (0 : Int), Value.int IntKind.u8 (0 : Int), Value.int IntKind.u32 (0 : Int), Value.int IntKind.u8 (0 : Int), Value.int IntKind.u32 (0 : Int), Value.int IntKind.u8 (0 : Int), Value.int IntKind.u32 (0 : Int), Value.int IntKind.u8 (0 : Int), Value.int IntKind.u32 (0 : Int), Value.int IntKind.u8 (0 : Int), Value.int IntKind.u32 (0 : Int), Value.int IntKind.u8 (0 : Int), Value.int IntKind.u32 (0 : Int), Value.int IntKind.u8 (0 : Int), Value.int IntKind.u32 (0 : Int), Value.int IntKind.u8 (0 : Int), Value.int IntKind.u32 (0 : Int), Value.int IntKind.u8 (0 : Int), Value.int IntKind.u32 (0 : Int), Value.int IntKind.u8 (0 : Int), Value.int IntKind.u32 (0 : Int), Value.int IntKind.u8 (0 : Int), Value.int IntKind.u32 (0 : Int), Value.int IntKind.u8 (0 : Int), Value.int IntKind.u32 (0 : Int), Value.int IntKind.u8 (0 : Int), Value.int IntKind.u32 (0 : Int), Value.int IntKind.u8 (0 : Int), Value.int IntKind.u32 (0 : Int), Value.int IntKind.u8 (0 : Int), Value.int IntKind.u32 (0 : Int), Value.int IntKind.u8 (0 : Int), Value.int IntKind.u32 (0 : Int), Value.int IntKind.u8 (0 : Int), Value.int IntKind.u32 (0 : Int), Value.int IntKind.u8 (0 : Int), Value.int IntKind.u32 (0 : Int), Value.int IntKind.u8 (0 : Int), Value.int IntKind.u32 (0 : Int), Value.int IntKind.u8 (0 : Int), Value.int IntKind.u32 (0 : Int), Value.int IntKind.u8 (0 : Int), Value.int IntKind.u32 (0 : Int), Value.int IntKind.u8 (0 : Int), Value.int IntKind.u32 (0 : Int), Value.int IntKind.u8 (0 : Int), Value.int IntKind.u32 (0 : Int), Value.int IntKind.u8 (0 : Int), Value.int IntKind.u32 (0 : Int), Value.int IntKind.u8 (0 : Int)] ∧ CallKind.normal = CallKind.normal ∧ TodoOk (ren 0 [(0, 0), (1, 1)]) hI_d0 hI_d0 ∧ (0 : Int) = (0 : Int) ∧ (30 : TypeId) = (30 : Nat) ∧ bs = bs ∧ (30 : TypeId) = (30 : Nat) ∧ #[Value.int IntKind.u32 (0 : Int), Value.int IntKind.u8 (0 : Int), Value.int IntKind.u32 (0 : Int), Value.int IntKind.u8 (0 : Int), Value.int IntKind.u32 (0 : Int), Value.int IntKind.u8 (0 : Int), Value.int IntKind.u32 (0 : Int), Value.int IntKind.u8 (0 : Int), Value.int IntKind.u32 (0 : Int), Value.int IntKind.u8 (0 : Int), Value.int IntKind.u32 (0 : Int), Value.int IntKind.u8 (0 : Int), Value.int IntKind.u32 (0 : Int), Value.int IntKind.u8 (0 : Int), Value.int IntKind.u32 (0 : Int), Value.int IntKind.u8 (0 : Int), Value.int IntKind.u32 (0 : Int), Value.int IntKind.u8 (0 : Int), Value.int IntKind.u32 (0 : Int), Value.int IntKind.u8 (0 : Int), Value.int IntKind.u32 (0 : Int), Value.int IntKind.u8 (0 : Int), Value.int IntKind.u32 (0 : Int), Value.int IntKind.u8 (0 : Int), Value.int IntKind.u32 (0 : Int), Value.int IntKind.u8 (0 : Int), Value.int IntKind.u32 (0 : Int), Value.int IntKind.u8 (0 : Int), Value.int IntKind.u32 (0 : Int), Value.int IntKind.u8 (0 : Int), Value.int IntKind.u32 (0 : Int), Value.int IntKind.u8 (0 : Int), Value.int IntKind.u32 (0 : Int), Value.int IntKind.u8 (0 : Int), Value.int IntKind.u32 (0 : Int), Value.int IntKind.u8 (0 : Int), Value.int IntKind.u32 (0 : Int), Value.int IntKind.u8 (0 : Int), Value.int IntKind.u32 (0 : Int), Value.int IntKind.u8 (0 : Int), Value.int IntKind.u32 (0 : Int), Value.int IntKind.u8 (0 : Int), Value.int IntKind.u32 (0 : Int), Value.int IntKind.u8 (0 : Int), Value.int IntKind.u32 (0 : Int), Value.int IntKind.u8 (0 : Int), Value.int IntKind.u32 (0 : Int), Value.int IntKind.u8 (0 : Int), Value.int IntKind.u32 (0 : Int), Value.int IntKind.u8 (0 : Int), Value.int IntKind.u32 (0 : Int), Value.int IntKind.u8 (0 : Int), Value.int IntKind.u32 (0 : Int), Value.int IntKind.u8 (0 : Int), Value.int IntKind.u32 (0 : Int), Value.int IntKind.u8 (0 : Int), Value.int IntKind.u32 (0 : Int), Value.int IntKind.u8 (0 : Int), Value.int IntKind.u32 (0 : Int), Value.int IntKind.u8 (0 : Int), Value.int IntKind.u32 (0 : Int), Value.int IntKind.u8 (0 : Int), Value.int IntKind.u32 (0 : Int), Value.int IntKind.u8 (0 : Int)] = #[Value.int IntKind.u32 (0 : Int), Value.int IntKind.u8 (0 : Int), Value.int IntKind.u32 (0 : Int), Value.int IntKind.u8 (0 : Int), Value.int IntKind.u32 (0 : Int), Value.int IntKind.u8 (0 : Int), Value.int IntKind.u32 (0 : Int), Value.int IntKind.u8 (0 : Int), Value.int IntKind.u32 (0 : Int), Value.int IntKind.u8 (0 : Int), Value.int IntKind.u32 (0 : Int), Value.int IntKind.u8 (0 : Int), Value.int IntKind.u32 (0 : Int), Value.int IntKind.u8 (0 : Int), Value.int IntKind.u32 (0 : Int), Value.int IntKind.u8 (0 : Int), Value.int IntKind.u32 (0 : Int), Value.int IntKind.u8 (0 : Int), Value.int IntKind.u32 (0 : Int), Value.int IntKind.u8 (0 : Int), Value.int IntKind.u32 (0 : Int), Value.int IntKind.u8 (0 : Int), Value.int IntKind.u32 (0 : Int), Value.int IntKind.u8 (0 : Int), Value.int IntKind.u32 (0 : Int), Value.int IntKind.u8 (0 : Int), Value.int IntKind.u32 (0 : Int), Value.int IntKind.u8 (0 : Int), Value.int IntKind.u32 (0 : Int), Value.int IntKind.u8 (0 : Int), Value.int IntKind.u32 (0 : Int), Value.int IntKind.u8 (0 : Int), Value.int IntKind.u32 (0 : Int), Value.int IntKind.u8 (0 : Int), Value.int IntKind.u32 (0 : Int), Value.int IntKind.u8 (0 : Int), Value.int IntKind.u32 (0 : Int), Value.int IntKind.u8 (0 : Int), Value.int IntKind.u32 (0 : Int), Value.int IntKind.u8 (0 : Int), Value.int IntKind.u32 (0 : Int), Value.int IntKind.u8 (0 : Int), Value.int IntKind.u32 (0 : Int), Value.int IntKind.u8 (0 : Int), Value.int IntKind.u32 (0 : Int), Value.int IntKind.u8 (0 : Int), Value.int IntKind.u32 (0 : Int), Value.int IntKind.u8 (0 : Int), Value.int IntKind.u32 (0 : Int), Value.int IntKind.u8 (0 : Int), Value.int IntKind.u32 (0 : Int), Value.int IntKind.u8 (0 : Int), Value.int IntKind.u32 (0 : Int), Value.int IntKind.u8 (0 : Int), Value.int IntKind.u32 (0 : Int), Value.int IntKind.u8 (0 : Int), Value.int IntKind.u32 (0 : Int), Value.int IntKind.u8 (0 : Int), Value.int IntKind.u32 (0 : Int), Value.int IntKind.u8 (0 : Int), Value.int IntKind.u32 (0 : Int), Value.int IntKind.u8 (0 : Int), Value.int IntKind.u32 (0 : Int), Value.int IntKind.u8 (0 : Int)] ∧ True) := by kernel_rfl
theorem id0_vc (bs : Array Value) (QhZ : Int → Prop) : (id0_t bs).vc ((fun _ _ => False)) (id0_x bs QhZ) =
    (QhZ (0 : Int) ∧ CallKind.normal = CallKind.normal ∧ TodoOk (ren 0 [(0, 0)]) hZ_d0 hZ_d0 ∧ Value.slice none (0 : Nat) (0 : Nat) = Value.slice none (0 : Nat) (0 : Nat) ∧ (0 : Int) = (0 : Int) ∧ (30 : TypeId) = (30 : Nat) ∧ bs = bs ∧ True) := by kernel_rfl
theorem is1 (bs : Array Value) (i : Int) (zz : Array Value) (o : Array Value) (x : Int) (b : Bool) (Q : Int → Array Value → Prop) : (stepT EH.go (run EH 1000) 0 (hI_F bs i zz) (hI_M bs i zz)).vc (retOk 0 [] (bhbT o x b) e0M) (hI_n bs Q) =
    ((decide (i < (32 : Int)) = true → (((0 : Int) ≤ i ∧ i < (32 : Int)) ∧ True) ∧ (IsInt IntKind.u8 bs ((0 : Nat) + Int.toNat i * 2 + 1) ∧ True) ∧ ((intAt bs ((0 : Nat) + Int.toNat i * 2 + 1) == (0 : Int)) = true → (((0 : Int) ≤ i ∧ i < (32 : Int)) ∧ True) ∧ ((0 : Nat) + Int.toNat i * 2 + 1 < Array.size bs ∧ True) ∧ (Array.size (Array.setIfInBounds bs ((0 : Nat) + Int.toNat i * 2 + 1) (Value.int IntKind.u8 (1 : Int))) = (64 : Nat) ∧ True) ∧ (((0 : Int) ≤ i ∧ i < (32 : Int)) ∧ True) ∧ (IsInt IntKind.u32 (Array.setIfInBounds bs ((0 : Nat) + Int.toNat i * 2 + 1) (Value.int IntKind.u8 (1 : Int))) ((0 : Nat) + Int.toNat i * 2) ∧ True) ∧ (Array.size (Array.setIfInBounds bs ((0 : Nat) + Int.toNat i * 2 + 1) (Value.int IntKind.u8 (1 : Int))) = (64 : Nat) ∧ Array.size (Array.setIfInBounds bs ((0 : Nat) + Int.toNat i * 2 + 1) (Value.int IntKind.u8 (1 : Int))) = Array.size zz ∧ True) ∧ (Array.size (Array.setIfInBounds bs ((0 : Nat) + Int.toNat i * 2 + 1) (Value.int IntKind.u8 (1 : Int))) = (64 : Nat) ∧ True) ∧ o = Array.setIfInBounds bs ((0 : Nat) + Int.toNat i * 2 + 1) (Value.int IntKind.u8 (1 : Int)) ∧ x = ari BinOp.add IntKind.u32 (ari BinOp.add IntKind.u32 (ari BinOp.mul IntKind.u32 (256 : Int) (intAt (Array.setIfInBounds bs ((0 : Nat) + Int.toNat i * 2 + 1) (Value.int IntKind.u8 (1 : Int))) ((0 : Nat) + Int.toNat i * 2))) (IntKind.wrap IntKind.u32 i)) (1 : Int) ∧ b = true ∧ True) ∧ ((intAt bs ((0 : Nat) + Int.toNat i * 2 + 1) == (0 : Int)) = false → Q (ari BinOp.add IntKind.i64 i (1 : Int)) zz ∧ CallKind.normal = CallKind.normal ∧ TodoOk (ren 0 [(0, 0), (1, 1)]) hI_d0 hI_d0 ∧ ari BinOp.add IntKind.i64 i (1 : Int) = ari BinOp.add IntKind.i64 i (1 : Int) ∧ (30 : TypeId) = (30 : TypeId) ∧ bs = bs ∧ (30 : TypeId) = (30 : TypeId) ∧ zz = zz ∧ True)) ∧ (decide (i < (32 : Int)) = false → (Array.size bs = (64 : Nat) ∧ True) ∧ (Array.size bs = (64 : Nat) ∧ Array.size bs = Array.size zz ∧ True) ∧ (Array.size bs = (64 : Nat) ∧ True) ∧ o = bs ∧ x = (0 : Int) ∧ b = false ∧ True)) := by kernel_rfl
theorem idZ_n (bs : Array Value) (i : Int) (QZ : Int → Prop) (QS : Int → Nat → Array Value → Prop) : (stepT EH.go (run EH 1000) 0 (hZ_F bs i) (hZ_M bs i)).vc nilA (hZS bs QZ QS) =
    ((decide (i < (32 : Int)) = true → (Array.size bs = (64 : Nat) ∧ True) ∧ (BkOk bs ∧ True) ∧ (atOk bs i = true → QS (ari BinOp.add IntKind.i64 i (1 : Int)) (1 : Nat) #[Value.int IntKind.u32 (atI bs i)] ∧ CallKind.normal = CallKind.normal ∧ TodoOk (ren 0 [(0, 0), (1, 2)]) hZ_d0 hZ_d0 ∧ (1 : Nat) = (1 : Nat) ∧ ari BinOp.add IntKind.i64 i (1 : Int) = ari BinOp.add IntKind.i64 i (1 : Int) ∧ (30 : TypeId) = (30 : TypeId) ∧ bs = bs ∧ (41 : TypeId) = (41 : Nat) ∧ #[Value.int IntKind.u32 (atI bs i)] = #[Value.int IntKind.u32 (atI bs i)] ∧ True) ∧ (atOk bs i = false → QZ (ari BinOp.add IntKind.i64 i (1 : Int)) ∧ CallKind.normal = CallKind.normal ∧ TodoOk (ren 0 [(0, 0)]) hZ_d0 hZ_d0 ∧ Value.slice none (0 : Nat) (0 : Nat) = Value.slice none (0 : Nat) (0 : Nat) ∧ ari BinOp.add IntKind.i64 i (1 : Int) = ari BinOp.add IntKind.i64 i (1 : Int) ∧ (30 : TypeId) = (30 : TypeId) ∧ bs = bs ∧ True)) ∧ (decide (i < (32 : Int)) = false → Value.slice none (0 : Nat) (0 : Nat) = Value.slice none (0 : Nat) (0 : Nat) ∧ True)) := by kernel_rfl
theorem idZ_s (bs : Array Value) (i : Int) (k : Nat) (cs : Array Value) (QZ : Int → Prop) (QS : Int → Nat → Array Value → Prop) : (stepT EH.go (run EH 1000) 0 (hZ_F bs i) (hZ_M bs i)).vc (freshA k cs 41) (hZS bs QZ QS) =
    ((decide (i < (32 : Int)) = true → (Array.size bs = (64 : Nat) ∧ True) ∧ (BkOk bs ∧ True) ∧ (atOk bs i = true → QS (ari BinOp.add IntKind.i64 i (1 : Int)) (1 : Nat) #[Value.int IntKind.u32 (atI bs i)] ∧ CallKind.normal = CallKind.normal ∧ TodoOk (ren 0 [(0, 0), (1, 2)]) hZ_d0 hZ_d0 ∧ (1 : Nat) = (1 : Nat) ∧ ari BinOp.add IntKind.i64 i (1 : Int) = ari BinOp.add IntKind.i64 i (1 : Int) ∧ (30 : TypeId) = (30 : TypeId) ∧ bs = bs ∧ (41 : TypeId) = (41 : Nat) ∧ #[Value.int IntKind.u32 (atI bs i)] = #[Value.int IntKind.u32 (atI bs i)] ∧ True) ∧ (atOk bs i = false → QZ (ari BinOp.add IntKind.i64 i (1 : Int)) ∧ CallKind.normal = CallKind.normal ∧ TodoOk (ren 0 [(0, 0)]) hZ_d0 hZ_d0 ∧ Value.slice none (0 : Nat) (0 : Nat) = Value.slice none (0 : Nat) (0 : Nat) ∧ ari BinOp.add IntKind.i64 i (1 : Int) = ari BinOp.add IntKind.i64 i (1 : Int) ∧ (30 : TypeId) = (30 : TypeId) ∧ bs = bs ∧ True)) ∧ (decide (i < (32 : Int)) = false → False)) := by kernel_rfl
theorem idS_s (bs : Array Value) (i : Int) (k : Nat) (cs : Array Value) (kF : Nat) (csF : Array Value) (QS : Int → Nat → Array Value → Prop) : (stepT EH.go (run EH 1000) 0 (hS_F bs i k cs) (hS_M bs i k cs)).vc (freshA kF csF 41) (hS_n bs QS) =
    ((decide (i < (32 : Int)) = true → (Array.size bs = (64 : Nat) ∧ True) ∧ (BkOk bs ∧ True) ∧ (atOk bs i = true → (((k + 1) * 4 ≤ (140737488355328 : Nat) ∧ k + 1 ≤ (140737488355328 : Nat)) ∧ k * 1 = Array.size cs ∧ True) ∧ QS (ari BinOp.add IntKind.i64 i (1 : Int)) (k + 1) (cs ++ #[Value.int IntKind.u32 (atI bs i)]) ∧ CallKind.normal = CallKind.normal ∧ TodoOk (ren 0 [(0, 0), (1, 3)]) hZ_d0 hZ_d0 ∧ k + 1 = k + 1 ∧ ari BinOp.add IntKind.i64 i (1 : Int) = ari BinOp.add IntKind.i64 i (1 : Int) ∧ (30 : TypeId) = (30 : TypeId) ∧ bs = bs ∧ (41 : TypeId) = (41 : Nat) ∧ cs ++ #[Value.int IntKind.u32 (atI bs i)] = cs ++ #[Value.int IntKind.u32 (atI bs i)] ∧ True) ∧ (atOk bs i = false → QS (ari BinOp.add IntKind.i64 i (1 : Int)) k cs ∧ CallKind.normal = CallKind.normal ∧ TodoOk (ren 0 [(0, 0), (1, 1)]) hZ_d0 hZ_d0 ∧ k = k ∧ ari BinOp.add IntKind.i64 i (1 : Int) = ari BinOp.add IntKind.i64 i (1 : Int) ∧ (30 : TypeId) = (30 : TypeId) ∧ bs = bs ∧ (41 : TypeId) = (41 : TypeId) ∧ cs = cs ∧ True)) ∧ (decide (i < (32 : Int)) = false → kF = k ∧ (41 : TypeId) = (41 : TypeId) ∧ csF = cs ∧ True)) := by kernel_rfl
end Go.Proofs.Ytnicipemkcofpaa
/- Of handle: the contracts of Void, Issue, Issued. No condition. -/
namespace Go.Proofs.Ytnicipemkcofpaa
set_option maxRecDepth 100000
set_option linter.unusedSimpArgs false
set_option linter.unusedVariables false
theorem conH1_ok : ∀ g l m t, conH1 g l m = some t → Con E0 g l m t := by
  intro g l m t h
  unfold conH1 at h
  split at h
  · rename_i x; cases h
    refine Con.asked fun hq => ?_
    have h := slot_con x.den m
    refine Con.args (l' := [u32 x.den]) (fun R vs ha => by
      match vs, ha with
      | [v], ha => exact ⟨ha.1, trivial⟩) ?_
    intro A hs
    exact h A ⟨fun p hp => hq p hp, hs⟩
  · rename_i bs x; cases h
    refine Con.asked fun hq => ?_
    refine Con.args (l' := [bkS bs, u32 x.den]) (fun R vs ha => by
      match vs, ha with
      | [v, w], ha => exact ⟨ha.1, ha.2.1, trivial⟩) ?_
    intro A hs
    exact good_con x.den m A ⟨fun p hp => hq p hp, hs⟩
  · rename_i bs x; cases h
    refine Con.asked fun hq => ?_
    refine Con.args (l' := [bkS bs, i64 (.o x.den)]) (fun R vs ha => by
      match vs, ha with
      | [v, w], ha => exact ⟨ha.1, ha.2.1, trivial⟩) ?_
    intro A hs
    exact at_con x.den m A ⟨fun p hp => hq p hp, hs⟩
  · cases h
theorem EH_ok : EnvOk EH := EnvOk.with E0_ok _ _ conH1_ok
section
variable {bs : Array Value}
/-! Void. -/
theorem putAt2 {cs : Array Value} {p : Nat} {u v : Value} (h : p + 2 ≤ cs.size) : (putAt cs p [u, v]).size = cs.size ∧ (putAt cs p [u, v])[p]? = some u ∧ (putAt cs p [u, v])[p + 1]? = some v ∧ ∀ k, k ≠ p → k ≠ p + 1 → (putAt cs p [u, v])[k]? = cs[k]? := by
  refine ⟨putAt_size (by simpa using h), ?_, ?_, fun k h1 h2 => putAt_out (by simpa using h) (by simp; omega)⟩
  · rw [putAt_in (by simpa using h) (Nat.le_refl _) (by simp), Nat.sub_self]; rfl
  · rw [putAt_in (by simpa using h) (by omega) (by simp), show p + 1 - p = 1 by omega]; rfl
theorem voidS_size {i : Nat} (h : BkOk bs) (hi : i < 32) : (voidS bs i).size = 64 := by
  have := h.sz
  unfold voidS
  split
  · rw [set_size]; exact h.sz
  · rw [(putAt2 (by omega)).1]; exact h.sz
theorem void_con (h : Int) (m : SMem) : Con E0 9 [bkS bs, u32 h] m (needs [BkOk bs, inH h] (.ret (bbT (voidB bs h) (goodB bs h)) m)) := by
  refine Con.pure E0_ok (by kernel_rfl : E0.fn 9 = some Try.f9) (by kernel_rfl : Try.f9.body = some (Try.f9.body.getD .skip)) (by kernel_rfl) (by kernel_rfl) fun hq => ?_
  have hb : BkOk bs := hq _ (by simp)
  have hh : inH h := hq _ (by simp)
  refine (Good.ret [] (run_vc EH_ok 1000 (vd_vc bs h (voidB bs h) (goodB bs h)) ?_ (fun s m h => h) fun _ _ h => h.elim)).mono fun _ _ h => h.1
  have hs := hb.sz
  obtain ⟨s1, s2⟩ := slotI_lt hh
  cases hg : goodB bs h with
  | false =>
    simp only [hs, hg, voidB, Bool.not_false, true_implies, Bool.true_eq_false, Bool.false_eq_true, false_implies, if_false, and_true, true_and]
    exact ⟨hb, hh⟩
  | true =>
    have hi : (slotI h).toNat < 32 := by omega
    have hra := hb.ra _ hi
    by_cases c : ageAt bs (slotI h).toNat = 8388607
    · have d : (intAt bs ((slotI h).toNat * 2) == 8388607) = true := by
        have c : intAt bs ((slotI h).toNat * 2) = 8388607 := c
        rw [c]; rfl
      have e : voidS bs (slotI h).toNat = bs.setIfInBounds ((slotI h).toNat * 2 + 1) (.int .u8 2) := by unfold voidS; rw [if_pos c]
      simp only [hs, hg, d, e, voidB, Nat.zero_add, set_size, Bool.not_true, true_implies, Bool.true_eq_false, Bool.false_eq_true, false_implies, if_true, and_true, true_and]
      exact ⟨⟨hb, hh⟩, hh, ⟨s1, s2⟩, hb.a _ hi, ⟨s1, s2⟩, by omega⟩
    · have d : (intAt bs ((slotI h).toNat * 2) == 8388607) = false := by
        have c : ¬ intAt bs ((slotI h).toNat * 2) = 8388607 := c
        simpa using c
      have e : voidS bs (slotI h).toNat = putAt bs ((slotI h).toNat * 2) [.int .u32 (ageAt bs (slotI h).toNat + 1), .int .u8 0] := by unfold voidS; rw [if_neg c]
      have ea : ari .add .u32 (intAt bs ((slotI h).toNat * 2)) 1 = ageAt bs (slotI h).toNat + 1 := by
        have hra' : 0 ≤ intAt bs ((slotI h).toNat * 2) ∧ intAt bs ((slotI h).toNat * 2) ≤ 8388607 := hra
        rw [ari_add, u32_in (by omega) (by omega)]; rfl
      have hz : (putAt bs ((slotI h).toNat * 2) [.int .u32 (ageAt bs (slotI h).toNat + 1), .int .u8 0]).size = 64 := by rw [(putAt2 (by omega)).1]; exact hs
      have hl : ∀ u v : Value, List.length [u, v] = 2 := fun _ _ => rfl
      simp only [hs, hg, d, e, ea, hz, hl, voidB, Nat.zero_add, Bool.not_true, true_implies, Bool.true_eq_false, Bool.false_eq_true, false_implies, if_true, and_true, true_and]
      exact ⟨⟨hb, hh⟩, hh, ⟨s1, s2⟩, hb.a _ hi, ⟨s1, s2⟩, hb.a _ hi, ⟨s1, s2⟩, by omega⟩
/-! Issue. -/
theorem freeFrom_succ (k i : Nat) : freeFrom bs (k + 1) i = if kindAt bs i = 0 then some i else freeFrom bs k (i + 1) := rfl
theorem hI_ok (hb : BkOk bs) {zz : Array Value} (hz : zz.size = 64) : ∀ (k i : Nat), i + k = 32 → freeFrom bs k i = freeS bs → Good Try.prog (retOk 0 [] (bhbT (issueB bs) (issueI bs) (issueOk bs)) e0M) 0 (hI_F bs (i : Int) zz) (hI_M bs (i : Int) zz) := by
  have hs := hb.sz
  intro k
  induction k with
  | zero =>
    intro i hi hf
    refine past_vc EH_ok 1000 (is1 bs (i : Int) zz (issueB bs) (issueI bs) (issueOk bs) (fun _ _ => False)) ?_ (fun _ _ h => h) (fun fs m hb => hI_good (fun _ _ h => h.elim) hb)
    have d : decide ((i : Int) < 32) = false := decide_eq_false (by omega)
    have e : freeS bs = none := hf.symm
    have e1 : issueB bs = bs := by unfold issueB; rw [e]
    have e2 : issueI bs = 0 := by unfold issueI; rw [e]
    have e3 : issueOk bs = false := by unfold issueOk; rw [e]; rfl
    simp only [d, e1, e2, e3, hs, hz, true_implies, Bool.true_eq_false, Bool.false_eq_true, false_implies, and_true, true_and]
  | succ k ih =>
    intro i hi hf
    refine past_vc EH_ok 1000 (is1 bs (i : Int) zz (issueB bs) (issueI bs) (issueOk bs) (fun i' z' => i' = ((i + 1 : Nat) : Int) ∧ z' = zz ∧ kindAt bs i ≠ 0)) ?_ (fun _ _ h => h)
      (fun fs m hb => hI_good (fun i' z' ⟨h1, h2, h3⟩ => by rw [h1, h2]; exact ih (i + 1) (by omega) (by rw [← hf, freeFrom_succ, if_neg h3])) hb)
    have d : decide ((i : Int) < 32) = true := decide_eq_true (by omega)
    have ei : ari .add .i64 (i : Int) 1 = ((i + 1 : Nat) : Int) := by rw [ari_add, i64_in' (by omega) (by omega)]; omega
    have hi32 : i < 32 := by omega
    by_cases c : kindAt bs i = 0
    · have d1 : (intAt bs (i * 2 + 1) == 0) = true := by
        have c : intAt bs (i * 2 + 1) = 0 := c
        rw [c]; rfl
      have e : freeS bs = some i := by rw [← hf, freeFrom_succ, if_pos c]
      have e1 : issueB bs = bs.setIfInBounds (i * 2 + 1) (.int .u8 1) := by unfold issueB; rw [e]
      have e2 : issueI bs = nameI i (ageAt bs i) := by unfold issueI; rw [e]
      have e3 : issueOk bs = true := by unfold issueOk; rw [e]; rfl
      have ha : intAt (bs.setIfInBounds (i * 2 + 1) (.int .u8 1)) (i * 2) = ageAt bs i := by unfold ageAt intAt; rw [set_out (by omega)]
      have hia : IsInt .u32 (bs.setIfInBounds (i * 2 + 1) (.int .u8 1)) (i * 2) := by
        have := hb.a i hi32
        unfold IsInt intAt at this ⊢
        rw [set_out (by omega)]; exact this
      have en := nameI_run hi32 (hb.ra i hi32)
      simp only [d, d1, e1, e2, e3, hs, hz, ha, en, Nat.zero_add, Int.toNat_natCast, set_size, true_implies, Bool.true_eq_false, Bool.false_eq_true, false_implies, and_true, true_and]
      exact ⟨by omega, hb.k i hi32, by omega, by omega, by omega, hia⟩
    · have d1 : (intAt bs (i * 2 + 1) == 0) = false := by
        have c : ¬ intAt bs (i * 2 + 1) = 0 := c
        simpa using c
      simp only [d, d1, ei, Nat.zero_add, Int.toNat_natCast, true_implies, Bool.true_eq_false, Bool.false_eq_true, false_implies, and_true, true_and, hI_d0_ok]
      exact ⟨by omega, hb.k i hi32, c⟩
theorem issue_con (m : SMem) : Con E0 11 [bkS bs] m (needs [BkOk bs] (.ret (bhbT (issueB bs) (issueI bs) (issueOk bs)) m)) := by
  refine Con.pure E0_ok (by kernel_rfl : E0.fn 11 = some Try.f11) (by kernel_rfl : Try.f11.body = some (Try.f11.body.getD .skip)) (by kernel_rfl) (by kernel_rfl) fun hq => ?_
  have hb : BkOk bs := hq _ (by simp)
  refine (Good.ret [] (run_vc EH_ok 1000 (is0_vc bs (fun i zz => i = ((0 : Nat) : Int) ∧ zz.size = 64)) ?_ (fun s m h => h.elim) fun fs m h => is0_go (fun i zz ⟨e1, e2⟩ => by rw [e1]; exact hI_ok hb e2 32 0 (by omega) rfl) h)).mono fun _ _ h => h.1
  simp only [and_true, true_and, hI_d0_ok]
  exact ⟨rfl, rfl⟩
/-! Issued. -/
def u32s (l : List Int) : Array Value := (l.map (Value.int .u32)).toArray
theorem u32s_size (l : List Int) : (u32s l).size = l.length := by unfold u32s; rw [List.size_toArray, List.length_map]
theorem u32s_app (l : List Int) (x : Int) : u32s (l ++ [x]) = u32s l ++ #[.int .u32 x] := by unfold u32s; simp
def issL (bs : Array Value) : Nat → List Int
  | 0 => []
  | i + 1 => if kindAt bs i = 1 then issL bs i ++ [nameI i (ageAt bs i)] else issL bs i
theorem issL_le : ∀ n, (issL bs n).length ≤ n
  | 0 => Nat.le_refl _
  | n + 1 => by
    have := issL_le n
    unfold issL
    split
    · rw [List.length_append]; show _ + 1 ≤ _; omega
    · omega
def issued (bs : Array Value) : List Int := issL bs 32
theorem at_i {i : Nat} (hi : i < 32) : atOk bs (i : Int) = decide (kindAt bs i = 1) ∧ (kindAt bs i = 1 → atI bs (i : Int) = nameI i (ageAt bs i)) := by
  have e : atOk bs (i : Int) = decide (kindAt bs i = 1) := by unfold atOk; rw [decide_eq_true (by omega), Bool.true_and, Int.toNat_natCast]
  refine ⟨e, fun h => ?_⟩
  unfold atI
  rw [e, decide_eq_true h, if_pos rfl, Int.toNat_natCast]
theorem issL_succ (i : Nat) : issL bs (i + 1) = if kindAt bs i = 1 then issL bs i ++ [nameI i (ageAt bs i)] else issL bs i := rfl
theorem issL_pre (bs : Array Value) {i j : Nat} (h : i ≤ j) (e : issL bs j = []) : issL bs i = [] := by
  induction j with
  | zero =>
    obtain rfl : i = 0 := by omega
    exact e
  | succ j ih =>
    by_cases c : i = j + 1
    · rw [c]; exact e
    · refine ih (by omega) ?_
      rw [issL_succ] at e
      split at e
      · simp at e
      · exact e
theorem hS_ok (hb : BkOk bs) : ∀ (k i : Nat), i + k = 32 → Good Try.prog (freshA (issued bs).length (u32s (issued bs)) 41) 0 (hS_F bs (i : Int) (issL bs i).length (u32s (issL bs i))) (hS_M bs (i : Int) (issL bs i).length (u32s (issL bs i))) := by
  have hs := hb.sz
  intro k
  induction k with
  | zero =>
    intro i hi
    obtain rfl : i = 32 := by omega
    refine past_vc EH_ok 1000 (idS_s bs ((32 : Nat) : Int) _ _ (issued bs).length (u32s (issued bs)) (fun _ _ _ => False)) ?_ (fun _ _ h => h) (fun fs m hb => hS_good (fun _ _ _ h => h.elim) hb)
    have d : decide (((32 : Nat) : Int) < 32) = false := rfl
    simp only [d, issued, true_implies, Bool.true_eq_false, Bool.false_eq_true, false_implies, and_true, true_and]
  | succ k ih =>
    intro i hi
    refine past_vc EH_ok 1000 (idS_s bs (i : Int) _ _ (issued bs).length (u32s (issued bs)) (fun i' k' c' => i' = ((i + 1 : Nat) : Int) ∧ k' = (issL bs (i + 1)).length ∧ c' = u32s (issL bs (i + 1)))) ?_ (fun _ _ h => h)
      (fun fs m hb => hS_good (fun i' k' c' ⟨e1, e2, e3⟩ => by rw [e1, e2, e3]; exact ih (i + 1) (by omega)) hb)
    have d : decide ((i : Int) < 32) = true := decide_eq_true (by omega)
    have ei : ari .add .i64 (i : Int) 1 = ((i + 1 : Nat) : Int) := by rw [ari_add, i64_in' (by omega) (by omega)]; omega
    obtain ⟨a1, a2⟩ := at_i (bs := bs) (i := i) (by omega)
    have hle := issL_le (bs := bs) i
    by_cases c : kindAt bs i = 1
    · simp only [d, ei, a1, a2 c, hs, c, decide_true, u32s_size, Nat.mul_one, issL_succ, if_true, List.length_append, List.length_cons, List.length_nil, u32s_app, true_implies, Bool.true_eq_false, Bool.false_eq_true, false_implies, and_true, true_and, hZ_d0_ok, hS_d0_ok]
      exact ⟨hb, by omega⟩
    · simp only [d, ei, a1, hs, c, decide_false, issL_succ, if_false, true_implies, Bool.true_eq_false, Bool.false_eq_true, false_implies, and_true, true_and, hZ_d0_ok, hS_d0_ok]
      exact hb
theorem hZS_good {A : SV → SMem → Prop} {QZ : Int → Prop} {QS : Int → Nat → Array Value → Prop} {fs : List SFr} {m : SMem} (hz : ∀ i, QZ i → Good Try.prog A 0 (hZ_F bs i) (hZ_M bs i)) (hs : ∀ i k cs, QS i k cs → Good Try.prog A 0 (hS_F bs i k cs) (hS_M bs i k cs)) (hb : hZS bs QZ QS fs m) : Good Try.prog A 0 fs m := by
  unfold hZS at hb
  split at hb
  · split at hb
    · exact hS_good hs hb
    · exact hZ_good hz hb
  · exact hb.elim
theorem hZ_s (hb : BkOk bs) (hne : issued bs ≠ []) : ∀ (k i : Nat), i + k = 32 → issL bs i = [] → Good Try.prog (freshA (issued bs).length (u32s (issued bs)) 41) 0 (hZ_F bs (i : Int)) (hZ_M bs (i : Int)) := by
  have hs := hb.sz
  intro k
  induction k with
  | zero =>
    intro i hi he
    obtain rfl : i = 32 := by omega
    exact absurd he hne
  | succ k ih =>
    intro i hi he
    refine past_vc EH_ok 1000 (idZ_s bs (i : Int) (issued bs).length (u32s (issued bs)) (fun i' => i' = ((i + 1 : Nat) : Int) ∧ issL bs (i + 1) = []) (fun i' k' c' => i' = ((i + 1 : Nat) : Int) ∧ k' = (issL bs (i + 1)).length ∧ c' = u32s (issL bs (i + 1)))) ?_ (fun _ _ h => h)
      (fun fs m hb' => hZS_good (fun i' ⟨e1, e2⟩ => by rw [e1]; exact ih (i + 1) (by omega) e2) (fun i' k' c' ⟨e1, e2, e3⟩ => by rw [e1, e2, e3]; exact hS_ok hb k (i + 1) (by omega)) hb')
    have d : decide ((i : Int) < 32) = true := decide_eq_true (by omega)
    have ei : ari .add .i64 (i : Int) 1 = ((i + 1 : Nat) : Int) := by rw [ari_add, i64_in' (by omega) (by omega)]; omega
    obtain ⟨a1, a2⟩ := at_i (bs := bs) (i := i) (by omega)
    by_cases c : kindAt bs i = 1
    · simp only [d, ei, a1, a2 c, hs, c, he, decide_true, issL_succ, if_true, List.nil_append, List.length_cons, List.length_nil, true_implies, Bool.true_eq_false, Bool.false_eq_true, false_implies, and_true, true_and, hZ_d0_ok, hS_d0_ok]
      exact ⟨hb, rfl⟩
    · simp only [d, ei, a1, hs, c, he, decide_false, issL_succ, if_false, true_implies, Bool.true_eq_false, Bool.false_eq_true, false_implies, and_true, true_and, hZ_d0_ok, hS_d0_ok]
      exact hb
theorem hZ_nn (hb : BkOk bs) (hne : issued bs = []) : ∀ (k i : Nat), i + k = 32 → Good Try.prog nilA 0 (hZ_F bs (i : Int)) (hZ_M bs (i : Int)) := by
  have hs := hb.sz
  intro k
  induction k with
  | zero =>
    intro i hi
    obtain rfl : i = 32 := by omega
    refine past_vc EH_ok 1000 (idZ_n bs ((32 : Nat) : Int) (fun _ => False) (fun _ _ _ => False)) ?_ (fun _ _ h => h) (fun fs m hb => hZS_good (fun _ h => h.elim) (fun _ _ _ h => h.elim) hb)
    have d : decide (((32 : Nat) : Int) < 32) = false := rfl
    simp only [d, true_implies, Bool.true_eq_false, Bool.false_eq_true, false_implies, and_true, true_and]
  | succ k ih =>
    intro i hi
    refine past_vc EH_ok 1000 (idZ_n bs (i : Int) (fun i' => i' = ((i + 1 : Nat) : Int)) (fun i' k' c' => False)) ?_ (fun _ _ h => h)
      (fun fs m hb' => hZS_good (fun i' e1 => by rw [e1]; exact ih (i + 1) (by omega)) (fun _ _ _ h => h.elim) hb')
    have d : decide ((i : Int) < 32) = true := decide_eq_true (by omega)
    have ei : ari .add .i64 (i : Int) 1 = ((i + 1 : Nat) : Int) := by rw [ari_add, i64_in' (by omega) (by omega)]; omega
    obtain ⟨a1, a2⟩ := at_i (bs := bs) (i := i) (by omega)
    have he := issL_pre bs (i := i + 1) (by omega) hne
    have c : ¬ kindAt bs i = 1 := by
      intro c
      rw [issL_succ, if_pos c] at he
      simp at he
    simp only [d, ei, a1, hs, c, decide_false, true_implies, Bool.true_eq_false, Bool.false_eq_true, false_implies, and_true, true_and, hZ_d0_ok, hS_d0_ok]
    exact hb
theorem Con.two {E : Env} {g : FuncId} {l : List SV} {m : SMem} {b : Bool} {t e : Tree} (ht : b = true → Con E g l m t) (he : b = false → Con E g l m e) : Con E g l m (.br b t e) := by
  intro A hs
  cases hb : b with
  | true => exact ht hb A (hs.1 hb)
  | false => exact he hb A (hs.2 hb)
/-- A row of handles: none, or a block of its own. -/
noncomputable def rowT (l : List Int) (ty : TypeId) (m : SMem) : Tree := .br (decide (l.length = 0)) (.ret (.s (.c (.f (.lit (.slice none 0 0))))) m) (.ret (.s (.c (.f (.slice m.next (.l 0) (.o l.length) (.full 1))))) (m.new (.pop (u32s l)) ty))
theorem issued_con (m : SMem) : Con E0 18 [bkS bs] m (.need [BkOk bs] (rowT (issued bs) 41 m)) := by
  refine Con.asked fun hq => ?_
  have hb : BkOk bs := hq _ (by simp)
  refine Con.two (fun h => ?_) (fun h => ?_)
  · have he : issued bs = [] := List.eq_nil_of_length_eq_zero (of_decide_eq_true h)
    refine (show Con E0 18 [bkS bs] m (needs [] _) from Con.pure E0_ok (by kernel_rfl : E0.fn 18 = some Try.f18) (by kernel_rfl : Try.f18.body = some (Try.f18.body.getD .skip)) (by kernel_rfl) (by kernel_rfl) fun hq => ?_)
    refine (Good.ret (s0m := e0M) [] (run_vc EH_ok 1000 (id0_vc bs (fun i => i = ((0 : Nat) : Int))) ?_ (fun s m h => h.elim) fun fs m h => id0_go (fun i e => by rw [e]; exact hZ_nn hb he 32 0 (by omega)) h)).mono fun _ _ h => h.1
    simp only [and_true, true_and, hZ_d0_ok]
    rfl
  · have he : issued bs ≠ [] := fun e => by
      have := of_decide_eq_false h
      rw [e] at this
      exact this rfl
    refine (show Con E0 18 [bkS bs] m (needs [] _) from Con.fresh E0_ok (by kernel_rfl : E0.fn 18 = some Try.f18) (by kernel_rfl : Try.f18.body = some (Try.f18.body.getD .skip)) (by kernel_rfl) rfl fun _ => ?_)
    refine Good.retX ((run_vc EH_ok 1000 (id0_vc bs (fun i => i = ((0 : Nat) : Int))) ?_ (fun s m h => h.elim) fun fs m h => id0_go (A := freshA (issued bs).length (u32s (issued bs)) 41) (fun i e => by rw [e]; exact hZ_s hb he 32 0 (by omega) rfl) h).mono fun s m h => ?_)
    · simp only [and_true, true_and, hZ_d0_ok]
      rfl
    · unfold freshA at h
      split at h
      · exact ⟨_, h⟩
      · exact h.elim
end
end Go.Proofs.Ytnicipemkcofpaa
/- Of handle: which handles are good, behind Issue, behind Void; all of them are told once. No condition. -/
namespace Go.Proofs.Ytnicipemkcofpaa
set_option maxRecDepth 100000
section
variable {bs : Array Value}
theorem goodB_iff (hb : BkOk bs) {h : Int} : goodB bs h = true ↔ ∃ i : Nat, i < 32 ∧ kindAt bs i = 1 ∧ h = nameI i (ageAt bs i) := by
  unfold goodB slotI slotOk nameI
  constructor
  · intro hg
    simp only [Bool.and_eq_true, decide_eq_true_eq] at hg
    obtain ⟨h1, h2, h3⟩ := hg
    rw [if_pos h1] at h2 h3
    exact ⟨((h - 1) % 256).toNat, by omega, h3, by rw [h2]; omega⟩
  · rintro ⟨i, hi, hk, rfl⟩
    have hr := hb.ra i hi
    have e1 : (256 * ageAt bs i + i + 1 - 1) % 256 = i := by omega
    have e2 : (256 * ageAt bs i + i + 1 - 1) / 256 = ageAt bs i := by omega
    simp only [Bool.and_eq_true, decide_eq_true_eq]
    have h1 : 256 * ageAt bs i + i + 1 ≠ 0 ∧ (256 * ageAt bs i + i + 1 - 1) % 256 < 32 ∧ (256 * ageAt bs i + i + 1 - 1) / 256 ≤ 8388607 := ⟨by omega, by omega, by omega⟩
    refine ⟨h1, ?_⟩
    rw [if_pos h1, e1, Int.toNat_natCast, e2]
    exact ⟨rfl, hk⟩
theorem goodB_in (hb : BkOk bs) {h : Int} (hg : goodB bs h = true) : inH h ∧ 1 ≤ h := by
  obtain ⟨i, hi, _, rfl⟩ := (goodB_iff hb).1 hg
  have := hb.ra i hi
  unfold inH nameI
  omega
theorem name_inj {i j : Nat} {a b : Int} (hi : i < 32) (hj : j < 32) (h : nameI i a = nameI j b) : i = j ∧ a = b := by
  unfold nameI at h
  omega
theorem goodB_name (hb : BkOk bs) {i : Nat} (hi : i < 32) : goodB bs (nameI i (ageAt bs i)) = decide (kindAt bs i = 1) := by
  rw [Bool.eq_iff_iff, goodB_iff hb, decide_eq_true_eq]
  constructor
  · rintro ⟨j, hj, hk, e⟩
    obtain ⟨rfl, _⟩ := name_inj hi hj e
    exact hk
  · exact fun h => ⟨i, hi, h, rfl⟩
/-! All that are good, each once. -/
theorem issL_mem (hb : BkOk bs) {h : Int} : ∀ {n : Nat}, h ∈ issL bs n ↔ ∃ i : Nat, i < n ∧ kindAt bs i = 1 ∧ h = nameI i (ageAt bs i)
  | 0 => ⟨fun h => (by cases h), fun ⟨_, h, _⟩ => (by omega)⟩
  | n + 1 => by
    rw [issL_succ]
    split
    · rename_i hk
      rw [List.mem_append, issL_mem hb, List.mem_singleton]
      constructor
      · rintro (⟨i, h1, h2, h3⟩ | h)
        · exact ⟨i, by omega, h2, h3⟩
        · exact ⟨n, by omega, hk, h⟩
      · rintro ⟨i, h1, h2, h3⟩
        by_cases e : i = n
        · rw [e] at h3; exact .inr h3
        · exact .inl ⟨i, by omega, h2, h3⟩
    · rename_i hk
      rw [issL_mem hb]
      constructor
      · rintro ⟨i, h1, h2, h3⟩; exact ⟨i, by omega, h2, h3⟩
      · rintro ⟨i, h1, h2, h3⟩
        by_cases e : i = n
        · rw [e] at h2; exact absurd h2 hk
        · exact ⟨i, by omega, h2, h3⟩
theorem issued_mem (hb : BkOk bs) {h : Int} : h ∈ issued bs ↔ goodB bs h = true := by
  rw [goodB_iff hb]; exact issL_mem hb
theorem issL_nodup (hb : BkOk bs) : ∀ {n : Nat}, n ≤ 32 → (issL bs n).Nodup
  | 0, _ => List.nodup_nil
  | n + 1, hn => by
    rw [issL_succ]
    split
    · rw [List.nodup_append]
      refine ⟨issL_nodup hb (by omega), by simp, fun a ha b hb' => ?_⟩
      obtain ⟨i, h1, _, h3⟩ := (issL_mem hb).1 ha
      rw [List.mem_singleton] at hb'
      intro e
      rw [h3, hb'] at e
      have := (name_inj (by omega) (by omega) e).1
      omega
    · exact issL_nodup hb (by omega)
theorem issued_nodup (hb : BkOk bs) : (issued bs).Nodup := issL_nodup hb (Nat.le_refl _)
/-! Behind Issue. -/
theorem freeFrom_some : ∀ {k i j : Nat}, freeFrom bs k i = some j → i ≤ j ∧ j < i + k ∧ kindAt bs j = 0
  | 0, _, _, h => by cases h
  | k + 1, i, j, h => by
    rw [freeFrom_succ] at h
    split at h
    · rename_i hk; cases h; exact ⟨Nat.le_refl _, by omega, hk⟩
    · obtain ⟨h1, h2, h3⟩ := freeFrom_some h; exact ⟨by omega, by omega, h3⟩
theorem freeS_some {j : Nat} (h : freeS bs = some j) : j < 32 ∧ kindAt bs j = 0 := by
  obtain ⟨_, h2, h3⟩ := freeFrom_some (bs := bs) (k := 32) (i := 0) h
  exact ⟨by omega, h3⟩
theorem kind_set {i j : Nat} {x : Int} {k : IntKind} (hs : bs.size = 64) (hi : i < 32) : kindAt (bs.setIfInBounds (i * 2 + 1) (.int k x)) j = if j = i then x else kindAt bs j := by
  unfold kindAt intAt
  by_cases e : j = i
  · rw [if_pos e, e, set_in (by omega)]
  · rw [if_neg e, set_out (by omega)]
theorem age_set {i j : Nat} {v : Value} : ageAt (bs.setIfInBounds (i * 2 + 1) v) j = ageAt bs j := by
  unfold ageAt intAt
  rw [set_out (by omega)]
theorem bk_set (hb : BkOk bs) {i : Nat} {x : Int} (hx : 0 ≤ x ∧ x ≤ 2) (hi : i < 32) : BkOk (bs.setIfInBounds (i * 2 + 1) (.int .u8 x)) := by
  have hs := hb.sz
  refine ⟨by rw [set_size]; exact hs, fun j hj => ?_, fun j hj => ?_, fun j hj => by rw [age_set]; exact hb.ra j hj, fun j hj => ?_⟩
  · have := hb.a j hj
    unfold IsInt intAt at this ⊢
    rw [set_out (by omega)]; exact this
  · by_cases e : j = i
    · rw [e]; exact isI_of (set_in (by omega))
    · have := hb.k j hj
      unfold IsInt intAt at this ⊢
      rw [set_out (by omega)]; exact this
  · rw [kind_set hs hi]
    split
    · exact hx
    · exact hb.rk j hj
theorem issue_cases : (freeS bs = none ∧ issueB bs = bs ∧ issueI bs = 0 ∧ issueOk bs = false) ∨ ∃ i, i < 32 ∧ kindAt bs i = 0 ∧ issueB bs = bs.setIfInBounds (i * 2 + 1) (.int .u8 1) ∧ issueI bs = nameI i (ageAt bs i) ∧ issueOk bs = true ∧ freeS bs = some i := by
  unfold issueB issueI issueOk
  cases h : freeS bs with
  | none => exact .inl ⟨rfl, rfl, rfl, rfl⟩
  | some i =>
    obtain ⟨h1, h2⟩ := freeS_some h
    exact .inr ⟨i, h1, h2, rfl, rfl, rfl, rfl⟩
theorem issue_bk (hb : BkOk bs) : BkOk (issueB bs) := by
  rcases issue_cases (bs := bs) with ⟨_, e, _⟩ | ⟨i, h1, _, e, _⟩
  · rw [e]; exact hb
  · rw [e]; exact bk_set hb (by omega) h1
theorem issue_good (hb : BkOk bs) (h : Int) : goodB (issueB bs) h = (goodB bs h || (issueOk bs && decide (h = issueI bs))) := by
  rcases issue_cases (bs := bs) with ⟨_, e1, _, e3⟩ | ⟨i, h1, h2, e1, e2, e3, _⟩
  · rw [e1, e3]; simp
  · rw [e1, e2, e3, Bool.eq_iff_iff, goodB_iff (bk_set hb (by omega) h1), Bool.or_eq_true, goodB_iff hb, Bool.true_and, decide_eq_true_eq]
    simp only [kind_set hb.sz h1, age_set]
    constructor
    · rintro ⟨j, hj, hk, e⟩
      by_cases c : j = i
      · rw [c] at e; exact .inr e
      · rw [if_neg c] at hk; exact .inl ⟨j, hj, hk, e⟩
    · rintro (⟨j, hj, hk, e⟩ | e)
      · refine ⟨j, hj, ?_, e⟩
        rw [if_neg (fun c => by rw [c] at hk; omega)]; exact hk
      · exact ⟨i, h1, by rw [if_pos rfl], e⟩
/-! Behind Void. -/
theorem void_kind (hs : bs.size = 64) {i j : Nat} (hi : i < 32) : kindAt (voidS bs i) j = if j = i then (if ageAt bs i = 8388607 then 2 else 0) else kindAt bs j := by
  unfold voidS
  by_cases c : ageAt bs i = 8388607
  · rw [if_pos c, kind_set hs hi, if_pos c]
  · rw [if_neg c, if_neg c]
    unfold kindAt intAt
    obtain ⟨_, _, h2, h3⟩ := putAt2 (cs := bs) (p := i * 2) (u := .int .u32 (ageAt bs i + 1)) (v := .int .u8 0) (by omega)
    by_cases e : j = i
    · rw [if_pos e, e, h2]
    · rw [if_neg e, h3 _ (by omega) (by omega)]
theorem void_age (hs : bs.size = 64) {i j : Nat} (hi : i < 32) : ageAt (voidS bs i) j = if j = i then (if ageAt bs i = 8388607 then ageAt bs i else ageAt bs i + 1) else ageAt bs j := by
  unfold voidS
  by_cases c : ageAt bs i = 8388607
  · rw [if_pos c, age_set, if_pos c]
    split
    · rename_i e; rw [e]
    · rfl
  · rw [if_neg c, if_neg c]
    obtain ⟨_, h1, _, h3⟩ := putAt2 (cs := bs) (p := i * 2) (u := .int .u32 (ageAt bs i + 1)) (v := .int .u8 0) (by omega)
    by_cases e : j = i
    · rw [if_pos e, e]
      show intAt _ _ = _
      unfold intAt
      rw [h1]
    · rw [if_neg e]
      show intAt _ _ = intAt _ _
      unfold intAt
      rw [h3 _ (by omega) (by omega)]
theorem voidS_bk (hb : BkOk bs) {i : Nat} (hi : i < 32) : BkOk (voidS bs i) := by
  have hs := hb.sz
  by_cases c : ageAt bs i = 8388607
  · have e : voidS bs i = bs.setIfInBounds (i * 2 + 1) (.int .u8 2) := by unfold voidS; rw [if_pos c]
    rw [e]; exact bk_set hb (by omega) hi
  · have e : voidS bs i = putAt bs (i * 2) [.int .u32 (ageAt bs i + 1), .int .u8 0] := by unfold voidS; rw [if_neg c]
    obtain ⟨_, h1, h2, h3⟩ := putAt2 (cs := bs) (p := i * 2) (u := .int .u32 (ageAt bs i + 1)) (v := .int .u8 0) (by omega)
    have hra := hb.ra i hi
    refine ⟨voidS_size hb hi, fun j hj => ?_, fun j hj => ?_, fun j hj => ?_, fun j hj => ?_⟩
    · rw [e]
      by_cases k : j = i
      · rw [k]; exact isI_of h1
      · have := hb.a j hj
        unfold IsInt intAt at this ⊢
        rw [h3 _ (by omega) (by omega)]; exact this
    · rw [e]
      by_cases k : j = i
      · rw [k]; exact isI_of h2
      · have := hb.k j hj
        unfold IsInt intAt at this ⊢
        rw [h3 _ (by omega) (by omega)]; exact this
    · rw [void_age hs hi, if_neg c]
      split
      · omega
      · exact hb.ra j hj
    · rw [void_kind hs hi, if_neg c]
      split
      · omega
      · exact hb.rk j hj
theorem slotI_name {i : Nat} {a : Int} (hi : i < 32) (ha : 0 ≤ a ∧ a ≤ 8388607) : (slotI (nameI i a)).toNat = i := by
  unfold slotI slotOk nameI
  rw [if_pos (by rw [decide_eq_true_eq]; omega)]
  omega
theorem void_cases (hb : BkOk bs) (x : Int) : (goodB bs x = false ∧ voidB bs x = bs) ∨ ∃ i, i < 32 ∧ kindAt bs i = 1 ∧ x = nameI i (ageAt bs i) ∧ goodB bs x = true ∧ voidB bs x = voidS bs i := by
  unfold voidB
  cases hg : goodB bs x with
  | false => exact .inl ⟨rfl, rfl⟩
  | true =>
    obtain ⟨i, hi, hk, e⟩ := (goodB_iff hb).1 hg
    refine .inr ⟨i, hi, hk, e, rfl, ?_⟩
    rw [if_pos rfl, e, slotI_name hi (hb.ra i hi)]
theorem void_bk (hb : BkOk bs) (x : Int) : BkOk (voidB bs x) := by
  rcases void_cases hb x with ⟨_, e⟩ | ⟨i, hi, _, _, _, e⟩
  · rw [e]; exact hb
  · rw [e]; exact voidS_bk hb hi
theorem void_good (hb : BkOk bs) (x h : Int) : goodB (voidB bs x) h = (goodB bs h && !decide (h = x)) := by
  rcases void_cases hb x with ⟨hg, e⟩ | ⟨i, hi, hk, ex, hg, e⟩
  · rw [e]
    by_cases c : h = x
    · rw [c, hg]; rfl
    · rw [decide_eq_false c]; simp
  · rw [e, Bool.eq_iff_iff, goodB_iff (voidS_bk hb hi), Bool.and_eq_true, goodB_iff hb, Bool.not_eq_true', decide_eq_false_iff_not]
    have hs := hb.sz
    constructor
    · rintro ⟨j, hj, hk', e'⟩
      rw [void_kind hs hi] at hk'
      by_cases c : j = i
      · rw [if_pos c] at hk'
        split at hk' <;> omega
      · rw [if_neg c] at hk'
        rw [void_age hs hi, if_neg c] at e'
        refine ⟨⟨j, hj, hk', e'⟩, fun e2 => ?_⟩
        rw [e2, ex] at e'
        exact c (name_inj hj hi e'.symm).1
    · rintro ⟨⟨j, hj, hk', e'⟩, hne⟩
      have c : j ≠ i := fun c => hne (by rw [e', ex, c])
      exact ⟨j, hj, by rw [void_kind hs hi, if_neg c]; exact hk', by rw [void_age hs hi, if_neg c]; exact e'⟩
/-! What was given out ever. -/
/-- A handle that may have been given out: of a slot's generations so far. -/
def usedB (bs : Array Value) (h : Int) : Prop := ∃ (i : Nat) (a : Int), i < 32 ∧ 0 ≤ a ∧ h = nameI i a ∧ (a < ageAt bs i ∨ (a = ageAt bs i ∧ kindAt bs i ≠ 0))
theorem used_in (hb : BkOk bs) {h : Int} (hu : usedB bs h) : inH h := by
  obtain ⟨i, a, hi, ha, rfl, hc⟩ := hu
  have := hb.ra i hi
  unfold inH nameI
  omega
theorem used_issue (hb : BkOk bs) {h : Int} (hu : usedB bs h) : usedB (issueB bs) h := by
  rcases issue_cases (bs := bs) with ⟨_, e, _⟩ | ⟨i, h1, _, e, _⟩
  · rw [e]; exact hu
  · obtain ⟨j, a, hj, ha, rfl, hc⟩ := hu
    refine ⟨j, a, hj, ha, rfl, ?_⟩
    rw [e, age_set, kind_set hb.sz h1]
    rcases hc with hc | ⟨h2, h3⟩
    · exact .inl hc
    · refine .inr ⟨h2, ?_⟩
      split
      · omega
      · exact h3
theorem used_new (hb : BkOk bs) (ho : issueOk bs = true) : usedB (issueB bs) (issueI bs) ∧ ¬ usedB bs (issueI bs) := by
  rcases issue_cases (bs := bs) with ⟨_, _, _, e3⟩ | ⟨i, h1, h2, e1, e2, e3, _⟩
  · rw [ho] at e3; cases e3
  · have hr := hb.ra i h1
    refine ⟨⟨i, ageAt bs i, h1, hr.1, e2, .inr ⟨by rw [e1, age_set], by rw [e1, kind_set hb.sz h1, if_pos rfl]; omega⟩⟩, ?_⟩
    rintro ⟨j, a, hj, ha, e, hc⟩
    rw [e2] at e
    obtain ⟨rfl, rfl⟩ := name_inj h1 hj e
    rcases hc with hc | ⟨_, hc⟩
    · omega
    · exact hc h2
theorem used_void (hb : BkOk bs) {x h : Int} (hu : usedB bs h) : usedB (voidB bs x) h := by
  rcases void_cases hb x with ⟨_, e⟩ | ⟨i, hi, hk, ex, _, e⟩
  · rw [e]; exact hu
  · obtain ⟨j, a, hj, ha, rfl, hc⟩ := hu
    refine ⟨j, a, hj, ha, rfl, ?_⟩
    rw [e, void_age hb.sz hi, void_kind hb.sz hi]
    by_cases c : j = i
    · rw [if_pos c, if_pos c]
      subst c
      by_cases d : ageAt bs j = 8388607
      · rw [if_pos d, if_pos d]
        rcases hc with hc | ⟨h2, _⟩
        · exact .inl hc
        · exact .inr ⟨h2, by omega⟩
      · rw [if_neg d, if_neg d]
        rcases hc with hc | ⟨h2, _⟩
        · exact .inl (by omega)
        · exact .inl (by omega)
    · rw [if_neg c, if_neg c]; exact hc
end
end Go.Proofs.Ytnicipemkcofpaa
/- Of handle: Aged: its states. No condition. -/
namespace Go.Proofs.Ytnicipemkcofpaa
set_option linter.unusedVariables false
noncomputable def gnS (off n : Nat) : SV := .s (.c (.f (.slice 0 (.o off) (.o n) .any)))
noncomputable def EA : Env := ⟨Try.prog, fnOf, conH1, haltAt [6003]⟩
noncomputable def hG_d0 : List SIt := sekF Try.f6 3
noncomputable def hG_F (off : Nat) (n : Nat) (cs : Array Value) (ty : TypeId) (mn : Int) (i : Int) (bs : Array Value) (zz : Array Value) : List SFr := [frOf 6 Try.f6 [(0, gnS off n), (2, ptr 1 (.l 0)), (3, ptr 2 (.l 0)), (7, i64 (.o mn)), (8, i64 (.o i))] hG_d0]
noncomputable def hG_M (off : Nat) (n : Nat) (cs : Array Value) (ty : TypeId) (mn : Int) (i : Int) (bs : Array Value) (zz : Array Value) : SMem := mkM 3 [(0, ⟨.raw cs, ty, false⟩), (1, ⟨.op zz, 30, true⟩), (2, ⟨.op bs, 30, true⟩)]
noncomputable def hG_n (off : Nat) (n : Nat) (cs : Array Value) (ty : TypeId) (mn : Int) (Q : Int → Array Value → Array Value → Prop) (fs : List SFr) (m : SMem) : Prop := (match frNth fs 0 with | some f0 => (match rdI f0 8 with | some i => (match rdP f0 2 with | some p1 => (match rdP f0 3 with | some p2 => (match rdA m p2 with | some bs => (match rdA m p1 with | some zz => Q i bs zz ∧ subOk 1 [(1, p1), (2, p2)] (hG_F off n cs ty mn i bs zz) (hG_M off n cs ty mn i bs zz) fs m | none => False) | none => False) | none => False) | none => False) | none => False) | none => False)
noncomputable def rM (cs : Array Value) (ty : TypeId) : SMem := mkM 1 [(0, ⟨.raw cs, ty, false⟩)]
noncomputable def ag0_t (off : Nat) (n : Nat) (cs : Array Value) (ty : TypeId) (mn : Int) : Tree := run EA 1000 1 [callFr 6 Try.f6.ntmps [gnS off n] (Try.f6.body.getD .skip)] (rM cs ty)
noncomputable def ag0_x (off : Nat) (n : Nat) (cs : Array Value) (ty : TypeId) (mn : Int) (QhG : Int → Array Value → Array Value → Prop) (fs : List SFr) (m : SMem) : Prop := hG_n off n cs ty mn QhG fs m
theorem hG_d0_ok (r : Nat → Option Nat) : TodoOk r hG_d0 hG_d0 := TodoOk.it (by kernel_rfl)
theorem hG_good {A : SV → SMem → Prop} {off : Nat} {n : Nat} {cs : Array Value} {ty : TypeId} {mn : Int} {Q : Int → Array Value → Array Value → Prop} {fs : List SFr} {m : SMem} (H : ∀ i bs zz, Q i bs zz → Good Try.prog A 1 (hG_F off n cs ty mn i bs zz) (hG_M off n cs ty mn i bs zz)) (hb : hG_n off n cs ty mn Q fs m) : Good Try.prog A 1 fs m := by
  unfold hG_n at hb
  split at hb
  rotate_left
  · exact hb.elim
  split at hb
  rotate_left
  · exact hb.elim
  split at hb
  rotate_left
  · exact hb.elim
  split at hb
  rotate_left
  · exact hb.elim
  split at hb
  rotate_left
  · exact hb.elim
  split at hb
  rotate_left
  · exact hb.elim
  exact Good.of_sub hb.2 (H _ _ _ hb.1)
theorem ag0_go {A : SV → SMem → Prop} {off : Nat} {n : Nat} {cs : Array Value} {ty : TypeId} {mn : Int} {QhG : Int → Array Value → Array Value → Prop} {fs : List SFr} {m : SMem} (hhG : ∀ i' bs' zz', QhG i' bs' zz' → Good Try.prog A 1 (hG_F off n cs ty mn i' bs' zz') (hG_M off n cs ty mn i' bs' zz')) (hb : ag0_x off n cs ty mn QhG fs m) : Good Try.prog A 1 fs m := by
  unfold ag0_x at hb
  exact hG_good hhG hb
end Go.Proofs.Ytnicipemkcofpaa
/- Of handle: Aged: its states. -/
namespace Go.Proofs.Ytnicipemkcofpaa
set_option maxRecDepth 100000
theorem ag0_vc (off : Nat) (n : Nat) (cs : Array Value) (ty : TypeId) (mn : Int) (QhG : Int → Array Value → Array Value → Prop) : (ag0_t off n cs ty mn).vc ((fun _ _ => False)) (ag0_x off n cs ty mn QhG) =
    (QhG (0 : Int) #[Value.int IntKind.u32 (0 : Int), Value.int IntKind.u8 (0 : Int), Value.int IntKind.u32 (0 : Int), Value.int IntKind.u8 (0 : Int), Value.int IntKind.u32 (0 : Int), Value.int IntKind.u8 (0 : Int), Value.int IntKind.u32 (0 : Int), Value.int IntKind.u8 (0 : Int), Value.int IntKind.u32 (0 : Int), Value.int IntKind.u8 (0 : Int), Value.int IntKind.u32 (0 : Int), Value.int IntKind.u8 (0 : Int), Value.int IntKind.u32 (0 : Int), Value.int IntKind.u8 (0 : Int), Value.int IntKind.u32 (0 : Int), Value.int IntKind.u8 (0 : Int), Value.int IntKind.u32 (0 : Int), Value.int IntKind.u8 (0 : Int), Value.int IntKind.u32 (0 : Int), Value.int IntKind.u8 (0 : Int), Value.int IntKind.u32 (0 : Int), Value.int IntKind.u8 (0 : Int), Value.int IntKind.u32 (0 : Int), Value.int IntKind.u8 (0 : Int), Value.int IntKind.u32 (0 : Int), Value.int IntKind.u8 (0 : Int), Value.int IntKind.u32 (0 : Int), Value.int IntKind.u8 (0 : Int), Value.int IntKind.u32 (0 : Int), Value.int IntKind.u8 (0 : Int), Value.int IntKind.u32 (0 : Int), Value.int IntKind.u8 (0 : Int), Value.int IntKind.u32 (0 : Int), Value.int IntKind.u8 (0 : Int), Value.int IntKind.u32 (0 : Int), Value.int IntKind.u8 (0 : Int), Value.int IntKind.u32 (0 : Int), Value.int IntKind.u8 (0 : Int), Value.int IntKind.u32 (0 : Int), Value.int IntKind.u8 (0 : Int), Value.int IntKind.u32 (0 : Int), Value.int IntKind.u8 (0 : Int), Value.int IntKind.u32 (0 : Int), Value.int IntKind.u8 (0 : Int), Value.int IntKind.u32 (0 : Int), Value.int IntKind.u8 (0 : Int), Value.int IntKind.u32 (0 : Int), Value.int IntKind.u8 (0 : Int), Value.int IntKind.u32 (0 : Int), Value.int IntKind.u8 (0 : Int), Value.int IntKind.u32 (0 : Int), Value.int IntKind.u8 (0 : Int), Value.int IntKind.u32 (0 : Int), Value.int IntKind.u8 (0 : Int), Value.int IntKind.u32 (0 : Int), Value.int IntKind.u8 (0 : Int), Value.int IntKind.u32 (0 : Int), Value.int IntKind.u8 (0 : Int), Value.int IntKind.u32 (0 : Int), Value.int IntKind.u8 (0 : Int), Value.int IntKind.u32 (0 : Int), Value.int IntKind.u8 (0 : Int), Value.int IntKind.u32 (0 : Int), Value.int IntKind.u8 (0 : Int)] #[Value.int IntKind.u32 (0 : Int), Value.int IntKind.u8 (0 : Int), Value.int IntKind.u32 (0 : Int), Value.int IntKind.u8 (0 : Int), Value.int IntKind.u32 (0 : Int), Value.int IntKind.u8 (0 : Int), Value.int IntKind.u32 (0 : Int), Value.int IntKind.u8 (0 : Int), Value.int IntKind.u32 (0 : Int), Value.int IntKind.u8 (0 : Int), Value.int IntKind.u32 (0 : Int), Value.int IntKind.u8 (0 : Int), Value.int IntKind.u32 (0 : Int), Value.int IntKind.u8 (0 : Int), Value.int IntKind.u32 (0 : Int), Value.int IntKind.u8 (0 : Int), Value.int IntKind.u32 (0 : Int), Value.int IntKind.u8 (0 : Int), Value.int IntKind.u32 (0 : Int), Value.int IntKind.u8 (0 : Int), Value.int IntKind.u32 (0 : Int), Value.int IntKind.u8 (0 : Int), Value.int IntKind.u32 (0 : Int), Value.int IntKind.u8 (0 : Int), Value.int IntKind.u32 (0 : Int), Value.int IntKind.u8 (0 : Int), Value.int IntKind.u32 (0 : Int), Value.int IntKind.u8 (0 : Int), Value.int IntKind.u32 (0 : Int), Value.int IntKind.u8 (0 : Int), Value.int IntKind.u32 (0 : Int), Value.int IntKind.u8 (0 : Int), Value.int IntKind.u32 (0 : Int), Value.int IntKind.u8 (0 : Int), Value.int IntKind.u32 (0 : Int), Value.int IntKind.u8 (0 : Int), Value.int IntKind.u32 (0 : Int), Value.int IntKind.u8 (0 : Int), Value.int IntKind.u32 (0 : Int), Value.int IntKind.u8 (0 : Int), Value.int IntKind.u32 (0 : Int), Value.int IntKind.u8 (0 : Int), Value.int IntKind.u32 (0 : Int), Value.int IntKind.u8 (0 : Int), Value.int IntKind.u32 (0 : Int), Value.int IntKind.u8 (0 : Int), Value.int IntKind.u32 (0 : Int), Value.int IntKind.u8 (0 : Int), Value.int IntKind.u32 (0 : Int), Value.int IntKind.u8 (0 : Int), Value.int IntKind.u32 (0 : Int), Value.int IntKind.u8 (0 : Int), Value.int IntKind.u32 (0 : Int), Value.int IntKind.u8 (0 : Int), Value.int IntKind.u32 (0 : Int), Value.int IntKind.u8 (0 : Int), Value.int IntKind.u32 (0 : Int), Value.int IntKind.u8 (0 : Int), Value.int IntKind.u32 (0 : Int), Value.int IntKind.u8 (0 : Int), Value.int IntKind.u32 (0 : Int), Value.int IntKind.u8 (0 : Int), Value.int IntKind.u32 (0 : Int), Value.int IntKind.u8 (0 : Int)] ∧ CallKind.normal = CallKind.normal ∧ TodoOk (ren 1 [(1, 1), (2, 2)]) hG_d0 hG_d0 ∧ off = off ∧ n = n ∧ (mn = if (32 : Int) < (↑n : Int) then (32 : Int) else (↑n : Int)) ∧ (0 : Int) = (0 : Int) ∧ ty = ty ∧ cs = cs ∧ (30 : TypeId) = (30 : Nat) ∧ #[Value.int IntKind.u32 (0 : Int), Value.int IntKind.u8 (0 : Int), Value.int IntKind.u32 (0 : Int), Value.int IntKind.u8 (0 : Int), Value.int IntKind.u32 (0 : Int), Value.int IntKind.u8 (0 : Int), Value.int IntKind.u32 (0 : Int), Value.int IntKind.u8 (0 : Int), Value.int IntKind.u32 (0 : Int), Value.int IntKind.u8 (0 : Int), Value.int IntKind.u32 (0 : Int), Value.int IntKind.u8 (0 : Int), Value.int IntKind.u32 (0 : Int), Value.int IntKind.u8 (0 : Int), Value.int IntKind.u32 (0 : Int), Value.int IntKind.u8 (0 : Int), Value.int IntKind.u32 (0 : Int), Value.int IntKind.u8 (0 : Int), Value.int IntKind.u32 (0 : Int), Value.int IntKind.u8 (0 : Int), Value.int IntKind.u32 (0 : Int), Value.int IntKind.u8 (0 : Int), Value.int IntKind.u32 (0 : Int), Value.int IntKind.u8 (0 : Int), Value.int IntKind.u32 (0 : Int), Value.int IntKind.u8 (0 : Int), Value.int IntKind.u32 (0 : Int), Value.int IntKind.u8 (0 : Int), Value.int IntKind.u32 (0 : Int), Value.int IntKind.u8 (0 : Int), Value.int IntKind.u32 (0 : Int), Value.int IntKind.u8 (0 : Int), Value.int IntKind.u32 (0 : Int), Value.int IntKind.u8 (0 : Int), Value.int IntKind.u32 (0 : Int), Value.int IntKind.u8 (0 : Int), Value.int IntKind.u32 (0 : Int), Value.int IntKind.u8 (0 : Int), Value.int IntKind.u32 (0 : Int), Value.int IntKind.u8 (0 : Int), Value.int IntKind.u32 (0 : Int), Value.int IntKind.u8 (0 : Int), Value.int IntKind.u32 (0 : Int), Value.int IntKind.u8 (0 : Int), Value.int IntKind.u32 (0 : Int), Value.int IntKind.u8 (0 : Int), Value.int IntKind.u32 (0 : Int), Value.int IntKind.u8 (0 : Int), Value.int IntKind.u32 (0 : Int), Value.int IntKind.u8 (0 : Int), Value.int IntKind.u32 (0 : Int), Value.int IntKind.u8 (0 : Int), Value.int IntKind.u32 (0 : Int), Value.int IntKind.u8 (0 : Int), Value.int IntKind.u32 (0 : Int), Value.int IntKind.u8 (0 : Int), Value.int IntKind.u32 (0 : Int), Value.int IntKind.u8 (0 : Int), Value.int IntKind.u32 (0 : Int), Value.int IntKind.u8 (0 : Int), Value.int IntKind.u32 (0 : Int), Value.int IntKind.u8 (0 : Int), Value.int IntKind.u32 (0 : Int), Value.int IntKind.u8 (0 : Int)] = #[Value.int IntKind.u32 (0 : Int), Value.int IntKind.u8 (0 : Int), Value.int IntKind.u32 (0 : Int), Value.int IntKind.u8 (0 : Int), Value.int IntKind.u32 (0 : Int), Value.int IntKind.u8 (0 : Int), Value.int IntKind.u32 (0 : Int), Value.int IntKind.u8 (0 : Int), Value.int IntKind.u32 (0 : Int), Value.int IntKind.u8 (0 : Int), Value.int IntKind.u32 (0 : Int), Value.int IntKind.u8 (0 : Int), Value.int IntKind.u32 (0 : Int), Value.int IntKind.u8 (0 : Int), Value.int IntKind.u32 (0 : Int), Value.int IntKind.u8 (0 : Int), Value.int IntKind.u32 (0 : Int), Value.int IntKind.u8 (0 : Int), Value.int IntKind.u32 (0 : Int), Value.int IntKind.u8 (0 : Int), Value.int IntKind.u32 (0 : Int), Value.int IntKind.u8 (0 : Int), Value.int IntKind.u32 (0 : Int), Value.int IntKind.u8 (0 : Int), Value.int IntKind.u32 (0 : Int), Value.int IntKind.u8 (0 : Int), Value.int IntKind.u32 (0 : Int), Value.int IntKind.u8 (0 : Int), Value.int IntKind.u32 (0 : Int), Value.int IntKind.u8 (0 : Int), Value.int IntKind.u32 (0 : Int), Value.int IntKind.u8 (0 : Int), Value.int IntKind.u32 (0 : Int), Value.int IntKind.u8 (0 : Int), Value.int IntKind.u32 (0 : Int), Value.int IntKind.u8 (0 : Int), Value.int IntKind.u32 (0 : Int), Value.int IntKind.u8 (0 : Int), Value.int IntKind.u32 (0 : Int), Value.int IntKind.u8 (0 : Int), Value.int IntKind.u32 (0 : Int), Value.int IntKind.u8 (0 : Int), Value.int IntKind.u32 (0 : Int), Value.int IntKind.u8 (0 : Int), Value.int IntKind.u32 (0 : Int), Value.int IntKind.u8 (0 : Int), Value.int IntKind.u32 (0 : Int), Value.int IntKind.u8 (0 : Int), Value.int IntKind.u32 (0 : Int), Value.int IntKind.u8 (0 : Int), Value.int IntKind.u32 (0 : Int), Value.int IntKind.u8 (0 : Int), Value.int IntKind.u32 (0 : Int), Value.int IntKind.u8 (0 : Int), Value.int IntKind.u32 (0 : Int), Value.int IntKind.u8 (0 : Int), Value.int IntKind.u32 (0 : Int), Value.int IntKind.u8 (0 : Int), Value.int IntKind.u32 (0 : Int), Value.int IntKind.u8 (0 : Int), Value.int IntKind.u32 (0 : Int), Value.int IntKind.u8 (0 : Int), Value.int IntKind.u32 (0 : Int), Value.int IntKind.u8 (0 : Int)] ∧ (30 : TypeId) = (30 : Nat) ∧ #[Value.int IntKind.u32 (0 : Int), Value.int IntKind.u8 (0 : Int), Value.int IntKind.u32 (0 : Int), Value.int IntKind.u8 (0 : Int), Value.int IntKind.u32 (0 : Int), Value.int IntKind.u8 (0 : Int), Value.int IntKind.u32 (0 : Int), Value.int IntKind.u8 (0 : Int), Value.int IntKind.u32 (0 : Int), Value.int IntKind.u8 (0 : Int), Value.int IntKind.u32 (0 : Int), Value.int IntKind.u8 (0 : Int), Value.int IntKind.u32 (0 : Int), Value.int IntKind.u8 (0 : Int), Value.int IntKind.u32 (0 : Int), Value.int IntKind.u8 (0 : Int), Value.int IntKind.u32 (0 : Int), Value.int IntKind.u8 (0 : Int), Value.int IntKind.u32 (0 : Int), Value.int IntKind.u8 (0 : Int), Value.int IntKind.u32 (0 : Int), Value.int IntKind.u8 (0 : Int), Value.int IntKind.u32 (0 : Int), Value.int IntKind.u8 (0 : Int), Value.int IntKind.u32 (0 : Int), Value.int IntKind.u8 (0 : Int), Value.int IntKind.u32 (0 : Int), Value.int IntKind.u8 (0 : Int), Value.int IntKind.u32 (0 : Int), Value.int IntKind.u8 (0 : Int), Value.int IntKind.u32 (0 : Int), Value.int IntKind.u8 (0 : Int), Value.int IntKind.u32 (0 : Int), Value.int IntKind.u8 (0 : Int), Value.int IntKind.u32 (0 : Int), Value.int IntKind.u8 (0 : Int), Value.int IntKind.u32 (0 : Int), Value.int IntKind.u8 (0 : Int), Value.int IntKind.u32 (0 : Int), Value.int IntKind.u8 (0 : Int), Value.int IntKind.u32 (0 : Int), Value.int IntKind.u8 (0 : Int), Value.int IntKind.u32 (0 : Int), Value.int IntKind.u8 (0 : Int), Value.int IntKind.u32 (0 : Int), Value.int IntKind.u8 (0 : Int), Value.int IntKind.u32 (0 : Int), Value.int IntKind.u8 (0 : Int), Value.int IntKind.u32 (0 : Int), Value.int IntKind.u8 (0 : Int), Value.int IntKind.u32 (0 : Int), Value.int IntKind.u8 (0 : Int), Value.int IntKind.u32 (0 : Int), Value.int IntKind.u8 (0 : Int), Value.int IntKind.u32 (0 : Int), Value.int IntKind.u8 (0 : Int), Value.int IntKind.u32 (0 : Int), Value.int IntKind.u8 (0 : Int), Value.int IntKind.u32 (0 : Int), Value.int IntKind.u8 (0 : Int), Value.int IntKind.u32 (0 : Int), Value.int IntKind.u8 (0 : Int), Value.int IntKind.u32 (0 : Int), Value.int IntKind.u8 (0 : Int)] = #[Value.int IntKind.u32 (0 : Int), Value.int IntKind.u8 (0 : Int), Value.int IntKind.u32 (0 : Int), Value.int IntKind.u8 (0 : Int), Value.int IntKind.u32 (0 : Int), Value.int IntKind.u8 (0 : Int), Value.int IntKind.u32 (0 : Int), Value.int IntKind.u8 (0 : Int), Value.int IntKind.u32 (0 : Int), Value.int IntKind.u8 (0 : Int), Value.int IntKind.u32 (0 : Int), Value.int IntKind.u8 (0 : Int), Value.int IntKind.u32 (0 : Int), Value.int IntKind.u8 (0 : Int), Value.int IntKind.u32 (0 : Int), Value.int IntKind.u8 (0 : Int), Value.int IntKind.u32 (0 : Int), Value.int IntKind.u8 (0 : Int), Value.int IntKind.u32 (0 : Int), Value.int IntKind.u8 (0 : Int), Value.int IntKind.u32 (0 : Int), Value.int IntKind.u8 (0 : Int), Value.int IntKind.u32 (0 : Int), Value.int IntKind.u8 (0 : Int), Value.int IntKind.u32 (0 : Int), Value.int IntKind.u8 (0 : Int), Value.int IntKind.u32 (0 : Int), Value.int IntKind.u8 (0 : Int), Value.int IntKind.u32 (0 : Int), Value.int IntKind.u8 (0 : Int), Value.int IntKind.u32 (0 : Int), Value.int IntKind.u8 (0 : Int), Value.int IntKind.u32 (0 : Int), Value.int IntKind.u8 (0 : Int), Value.int IntKind.u32 (0 : Int), Value.int IntKind.u8 (0 : Int), Value.int IntKind.u32 (0 : Int), Value.int IntKind.u8 (0 : Int), Value.int IntKind.u32 (0 : Int), Value.int IntKind.u8 (0 : Int), Value.int IntKind.u32 (0 : Int), Value.int IntKind.u8 (0 : Int), Value.int IntKind.u32 (0 : Int), Value.int IntKind.u8 (0 : Int), Value.int IntKind.u32 (0 : Int), Value.int IntKind.u8 (0 : Int), Value.int IntKind.u32 (0 : Int), Value.int IntKind.u8 (0 : Int), Value.int IntKind.u32 (0 : Int), Value.int IntKind.u8 (0 : Int), Value.int IntKind.u32 (0 : Int), Value.int IntKind.u8 (0 : Int), Value.int IntKind.u32 (0 : Int), Value.int IntKind.u8 (0 : Int), Value.int IntKind.u32 (0 : Int), Value.int IntKind.u8 (0 : Int), Value.int IntKind.u32 (0 : Int), Value.int IntKind.u8 (0 : Int), Value.int IntKind.u32 (0 : Int), Value.int IntKind.u8 (0 : Int), Value.int IntKind.u32 (0 : Int), Value.int IntKind.u8 (0 : Int), Value.int IntKind.u32 (0 : Int), Value.int IntKind.u8 (0 : Int)] ∧ True) := by kernel_rfl
theorem ag1 (off n : Nat) (cs : Array Value) (ty : TypeId) (mn i : Int) (bs zz o : Array Value) (Q : Int → Array Value → Array Value → Prop) : (stepT EA.go (run EA 1000) 1 (hG_F off n cs ty mn i bs zz) (hG_M off n cs ty mn i bs zz)).vc (retOk 1 [] (bkS o) (rM cs ty)) (hG_n off n cs ty mn Q) =
    ((decide (i < mn) = true → (((0 : Int) ≤ i ∧ i < (↑n : Int)) ∧ True) ∧ (IsInt IntKind.u32 cs (off + Int.toNat i * 1) ∧ True) ∧ (((0 : Int) ≤ i ∧ i < (32 : Int)) ∧ True) ∧ ((0 : Nat) + Int.toNat i * 2 < Array.size bs ∧ True) ∧ Q (ari BinOp.add IntKind.i64 i (1 : Int)) (Array.setIfInBounds bs ((0 : Nat) + Int.toNat i * 2) (Value.int IntKind.u32 (if (8388607 : Int) < intAt cs (off + Int.toNat i * 1) then (8388607 : Int) else intAt cs (off + Int.toNat i * 1)))) zz ∧ CallKind.normal = CallKind.normal ∧ TodoOk (ren 1 [(1, 1), (2, 2)]) hG_d0 hG_d0 ∧ off = off ∧ n = n ∧ mn = mn ∧ ari BinOp.add IntKind.i64 i (1 : Int) = ari BinOp.add IntKind.i64 i (1 : Int) ∧ ty = ty ∧ cs = cs ∧ (30 : TypeId) = (30 : TypeId) ∧ zz = zz ∧ (30 : TypeId) = (30 : TypeId) ∧ Array.setIfInBounds bs ((0 : Nat) + Int.toNat i * 2) (Value.int IntKind.u32 (if (8388607 : Int) < intAt cs (off + Int.toNat i * 1) then (8388607 : Int) else intAt cs (off + Int.toNat i * 1))) = Array.setIfInBounds bs ((0 : Nat) + Int.toNat i * 2) (Value.int IntKind.u32 (if (8388607 : Int) < intAt cs (off + Int.toNat i * 1) then (8388607 : Int) else intAt cs (off + Int.toNat i * 1))) ∧ True) ∧ (decide (i < mn) = false → (Array.size bs = (64 : Nat) ∧ True) ∧ (Array.size bs = (64 : Nat) ∧ Array.size bs = Array.size zz ∧ True) ∧ (Array.size bs = (64 : Nat) ∧ True) ∧ o = bs ∧ ty = ty ∧ cs = cs ∧ True)) := by kernel_rfl
theorem agN (o : Array Value) : (run E0 1000 0 [callFr 6 Try.f6.ntmps [.s (.c (.f .e0))] (Try.f6.body.getD .skip)] e0M).vc (retOk 0 [] (bkS o) e0M) (fun _ _ => False) =
    (o = #[Value.int IntKind.u32 (0 : Int), Value.int IntKind.u8 (0 : Int), Value.int IntKind.u32 (0 : Int), Value.int IntKind.u8 (0 : Int), Value.int IntKind.u32 (0 : Int), Value.int IntKind.u8 (0 : Int), Value.int IntKind.u32 (0 : Int), Value.int IntKind.u8 (0 : Int), Value.int IntKind.u32 (0 : Int), Value.int IntKind.u8 (0 : Int), Value.int IntKind.u32 (0 : Int), Value.int IntKind.u8 (0 : Int), Value.int IntKind.u32 (0 : Int), Value.int IntKind.u8 (0 : Int), Value.int IntKind.u32 (0 : Int), Value.int IntKind.u8 (0 : Int), Value.int IntKind.u32 (0 : Int), Value.int IntKind.u8 (0 : Int), Value.int IntKind.u32 (0 : Int), Value.int IntKind.u8 (0 : Int), Value.int IntKind.u32 (0 : Int), Value.int IntKind.u8 (0 : Int), Value.int IntKind.u32 (0 : Int), Value.int IntKind.u8 (0 : Int), Value.int IntKind.u32 (0 : Int), Value.int IntKind.u8 (0 : Int), Value.int IntKind.u32 (0 : Int), Value.int IntKind.u8 (0 : Int), Value.int IntKind.u32 (0 : Int), Value.int IntKind.u8 (0 : Int), Value.int IntKind.u32 (0 : Int), Value.int IntKind.u8 (0 : Int), Value.int IntKind.u32 (0 : Int), Value.int IntKind.u8 (0 : Int), Value.int IntKind.u32 (0 : Int), Value.int IntKind.u8 (0 : Int), Value.int IntKind.u32 (0 : Int), Value.int IntKind.u8 (0 : Int), Value.int IntKind.u32 (0 : Int), Value.int IntKind.u8 (0 : Int), Value.int IntKind.u32 (0 : Int), Value.int IntKind.u8 (0 : Int), Value.int IntKind.u32 (0 : Int), Value.int IntKind.u8 (0 : Int), Value.int IntKind.u32 (0 : Int), Value.int IntKind.u8 (0 : Int), Value.int IntKind.u32 (0 : Int), Value.int IntKind.u8 (0 : Int), Value.int IntKind.u32 (0 : Int), Value.int IntKind.u8 (0 : Int), Value.int IntKind.u32 (0 : Int), Value.int IntKind.u8 (0 : Int), Value.int IntKind.u32 (0 : Int), Value.int IntKind.u8 (0 : Int), Value.int IntKind.u32 (0 : Int), Value.int IntKind.u8 (0 : Int), Value.int IntKind.u32 (0 : Int), Value.int IntKind.u8 (0 : Int), Value.int IntKind.u32 (0 : Int), Value.int IntKind.u8 (0 : Int), Value.int IntKind.u32 (0 : Int), Value.int IntKind.u8 (0 : Int), Value.int IntKind.u32 (0 : Int), Value.int IntKind.u8 (0 : Int)] ∧ True) := by kernel_rfl
end Go.Proofs.Ytnicipemkcofpaa
/- Of handle: the contract of Aged. No condition. -/
namespace Go.Proofs.Ytnicipemkcofpaa
set_option maxRecDepth 100000
set_option linter.unusedSimpArgs false
set_option linter.unusedVariables false
/-! What only reads a block. -/
theorem Con.ro {E : Env} (hE : EnvOk E) {g : FuncId} {fn : Func} {c : Code} {l l' : List SV} {m ms : SMem} {q : List Prop} {s0 : SV} {A : SV → SMem → Prop} (h1 : E.fn g = some fn) (h2 : fn.body = some c) (hxs : ms.xs = []) (ι : Nat → Nat)
    (hm : ∀ i b, getB ms.bl i = some b → i < ms.next ∧ b.wr = false ∧ ∃ d, getB m.bl (ι i) = some d ∧ b.ty = d.ty ∧ ∀ R cs, d.arr.okM R cs → b.arr.okM (pull ι ms.next R) cs)
    (hl : ∀ R vs, All2 (SV.ok R) l vs → All2 (SV.ok (pull ι ms.next R)) l' vs) (good : (∀ p ∈ q, p) → Good E.P A ms.next [callFr g fn.ntmps l' c] ms)
    (hs : ∀ s m' R R' v, A s m' → s.ok R' v → s0.ok R v) : Con E g l m (needs q (.ret s0 m)) := by
  intro B hB
  obtain ⟨hq, hA⟩ := Tree.sat_needs hB
  refine ⟨fn, h1, by rw [h2]; rfl, fun n0 F w0 w R args ha hR => ?_⟩
  refine (frame_ro (hE.fns _ _ h1).1 h2 (good hq) hxs hm (hl R _ ha) hR).mono ?_
  rintro v w' ⟨k1, k2, s, m', R', k3, k4⟩
  exact ⟨s0, m, R, hA, ⟨fun _ _ h => h, fun _ _ h => .inl h, k2, Nat.le_refl _⟩, k1, hs _ _ _ _ _ k3 k4⟩
def bkL : Nat → List Value
  | 0 => []
  | n + 1 => .int .u32 0 :: .int .u8 0 :: bkL n
noncomputable def bkZ : Array Value := (bkL 32).toArray
theorem bkL_at : ∀ (n i : Nat), i < n → (bkL n)[i * 2]? = some (.int .u32 0) ∧ (bkL n)[i * 2 + 1]? = some (.int .u8 0)
  | n + 1, 0, _ => ⟨rfl, rfl⟩
  | n + 1, i + 1, h => by
    have := bkL_at n i (by omega)
    rw [show (i + 1) * 2 = i * 2 + 1 + 1 by omega]
    exact this
  | 0, _, h => by omega
def minL (x : Int) : Int := if 8388607 < x then 8388607 else x
/-- A book of generations: after so many of them. -/
noncomputable def agB (cs : Array Value) (off : Nat) : Nat → Array Value
  | 0 => bkZ
  | i + 1 => (agB cs off i).setIfInBounds (i * 2) (.int .u32 (minL (intAt cs (off + i))))
def min32 (n : Nat) : Nat := if 32 < n then 32 else n
noncomputable def agedB (cs : Array Value) (off n : Nat) : Array Value := agB cs off (min32 n)
/-- Generations, as they come in. -/
def GensOk (cs : Array Value) (off n : Nat) : Prop := ∀ i, i < n → IsInt .u32 cs (off + i) ∧ 0 ≤ intAt cs (off + i)
section
variable {cs : Array Value} {off n : Nat} {ty : TypeId}
theorem bkZ_kind (i : Nat) (hi : i < 32) : bkZ[i * 2]? = some (.int .u32 0) ∧ bkZ[i * 2 + 1]? = some (.int .u8 0) := by
  unfold bkZ
  rw [List.getElem?_toArray, List.getElem?_toArray]
  exact bkL_at 32 i hi
theorem bkZ_size : bkZ.size = 64 := by kernel_rfl
theorem agB_size : ∀ i, (agB cs off i).size = 64
  | 0 => bkZ_size
  | i + 1 => by unfold agB; rw [set_size]; exact agB_size i
theorem agB_kind : ∀ (i j : Nat), j < 32 → (agB cs off i)[j * 2 + 1]? = some (.int .u8 0)
  | 0, j, h => (bkZ_kind j h).2
  | i + 1, j, h => by unfold agB; rw [set_out (by omega)]; exact agB_kind i j h
theorem agB_age (hg : GensOk cs off n) : ∀ (i j : Nat), i ≤ n → i ≤ 32 → j < 32 → ∃ a, (agB cs off i)[j * 2]? = some (.int .u32 a) ∧ 0 ≤ a ∧ a ≤ 8388607
  | 0, j, _, _, h => ⟨0, (bkZ_kind j h).1, by omega, by omega⟩
  | i + 1, j, h1, h2, h => by
    unfold agB
    by_cases e : j = i
    · rw [e, set_in (by rw [agB_size]; omega)]
      refine ⟨_, rfl, ?_⟩
      have := (hg i (by omega)).2
      unfold minL
      split <;> omega
    · rw [set_out (by omega)]
      exact agB_age hg i j (by omega) (by omega) h
theorem aged_bk (hg : GensOk cs off n) {i : Nat} (h1 : i ≤ n) (h2 : i ≤ 32) : BkOk (agB cs off i) := by
  refine ⟨agB_size i, fun j hj => ?_, fun j hj => isI_of (agB_kind i j hj), fun j hj => ?_, fun j hj => ?_⟩
  · obtain ⟨a, e, _⟩ := agB_age hg i j h1 h2 hj
    exact isI_of e
  · obtain ⟨a, e, k⟩ := agB_age hg i j h1 h2 hj
    show 0 ≤ intAt _ _ ∧ intAt _ _ ≤ _
    rw [intAt_of e]; exact k
  · show 0 ≤ intAt _ _ ∧ intAt _ _ ≤ _
    rw [intAt_of (agB_kind i j hj)]; omega
theorem aged_kind (i j : Nat) (hj : j < 32) : kindAt (agB cs off i) j = 0 := intAt_of (agB_kind i j hj)
theorem min32_le : min32 n ≤ n ∧ min32 n ≤ 32 := by unfold min32; split <;> omega
theorem EA_ok : EnvOk EA := EnvOk.with E0_ok _ _ conH1_ok
theorem hG_ok (hg : GensOk cs off n) {zz : Array Value} (hz : zz.size = 64) : ∀ (k i : Nat), i + k = min32 n → Good Try.prog (retOk 1 [] (bkS (agedB cs off n)) (rM cs ty)) 1 (hG_F off n cs ty (min32 n : Nat) (i : Int) (agB cs off i) zz) (hG_M off n cs ty (min32 n : Nat) (i : Int) (agB cs off i) zz) := by
  obtain ⟨m1, m2⟩ := min32_le (n := n)
  intro k
  induction k with
  | zero =>
    intro i hi
    refine past_vc EA_ok 1000 (ag1 off n cs ty (min32 n : Nat) (i : Int) (agB cs off i) zz (agedB cs off n) (fun _ _ _ => False)) ?_ (fun _ _ h => h) (fun fs m hb => hG_good (fun _ _ _ h => h.elim) hb)
    have d : decide ((i : Int) < (min32 n : Nat)) = false := decide_eq_false (by omega)
    have e : agedB cs off n = agB cs off i := by unfold agedB; rw [show min32 n = i by omega]
    simp only [d, e, hz, agB_size, true_implies, Bool.true_eq_false, Bool.false_eq_true, false_implies, and_true, true_and]
  | succ k ih =>
    intro i hi
    refine past_vc EA_ok 1000 (ag1 off n cs ty (min32 n : Nat) (i : Int) (agB cs off i) zz (agedB cs off n) (fun i' b' z' => i' = ((i + 1 : Nat) : Int) ∧ b' = agB cs off (i + 1) ∧ z' = zz)) ?_ (fun _ _ h => h)
      (fun fs m hb => hG_good (fun i' b' z' ⟨e1, e2, e3⟩ => by rw [e1, e2, e3]; exact ih (i + 1) (by omega)) hb)
    have d : decide ((i : Int) < (min32 n : Nat)) = true := decide_eq_true (by omega)
    have ei : ari .add .i64 (i : Int) 1 = ((i + 1 : Nat) : Int) := by rw [ari_add, i64_in' (by omega) (by omega)]; omega
    simp only [d, ei, agB_size, Nat.zero_add, Nat.mul_one, Int.toNat_natCast, true_implies, Bool.true_eq_false, Bool.false_eq_true, false_implies, and_true, true_and, hG_d0_ok]
    exact ⟨by omega, (hg i (by omega)).1, by omega, by omega, rfl⟩
theorem fnA : E0.fn 6 = some Try.f6 := by kernel_rfl
theorem bodyA : Try.f6.body = some (Try.f6.body.getD .skip) := by kernel_rfl
theorem aged_good (hg : GensOk cs off n) : Good Try.prog (fun s m => s = bkS (agedB cs off n) ∧ m = rM cs ty) 1 [callFr 6 Try.f6.ntmps [gnS off n] (Try.f6.body.getD .skip)] (rM cs ty) := by
  refine Good.ret [] (run_vc EA_ok 1000 (ag0_vc off n cs ty (min32 n : Nat) (fun i b z => i = ((0 : Nat) : Int) ∧ b = agB cs off 0 ∧ z.size = 64)) ?_ (fun s m h => h.elim) fun fs m h => ag0_go (fun i b z ⟨e1, e2, e3⟩ => by rw [e1, e2]; exact hG_ok hg e3 (min32 n) 0 (by omega)) h)
  have eL : bkZ = #[.int .u32 0, .int .u8 0, .int .u32 0, .int .u8 0, .int .u32 0, .int .u8 0, .int .u32 0, .int .u8 0, .int .u32 0, .int .u8 0, .int .u32 0, .int .u8 0, .int .u32 0, .int .u8 0, .int .u32 0, .int .u8 0, .int .u32 0, .int .u8 0, .int .u32 0, .int .u8 0, .int .u32 0, .int .u8 0, .int .u32 0, .int .u8 0, .int .u32 0, .int .u8 0, .int .u32 0, .int .u8 0, .int .u32 0, .int .u8 0, .int .u32 0, .int .u8 0, .int .u32 0, .int .u8 0, .int .u32 0, .int .u8 0, .int .u32 0, .int .u8 0, .int .u32 0, .int .u8 0, .int .u32 0, .int .u8 0, .int .u32 0, .int .u8 0, .int .u32 0, .int .u8 0, .int .u32 0, .int .u8 0, .int .u32 0, .int .u8 0, .int .u32 0, .int .u8 0, .int .u32 0, .int .u8 0, .int .u32 0, .int .u8 0, .int .u32 0, .int .u8 0, .int .u32 0, .int .u8 0, .int .u32 0, .int .u8 0, .int .u32 0, .int .u8 0] := by kernel_rfl
  have e : ((min32 n : Nat) : Int) = if (32 : Int) < (n : Int) then 32 else (n : Int) := by unfold min32; split <;> split <;> omega
  have ez : agB cs off 0 = bkZ := rfl
  simp only [← e, ez, eL, and_true, true_and, hG_d0_ok]
  exact ⟨rfl, rfl⟩
theorem aged_con {m : SMem} {i : Nat} {o k : SN} {cap : SK} {wr : Bool} (hb : getB m.bl i = some ⟨.raw cs, ty, wr⟩) : Con E0 6 [.s (.c (.f (.slice i o k cap)))] m (needs [GensOk cs o.den k.den] (.ret (bkS (agedB cs o.den k.den)) m)) := by
  refine Con.ro E0_ok (l' := [gnS o.den k.den]) (ms := rM cs ty) (A := fun s m => s = bkS (agedB cs o.den k.den) ∧ m = rM cs ty) fnA bodyA rfl (fun _ => i) ?_ ?_ (fun hq => aged_good (hq _ (List.mem_cons_self ..))) ?_
  · intro j b hj
    cases j with
    | zero => cases hj; exact ⟨Nat.zero_lt_one, rfl, _, hb, rfl, fun R cs' h => h⟩
    | succ j =>
      have hj : (Tr.node .nil (some ⟨.raw cs, ty, false⟩) .nil : Tr SBlk).get (j + 1) = some b := hj
      rw [Tr.get_succ, Tr.get_nil, ite_self] at hj
      cases hj
  · intro R vs ha
    match vs, ha with
    | [x], ha =>
      obtain ⟨⟨gl, cp, e1, e2, e3, e4⟩, _⟩ := ha
      exact ⟨⟨gl, cp, by unfold pull; exact e1, e2, trivial, e4⟩, trivial⟩
  · rintro s m' R R' v ⟨rfl, _⟩ hv
    exact hv
theorem aged_none (m : SMem) : Con E0 6 [.s (.c (.f .e0))] m (needs [] (.ret (bkS bkZ) m)) := by
  refine Con.pure E0_ok fnA bodyA (by kernel_rfl) (by kernel_rfl) fun hq => ?_
  refine (Good.ret [] (run_vc E0_ok 1000 ((show _ from agN bkZ)) ?_ (fun s m h => h) fun _ _ h => h.elim)).mono fun _ _ h => h.1
  simp only [and_true, true_and]
  kernel_rfl
end
end Go.Proofs.Ytnicipemkcofpaa
/- Of handle: the closed test. No condition. -/
namespace Go.Proofs.Ytnicipemkcofpaa
set_option maxRecDepth 1000000 in
theorem wakes_fast : (runC E0 200000 0 [callFr 5 Try.f5.ntmps [] (Try.f5.body.getD .skip)] ⟨0, .nil, []⟩).allTrue = true := by kernel_rfl
theorem wakes_true : (run E0 200000 0 [callFr 5 Try.f5.ntmps [] (Try.f5.body.getD .skip)] ⟨0, .nil, []⟩).allTrue = true := by
  rw [← runC_eq]
  exact wakes_fast
theorem wakes_fn : E0.fn 5 = some Try.f5 := by kernel_rfl
theorem wakes_body : Try.f5.body = some (Try.f5.body.getD .skip) := by kernel_rfl
theorem wakes_con (m : SMem) : Con E0 5 [] m (needs [] (.ret (sB (.l true)) m)) :=
  Con.pure E0_ok wakes_fn wakes_body (by kernel_rfl) (by kernel_rfl) fun _ => good_true E0_ok wakes_true
end Go.Proofs.Ytnicipemkcofpaa
/- Of handle: HandleOnce: the law's states. No condition. -/
namespace Go.Proofs.Ytnicipemkcofpaa
set_option linter.unusedVariables false
noncomputable def acS (off n : Nat) : SV := .s (.c (.f (.slice 0 (.o off) (.o n) .any)))
noncomputable def gn1 (off n : Nat) : SV := .s (.c (.f (.slice 1 (.o off) (.o n) .any)))
noncomputable def eS : SV := .s (.c (.f .e0))
noncomputable def conV (g : FuncId) (l : List SV) (m : SMem) : Option Tree := match g, l with
  | 5, [] => some (.ret (sB (.l true)) m)
  | 15, [.s (.agg (.op bs)), .s (.c (.f (.int .u32 h)))] => some (.need [BkOk bs, inH h.den] (.ret (sB (.o (goodB bs h.den))) m))
  | 17, [.s (.agg (.op bs)), .s (.c (.f (.int .i64 i)))] => some (.need [BkOk bs] (.ret (hbT (atI bs i.den) (atOk bs i.den)) m))
  | 9, [.s (.agg (.op bs)), .s (.c (.f (.int .u32 h)))] => some (.need [BkOk bs, inH h.den] (.ret (bbT (voidB bs h.den) (goodB bs h.den)) m))
  | 11, [.s (.agg (.op bs))] => some (.need [BkOk bs] (.ret (bhbT (issueB bs) (issueI bs) (issueOk bs)) m))
  | 18, [.s (.agg (.op bs))] => some (.need [BkOk bs] (rowT (issued bs) 41 m))
  | 6, [.s (.c (.f .e0))] => some (.ret (bkS bkZ) m)
  | 6, [.s (.c (.f (.slice i o k _)))] => (match getB m.bl i with | some ⟨.raw cs, _, _⟩ => some (.need [GensOk cs o.den k.den] (.ret (bkS (agedB cs o.den k.den)) m)) | _ => none)
  | _, _ => none
noncomputable def EV : Env := ⟨Try.prog, fnOf, conV, fun d f x => haltAt [4007, 4018, 4020, 4025, 4031, 4033] d f x || itHalt x⟩
noncomputable def EW : Env := ⟨Try.prog, fnOf, conV, fun d f x => haltAt [4033] d f x || itHalt x⟩
noncomputable def hA_d0 : List SIt := sekF Try.f4 7
noncomputable def hA_F (off : Nat) (n : Nat) (cs : Array Value) (ty : TypeId) (i : Int) (bs : Array Value) (is : List (Int × Int)) (gs : List (Int × Int)) : List SFr := [frOf 4 Try.f4 [(1, acS off n), (5, ptr 2 (.l 0)), (6, mpS 3), (7, mpS 4), (8, i64 (.o i))] hA_d0]
noncomputable def hA_M (off : Nat) (n : Nat) (cs : Array Value) (ty : TypeId) (i : Int) (bs : Array Value) (is : List (Int × Int)) (gs : List (Int × Int)) : SMem := mkMX 5 [(0, ⟨.raw cs, ty, false⟩), (2, ⟨.op bs, 30, true⟩)] [(3, .mapI true .u32 .b is), (4, .mapI true .u32 .b gs)]
noncomputable def hA_n (off : Nat) (n : Nat) (cs : Array Value) (ty : TypeId) (Q : Int → Array Value → List (Int × Int) → List (Int × Int) → Prop) (fs : List SFr) (m : SMem) : Prop := (match frNth fs 0 with | some f0 => (match rdI f0 8 with | some i => (match rdP f0 5 with | some p2 => (match rdMp f0 6 with | some p3 => (match rdMp f0 7 with | some p4 => (match rdA m p2 with | some bs => (match rdMI m p3 with | some is => (match rdMI m p4 with | some gs => Q i bs is gs ∧ subOk 2 [(2, p2), (3, p3), (4, p4)] (hA_F off n cs ty i bs is gs) (hA_M off n cs ty i bs is gs) fs m | none => False) | none => False) | none => False) | none => False) | none => False) | none => False) | none => False) | none => False)
noncomputable def hD_d0 : List SIt := sekF Try.f4 18
noncomputable def hD_F (off : Nat) (n : Nat) (cs : Array Value) (ty : TypeId) (i : Int) (h : Int) (z : Bool) (bs : Array Value) (is : List (Int × Int)) (gs : List (Int × Int)) : List SFr := [frOf 4 Try.f4 [(1, acS off n), (5, ptr 2 (.l 0)), (6, mpS 3), (7, mpS 4), (8, i64 (.o i)), (12, .s (.c (.f (.int .u32 (.o h))))), (13, sB (.o z))] hD_d0]
noncomputable def hD_M (off : Nat) (n : Nat) (cs : Array Value) (ty : TypeId) (i : Int) (h : Int) (z : Bool) (bs : Array Value) (is : List (Int × Int)) (gs : List (Int × Int)) : SMem := mkMX 5 [(0, ⟨.raw cs, ty, false⟩), (2, ⟨.op bs, 30, true⟩)] [(3, .mapI true .u32 .b is), (4, .mapI true .u32 .b gs)]
noncomputable def hD_n (off : Nat) (n : Nat) (cs : Array Value) (ty : TypeId) (Q : Int → Int → Bool → Array Value → List (Int × Int) → List (Int × Int) → Prop) (fs : List SFr) (m : SMem) : Prop := (match frNth fs 0 with | some f0 => (match rdI f0 8 with | some i => (match rdI f0 12 with | some h => (match rdBo f0 13 with | some z => (match rdP f0 5 with | some p2 => (match rdMp f0 6 with | some p3 => (match rdMp f0 7 with | some p4 => (match rdA m p2 with | some bs => (match rdMI m p3 with | some is => (match rdMI m p4 with | some gs => Q i h z bs is gs ∧ subOk 2 [(2, p2), (3, p3), (4, p4)] (hD_F off n cs ty i h z bs is gs) (hD_M off n cs ty i h z bs is gs) fs m | none => False) | none => False) | none => False) | none => False) | none => False) | none => False) | none => False) | none => False) | none => False) | none => False)
noncomputable def hE_d0 : List SIt := sekF Try.f4 20
noncomputable def hE_F (off : Nat) (n : Nat) (cs : Array Value) (ty : TypeId) (i : Int) (h : Int) (z : Bool) (bs : Array Value) (is : List (Int × Int)) (gs : List (Int × Int)) : List SFr := [frOf 4 Try.f4 [(1, acS off n), (5, ptr 2 (.l 0)), (6, mpS 3), (7, mpS 4), (8, i64 (.o i)), (12, .s (.c (.f (.int .u32 (.o h))))), (13, sB (.o z))] hE_d0]
noncomputable def hE_M (off : Nat) (n : Nat) (cs : Array Value) (ty : TypeId) (i : Int) (h : Int) (z : Bool) (bs : Array Value) (is : List (Int × Int)) (gs : List (Int × Int)) : SMem := mkMX 5 [(0, ⟨.raw cs, ty, false⟩), (2, ⟨.op bs, 30, true⟩)] [(3, .mapI true .u32 .b is), (4, .mapI true .u32 .b gs)]
noncomputable def hE_n (off : Nat) (n : Nat) (cs : Array Value) (ty : TypeId) (Q : Int → Int → Bool → Array Value → List (Int × Int) → List (Int × Int) → Prop) (fs : List SFr) (m : SMem) : Prop := (match frNth fs 0 with | some f0 => (match rdI f0 8 with | some i => (match rdI f0 12 with | some h => (match rdBo f0 13 with | some z => (match rdP f0 5 with | some p2 => (match rdMp f0 6 with | some p3 => (match rdMp f0 7 with | some p4 => (match rdA m p2 with | some bs => (match rdMI m p3 with | some is => (match rdMI m p4 with | some gs => Q i h z bs is gs ∧ subOk 2 [(2, p2), (3, p3), (4, p4)] (hE_F off n cs ty i h z bs is gs) (hE_M off n cs ty i h z bs is gs) fs m | none => False) | none => False) | none => False) | none => False) | none => False) | none => False) | none => False) | none => False) | none => False) | none => False)
noncomputable def hC_d0 : List SIt := sekF Try.f4 25
noncomputable def hC_F (off : Nat) (n : Nat) (cs : Array Value) (ty : TypeId) (i : Int) (bs : Array Value) (is : List (Int × Int)) (gs : List (Int × Int)) : List SFr := [frOf 4 Try.f4 [(1, acS off n), (5, ptr 2 (.l 0)), (6, mpS 3), (7, mpS 4), (8, i64 (.o i))] hC_d0]
noncomputable def hC_M (off : Nat) (n : Nat) (cs : Array Value) (ty : TypeId) (i : Int) (bs : Array Value) (is : List (Int × Int)) (gs : List (Int × Int)) : SMem := mkMX 5 [(0, ⟨.raw cs, ty, false⟩), (2, ⟨.op bs, 30, true⟩)] [(3, .mapI true .u32 .b is), (4, .mapI true .u32 .b gs)]
noncomputable def hC_n (off : Nat) (n : Nat) (cs : Array Value) (ty : TypeId) (Q : Int → Array Value → List (Int × Int) → List (Int × Int) → Prop) (fs : List SFr) (m : SMem) : Prop := (match frNth fs 0 with | some f0 => (match rdI f0 8 with | some i => (match rdP f0 5 with | some p2 => (match rdMp f0 6 with | some p3 => (match rdMp f0 7 with | some p4 => (match rdA m p2 with | some bs => (match rdMI m p3 with | some is => (match rdMI m p4 with | some gs => Q i bs is gs ∧ subOk 2 [(2, p2), (3, p3), (4, p4)] (hC_F off n cs ty i bs is gs) (hC_M off n cs ty i bs is gs) fs m | none => False) | none => False) | none => False) | none => False) | none => False) | none => False) | none => False) | none => False)
noncomputable def hB_d0 : List SIt := sekF Try.f4 31
noncomputable def hB_F (off : Nat) (n : Nat) (cs : Array Value) (ty : TypeId) (j : Int) (i : Int) (k : Nat) (rs : Array Value) (bs : Array Value) (is : List (Int × Int)) (gs : List (Int × Int)) : List SFr := [frOf 4 Try.f4 [(1, acS off n), (5, ptr 2 (.l 0)), (6, mpS 3), (7, mpS 4), (8, i64 (.o i)), (16, .s (.c (.f (.slice 5 (.l 0) (.o k) (.full 1))))), (17, i64 (.o j))] hB_d0]
noncomputable def hB_M (off : Nat) (n : Nat) (cs : Array Value) (ty : TypeId) (j : Int) (i : Int) (k : Nat) (rs : Array Value) (bs : Array Value) (is : List (Int × Int)) (gs : List (Int × Int)) : SMem := mkMX 6 [(0, ⟨.raw cs, ty, false⟩), (2, ⟨.op bs, 30, true⟩), (5, ⟨.pop rs, 41, true⟩)] [(3, .mapI true .u32 .b is), (4, .mapI true .u32 .b gs)]
noncomputable def hB_n (off : Nat) (n : Nat) (cs : Array Value) (ty : TypeId) (Q : Int → Int → Nat → Array Value → Array Value → List (Int × Int) → List (Int × Int) → Prop) (fs : List SFr) (m : SMem) : Prop := (match frNth fs 0 with | some f0 => (match rdI f0 8 with | some i => (match rdI f0 17 with | some j => (match rdSI f0 16 with | some p5 => (match rdSN f0 16 with | some k => (match rdA m p5 with | some rs => (match rdP f0 5 with | some p2 => (match rdMp f0 6 with | some p3 => (match rdMp f0 7 with | some p4 => (match rdA m p2 with | some bs => (match rdMI m p3 with | some is => (match rdMI m p4 with | some gs => Q j i k rs bs is gs ∧ subOk 2 [(2, p2), (3, p3), (4, p4), (5, p5)] (hB_F off n cs ty j i k rs bs is gs) (hB_M off n cs ty j i k rs bs is gs) fs m | none => False) | none => False) | none => False) | none => False) | none => False) | none => False) | none => False) | none => False) | none => False) | none => False) | none => False) | none => False)
noncomputable def hX_d0 : List SIt := sekF Try.f4 33
noncomputable def hX_F (bs : Array Value) (is : List (Int × Int)) (gs : List (Int × Int)) : List SFr := [frOf 4 Try.f4 [(5, ptr 2 (.l 0)), (6, mpS 3), (7, mpS 4)] hX_d0]
noncomputable def hX_M (bs : Array Value) (is : List (Int × Int)) (gs : List (Int × Int)) : SMem := mkMX 5 [(2, ⟨.op bs, 30, true⟩)] [(3, .mapI true .u32 .b is), (4, .mapI true .u32 .b gs)]
noncomputable def hX_n  (Q : Array Value → List (Int × Int) → List (Int × Int) → Prop) (fs : List SFr) (m : SMem) : Prop := (match frNth fs 0 with | some f0 => (match rdP f0 5 with | some p2 => (match rdMp f0 6 with | some p3 => (match rdMp f0 7 with | some p4 => (match rdA m p2 with | some bs => (match rdMI m p3 with | some is => (match rdMI m p4 with | some gs => Q bs is gs ∧ subOk 2 [(2, p2), (3, p3), (4, p4)] (hX_F bs is gs) (hX_M bs is gs) fs m | none => False) | none => False) | none => False) | none => False) | none => False) | none => False) | none => False)
noncomputable def hR_d0 : List SIt := sekI Try.f4 33 [1]
noncomputable def hR_F (bs : Array Value) (is : List (Int × Int)) (gs : List (Int × Int)) : List SFr := [frOf 4 Try.f4 [(5, ptr 2 (.l 0)), (7, mpS 4), (153, mpS 3)] hR_d0]
noncomputable def hR_M (bs : Array Value) (is : List (Int × Int)) (gs : List (Int × Int)) : SMem := mkMX 5 [(2, ⟨.op bs, 30, true⟩)] [(3, .mapI true .u32 .b is), (4, .mapI true .u32 .b gs)]
noncomputable def hR_n  (Q : Array Value → List (Int × Int) → List (Int × Int) → Prop) (fs : List SFr) (m : SMem) : Prop := (match frNth fs 0 with | some f0 => (match rdP f0 5 with | some p2 => (match rdMp f0 153 with | some p3 => (match rdMp f0 7 with | some p4 => (match rdA m p2 with | some bs => (match rdMI m p3 with | some is => (match rdMI m p4 with | some gs => Q bs is gs ∧ subOk 2 [(2, p2), (3, p3), (4, p4)] (hR_F bs is gs) (hR_M bs is gs) fs m | none => False) | none => False) | none => False) | none => False) | none => False) | none => False) | none => False)
noncomputable def hN_d0 : List SIt := sekI Try.f4 34 [0, 1]
noncomputable def hN_F (bs : Array Value) (gs : List (Int × Int)) (l : Array MapEntry) (c : Nat) (seen : Array Nat) (last : Nat) : List SFr := [frOf 4 Try.f4 [(5, ptr 2 (.l 0)), (7, mpS 4), (153, mpS 3), (154, ptr 5 (.l 0))] hN_d0]
noncomputable def hN_M (bs : Array Value) (gs : List (Int × Int)) (l : Array MapEntry) (c : Nat) (seen : Array Nat) (last : Nat) : SMem := mkMX 6 [(2, ⟨.op bs, 30, true⟩)] [(3, .mapE l c), (4, .mapI true .u32 .b gs), (5, .iter 3 c seen last)]
noncomputable def hN_n (bs : Array Value) (gs : List (Int × Int)) (l : Array MapEntry) (c : Nat) (seen : Array Nat) (last : Nat) (Q : Prop) (fs : List SFr) (m : SMem) : Prop := (match frNth fs 0 with | some f0 => (match rdP f0 5 with | some p2 => (match rdMp f0 153 with | some p3 => (match rdMp f0 7 with | some p4 => (match rdP f0 154 with | some p5 => Q ∧ subOk 2 [(2, p2), (3, p3), (4, p4), (5, p5)] (hN_F bs gs l c seen last) (hN_M bs gs l c seen last) fs m | none => False) | none => False) | none => False) | none => False) | none => False)
noncomputable def hO_d0 : List SIt := sekI Try.f4 35 [0, 1, 2]
noncomputable def hO_F (bs : Array Value) (gs : List (Int × Int)) (l : Array MapEntry) (c : Nat) (seen : Array Nat) (last : Nat) : List SFr := [frOf 4 Try.f4 [(5, ptr 2 (.l 0)), (7, mpS 4), (153, mpS 3), (154, ptr 5 (.l 0))] hO_d0]
noncomputable def hO_M (bs : Array Value) (gs : List (Int × Int)) (l : Array MapEntry) (c : Nat) (seen : Array Nat) (last : Nat) : SMem := mkMX 6 [(2, ⟨.op bs, 30, true⟩)] [(3, .mapE l c), (4, .mapI true .u32 .b gs), (5, .iter 3 c seen last)]
noncomputable def hO_n (bs : Array Value) (gs : List (Int × Int)) (l : Array MapEntry) (c : Nat) (seen : Array Nat) (last : Nat) (Q : Prop) (fs : List SFr) (m : SMem) : Prop := (match frNth fs 0 with | some f0 => (match rdP f0 5 with | some p2 => (match rdMp f0 153 with | some p3 => (match rdMp f0 7 with | some p4 => (match rdP f0 154 with | some p5 => Q ∧ subOk 2 [(2, p2), (3, p3), (4, p4), (5, p5)] (hO_F bs gs l c seen last) (hO_M bs gs l c seen last) fs m | none => False) | none => False) | none => False) | none => False) | none => False)
noncomputable def hRM (bs : Array Value) (gs : List (Int × Int)) (l : Array MapEntry) (c : Nat) : SMem := SMem.newX ⟨5, mkBl [(2, ⟨.op bs, 30, true⟩)], [⟨3, .mapE l c⟩, ⟨4, .mapI true .u32 .b gs⟩]⟩ (.iter 3 c #[] c)
noncomputable def hNM (bs : Array Value) (gs : List (Int × Int)) (l : Array MapEntry) (c : Nat) (seen : Array Nat) : SMem := mkMX 6 [(2, ⟨.op bs, 30, true⟩)] [(3, .mapE l c), (4, .mapI true .u32 .b gs), (5, .iter 3 c seen c)]
noncomputable def hM0 : SMem := mkM 2 []
noncomputable def tA_t (off : Nat) (n : Nat) (cs : Array Value) (ty : TypeId) (i : Int) (bs : Array Value) (is : List (Int × Int)) (gs : List (Int × Int)) : Tree := stepT EV.go (run EV 1000) 2 (hA_F off n cs ty i bs is gs) (hA_M off n cs ty i bs is gs)
noncomputable def tA_x (off : Nat) (n : Nat) (cs : Array Value) (ty : TypeId) (i : Int) (bs : Array Value) (is : List (Int × Int)) (gs : List (Int × Int)) (QhD : Int → Int → Bool → Array Value → List (Int × Int) → List (Int × Int) → Prop) (QhC : Int → Array Value → List (Int × Int) → List (Int × Int) → Prop) (QhX : Array Value → List (Int × Int) → List (Int × Int) → Prop) (fs : List SFr) (m : SMem) : Prop := (match Nat.beq (atR fs) 4018 with | true => hD_n off n cs ty QhD fs m | false => (match Nat.beq (atR fs) 4025 with | true => hC_n off n cs ty QhC fs m | false => hX_n  QhX fs m))
noncomputable def tD_t (off : Nat) (n : Nat) (cs : Array Value) (ty : TypeId) (i : Int) (h : Int) (z : Bool) (bs : Array Value) (is : List (Int × Int)) (gs : List (Int × Int)) : Tree := stepT EV.go (run EV 1000) 2 (hD_F off n cs ty i h z bs is gs) (hD_M off n cs ty i h z bs is gs)
noncomputable def tD_x (off : Nat) (n : Nat) (cs : Array Value) (ty : TypeId) (i : Int) (h : Int) (z : Bool) (bs : Array Value) (is : List (Int × Int)) (gs : List (Int × Int)) (QhE : Int → Int → Bool → Array Value → List (Int × Int) → List (Int × Int) → Prop) (fs : List SFr) (m : SMem) : Prop := hE_n off n cs ty QhE fs m
noncomputable def tE_t (off : Nat) (n : Nat) (cs : Array Value) (ty : TypeId) (i : Int) (h : Int) (z : Bool) (bs : Array Value) (is : List (Int × Int)) (gs : List (Int × Int)) : Tree := stepT EV.go (run EV 1000) 2 (hE_F off n cs ty i h z bs is gs) (hE_M off n cs ty i h z bs is gs)
noncomputable def tE_x (off : Nat) (n : Nat) (cs : Array Value) (ty : TypeId) (i : Int) (h : Int) (z : Bool) (bs : Array Value) (is : List (Int × Int)) (gs : List (Int × Int)) (QhC : Int → Array Value → List (Int × Int) → List (Int × Int) → Prop) (fs : List SFr) (m : SMem) : Prop := hC_n off n cs ty QhC fs m
noncomputable def tC_t (off : Nat) (n : Nat) (cs : Array Value) (ty : TypeId) (i : Int) (bs : Array Value) (is : List (Int × Int)) (gs : List (Int × Int)) : Tree := stepT EV.go (run EV 1000) 2 (hC_F off n cs ty i bs is gs) (hC_M off n cs ty i bs is gs)
noncomputable def tC_x (off : Nat) (n : Nat) (cs : Array Value) (ty : TypeId) (i : Int) (bs : Array Value) (is : List (Int × Int)) (gs : List (Int × Int)) (QhB : Int → Int → Nat → Array Value → Array Value → List (Int × Int) → List (Int × Int) → Prop) (QhA : Int → Array Value → List (Int × Int) → List (Int × Int) → Prop) (fs : List SFr) (m : SMem) : Prop := (match Nat.beq (atR fs) 4031 with | true => hB_n off n cs ty QhB fs m | false => hA_n off n cs ty QhA fs m)
noncomputable def tB_t (off : Nat) (n : Nat) (cs : Array Value) (ty : TypeId) (j : Int) (i : Int) (k : Nat) (rs : Array Value) (bs : Array Value) (is : List (Int × Int)) (gs : List (Int × Int)) : Tree := stepT EV.go (run EV 1000) 2 (hB_F off n cs ty j i k rs bs is gs) (hB_M off n cs ty j i k rs bs is gs)
noncomputable def tB_x (off : Nat) (n : Nat) (cs : Array Value) (ty : TypeId) (j : Int) (i : Int) (k : Nat) (rs : Array Value) (bs : Array Value) (is : List (Int × Int)) (gs : List (Int × Int)) (QhB : Int → Int → Nat → Array Value → Array Value → List (Int × Int) → List (Int × Int) → Prop) (QhA : Int → Array Value → List (Int × Int) → List (Int × Int) → Prop) (fs : List SFr) (m : SMem) : Prop := (match Nat.beq (atR fs) 4031 with | true => hB_n off n cs ty QhB fs m | false => hA_n off n cs ty QhA fs m)
noncomputable def tX_t (bs : Array Value) (is : List (Int × Int)) (gs : List (Int × Int)) : Tree := stepT EV.go (run EV 1000) 2 (hX_F bs is gs) (hX_M bs is gs)
noncomputable def tX_x (bs : Array Value) (is : List (Int × Int)) (gs : List (Int × Int)) (QhR : Array Value → List (Int × Int) → List (Int × Int) → Prop) (fs : List SFr) (m : SMem) : Prop := hR_n  QhR fs m
noncomputable def s1_t (go : Nat) (gn : Nat) (gr : Array Value) (gt : TypeId) (off : Nat) (n : Nat) (cs : Array Value) (ty : TypeId) : Tree := run EV 1000 2 [callFr 4 Try.f4.ntmps [gn1 go gn, acS off n] (Try.f4.body.getD .skip)] (mkM 2 [(0, ⟨.raw cs, ty, false⟩), (1, ⟨.raw gr, gt, false⟩)])
noncomputable def s1_x (go : Nat) (gn : Nat) (gr : Array Value) (gt : TypeId) (off : Nat) (n : Nat) (cs : Array Value) (ty : TypeId) (QhA : Int → Array Value → List (Int × Int) → List (Int × Int) → Prop) (fs : List SFr) (m : SMem) : Prop := hA_n off n cs ty QhA fs m
noncomputable def s2_t (off : Nat) (n : Nat) (cs : Array Value) (ty : TypeId) : Tree := run EV 1000 2 [callFr 4 Try.f4.ntmps [eS, acS off n] (Try.f4.body.getD .skip)] (mkM 2 [(0, ⟨.raw cs, ty, false⟩)])
noncomputable def s2_x (off : Nat) (n : Nat) (cs : Array Value) (ty : TypeId) (QhA : Int → Array Value → List (Int × Int) → List (Int × Int) → Prop) (fs : List SFr) (m : SMem) : Prop := hA_n off n cs ty QhA fs m
noncomputable def s3_t (go : Nat) (gn : Nat) (gr : Array Value) (gt : TypeId) : Tree := run EW 1000 2 [callFr 4 Try.f4.ntmps [gn1 go gn, eS] (Try.f4.body.getD .skip)] (mkM 2 [(1, ⟨.raw gr, gt, false⟩)])
noncomputable def s3_x (go : Nat) (gn : Nat) (gr : Array Value) (gt : TypeId) (QhX : Array Value → List (Int × Int) → List (Int × Int) → Prop) (fs : List SFr) (m : SMem) : Prop := hX_n  QhX fs m
noncomputable def s4_t  : Tree := run EW 1000 2 [callFr 4 Try.f4.ntmps [eS, eS] (Try.f4.body.getD .skip)] (mkM 2 [])
noncomputable def s4_x  (QhX : Array Value → List (Int × Int) → List (Int × Int) → Prop) (fs : List SFr) (m : SMem) : Prop := hX_n  QhX fs m
theorem hA_d0_ok (r : Nat → Option Nat) : TodoOk r hA_d0 hA_d0 := TodoOk.it (by kernel_rfl)
theorem hD_d0_ok (r : Nat → Option Nat) : TodoOk r hD_d0 hD_d0 := TodoOk.it (by kernel_rfl)
theorem hE_d0_ok (r : Nat → Option Nat) : TodoOk r hE_d0 hE_d0 := TodoOk.it (by kernel_rfl)
theorem hC_d0_ok (r : Nat → Option Nat) : TodoOk r hC_d0 hC_d0 := TodoOk.it (by kernel_rfl)
theorem hB_d0_ok (r : Nat → Option Nat) : TodoOk r hB_d0 hB_d0 := TodoOk.it (by kernel_rfl)
theorem hX_d0_ok (r : Nat → Option Nat) : TodoOk r hX_d0 hX_d0 := TodoOk.it (by kernel_rfl)
theorem hR_d0_ok (r : Nat → Option Nat) : TodoOk r hR_d0 hR_d0 := TodoOk.it (by kernel_rfl)
theorem hN_d0_ok (r : Nat → Option Nat) : TodoOk r hN_d0 hN_d0 := TodoOk.it (by kernel_rfl)
theorem hO_d0_ok (r : Nat → Option Nat) : TodoOk r hO_d0 hO_d0 := TodoOk.it (by kernel_rfl)
theorem hA_good {A : SV → SMem → Prop} {off : Nat} {n : Nat} {cs : Array Value} {ty : TypeId} {Q : Int → Array Value → List (Int × Int) → List (Int × Int) → Prop} {fs : List SFr} {m : SMem} (H : ∀ i bs is gs, Q i bs is gs → Good Try.prog A 2 (hA_F off n cs ty i bs is gs) (hA_M off n cs ty i bs is gs)) (hb : hA_n off n cs ty Q fs m) : Good Try.prog A 2 fs m := by
  unfold hA_n at hb
  split at hb
  rotate_left
  · exact hb.elim
  split at hb
  rotate_left
  · exact hb.elim
  split at hb
  rotate_left
  · exact hb.elim
  split at hb
  rotate_left
  · exact hb.elim
  split at hb
  rotate_left
  · exact hb.elim
  split at hb
  rotate_left
  · exact hb.elim
  split at hb
  rotate_left
  · exact hb.elim
  split at hb
  rotate_left
  · exact hb.elim
  exact Good.of_sub hb.2 (H _ _ _ _ hb.1)
theorem hD_good {A : SV → SMem → Prop} {off : Nat} {n : Nat} {cs : Array Value} {ty : TypeId} {Q : Int → Int → Bool → Array Value → List (Int × Int) → List (Int × Int) → Prop} {fs : List SFr} {m : SMem} (H : ∀ i h z bs is gs, Q i h z bs is gs → Good Try.prog A 2 (hD_F off n cs ty i h z bs is gs) (hD_M off n cs ty i h z bs is gs)) (hb : hD_n off n cs ty Q fs m) : Good Try.prog A 2 fs m := by
  unfold hD_n at hb
  split at hb
  rotate_left
  · exact hb.elim
  split at hb
  rotate_left
  · exact hb.elim
  split at hb
  rotate_left
  · exact hb.elim
  split at hb
  rotate_left
  · exact hb.elim
  split at hb
  rotate_left
  · exact hb.elim
  split at hb
  rotate_left
  · exact hb.elim
  split at hb
  rotate_left
  · exact hb.elim
  split at hb
  rotate_left
  · exact hb.elim
  split at hb
  rotate_left
  · exact hb.elim
  split at hb
  rotate_left
  · exact hb.elim
  exact Good.of_sub hb.2 (H _ _ _ _ _ _ hb.1)
theorem hE_good {A : SV → SMem → Prop} {off : Nat} {n : Nat} {cs : Array Value} {ty : TypeId} {Q : Int → Int → Bool → Array Value → List (Int × Int) → List (Int × Int) → Prop} {fs : List SFr} {m : SMem} (H : ∀ i h z bs is gs, Q i h z bs is gs → Good Try.prog A 2 (hE_F off n cs ty i h z bs is gs) (hE_M off n cs ty i h z bs is gs)) (hb : hE_n off n cs ty Q fs m) : Good Try.prog A 2 fs m := by
  unfold hE_n at hb
  split at hb
  rotate_left
  · exact hb.elim
  split at hb
  rotate_left
  · exact hb.elim
  split at hb
  rotate_left
  · exact hb.elim
  split at hb
  rotate_left
  · exact hb.elim
  split at hb
  rotate_left
  · exact hb.elim
  split at hb
  rotate_left
  · exact hb.elim
  split at hb
  rotate_left
  · exact hb.elim
  split at hb
  rotate_left
  · exact hb.elim
  split at hb
  rotate_left
  · exact hb.elim
  split at hb
  rotate_left
  · exact hb.elim
  exact Good.of_sub hb.2 (H _ _ _ _ _ _ hb.1)
theorem hC_good {A : SV → SMem → Prop} {off : Nat} {n : Nat} {cs : Array Value} {ty : TypeId} {Q : Int → Array Value → List (Int × Int) → List (Int × Int) → Prop} {fs : List SFr} {m : SMem} (H : ∀ i bs is gs, Q i bs is gs → Good Try.prog A 2 (hC_F off n cs ty i bs is gs) (hC_M off n cs ty i bs is gs)) (hb : hC_n off n cs ty Q fs m) : Good Try.prog A 2 fs m := by
  unfold hC_n at hb
  split at hb
  rotate_left
  · exact hb.elim
  split at hb
  rotate_left
  · exact hb.elim
  split at hb
  rotate_left
  · exact hb.elim
  split at hb
  rotate_left
  · exact hb.elim
  split at hb
  rotate_left
  · exact hb.elim
  split at hb
  rotate_left
  · exact hb.elim
  split at hb
  rotate_left
  · exact hb.elim
  split at hb
  rotate_left
  · exact hb.elim
  exact Good.of_sub hb.2 (H _ _ _ _ hb.1)
theorem hB_good {A : SV → SMem → Prop} {off : Nat} {n : Nat} {cs : Array Value} {ty : TypeId} {Q : Int → Int → Nat → Array Value → Array Value → List (Int × Int) → List (Int × Int) → Prop} {fs : List SFr} {m : SMem} (H : ∀ j i k rs bs is gs, Q j i k rs bs is gs → Good Try.prog A 2 (hB_F off n cs ty j i k rs bs is gs) (hB_M off n cs ty j i k rs bs is gs)) (hb : hB_n off n cs ty Q fs m) : Good Try.prog A 2 fs m := by
  unfold hB_n at hb
  split at hb
  rotate_left
  · exact hb.elim
  split at hb
  rotate_left
  · exact hb.elim
  split at hb
  rotate_left
  · exact hb.elim
  split at hb
  rotate_left
  · exact hb.elim
  split at hb
  rotate_left
  · exact hb.elim
  split at hb
  rotate_left
  · exact hb.elim
  split at hb
  rotate_left
  · exact hb.elim
  split at hb
  rotate_left
  · exact hb.elim
  split at hb
  rotate_left
  · exact hb.elim
  split at hb
  rotate_left
  · exact hb.elim
  split at hb
  rotate_left
  · exact hb.elim
  split at hb
  rotate_left
  · exact hb.elim
  exact Good.of_sub hb.2 (H _ _ _ _ _ _ _ hb.1)
theorem hX_good {A : SV → SMem → Prop} {Q : Array Value → List (Int × Int) → List (Int × Int) → Prop} {fs : List SFr} {m : SMem} (H : ∀ bs is gs, Q bs is gs → Good Try.prog A 2 (hX_F bs is gs) (hX_M bs is gs)) (hb : hX_n  Q fs m) : Good Try.prog A 2 fs m := by
  unfold hX_n at hb
  split at hb
  rotate_left
  · exact hb.elim
  split at hb
  rotate_left
  · exact hb.elim
  split at hb
  rotate_left
  · exact hb.elim
  split at hb
  rotate_left
  · exact hb.elim
  split at hb
  rotate_left
  · exact hb.elim
  split at hb
  rotate_left
  · exact hb.elim
  split at hb
  rotate_left
  · exact hb.elim
  exact Good.of_sub hb.2 (H _ _ _ hb.1)
theorem hR_good {A : SV → SMem → Prop} {Q : Array Value → List (Int × Int) → List (Int × Int) → Prop} {fs : List SFr} {m : SMem} (H : ∀ bs is gs, Q bs is gs → Good Try.prog A 2 (hR_F bs is gs) (hR_M bs is gs)) (hb : hR_n  Q fs m) : Good Try.prog A 2 fs m := by
  unfold hR_n at hb
  split at hb
  rotate_left
  · exact hb.elim
  split at hb
  rotate_left
  · exact hb.elim
  split at hb
  rotate_left
  · exact hb.elim
  split at hb
  rotate_left
  · exact hb.elim
  split at hb
  rotate_left
  · exact hb.elim
  split at hb
  rotate_left
  · exact hb.elim
  split at hb
  rotate_left
  · exact hb.elim
  exact Good.of_sub hb.2 (H _ _ _ hb.1)
theorem hN_good {A : SV → SMem → Prop} {bs : Array Value} {gs : List (Int × Int)} {l : Array MapEntry} {c : Nat} {seen : Array Nat} {last : Nat} {Q : Prop} {fs : List SFr} {m : SMem} (H : Q  → Good Try.prog A 2 (hN_F bs gs l c seen last) (hN_M bs gs l c seen last)) (hb : hN_n bs gs l c seen last Q fs m) : Good Try.prog A 2 fs m := by
  unfold hN_n at hb
  split at hb
  rotate_left
  · exact hb.elim
  split at hb
  rotate_left
  · exact hb.elim
  split at hb
  rotate_left
  · exact hb.elim
  split at hb
  rotate_left
  · exact hb.elim
  split at hb
  rotate_left
  · exact hb.elim
  exact Good.of_sub hb.2 (H  hb.1)
theorem hO_good {A : SV → SMem → Prop} {bs : Array Value} {gs : List (Int × Int)} {l : Array MapEntry} {c : Nat} {seen : Array Nat} {last : Nat} {Q : Prop} {fs : List SFr} {m : SMem} (H : Q  → Good Try.prog A 2 (hO_F bs gs l c seen last) (hO_M bs gs l c seen last)) (hb : hO_n bs gs l c seen last Q fs m) : Good Try.prog A 2 fs m := by
  unfold hO_n at hb
  split at hb
  rotate_left
  · exact hb.elim
  split at hb
  rotate_left
  · exact hb.elim
  split at hb
  rotate_left
  · exact hb.elim
  split at hb
  rotate_left
  · exact hb.elim
  split at hb
  rotate_left
  · exact hb.elim
  exact Good.of_sub hb.2 (H  hb.1)
theorem tA_go {A : SV → SMem → Prop} {off : Nat} {n : Nat} {cs : Array Value} {ty : TypeId} {i : Int} {bs : Array Value} {is : List (Int × Int)} {gs : List (Int × Int)} {QhD : Int → Int → Bool → Array Value → List (Int × Int) → List (Int × Int) → Prop} {QhC : Int → Array Value → List (Int × Int) → List (Int × Int) → Prop} {QhX : Array Value → List (Int × Int) → List (Int × Int) → Prop} {fs : List SFr} {m : SMem} (hhD : ∀ i' h' z' bs' is' gs', QhD i' h' z' bs' is' gs' → Good Try.prog A 2 (hD_F off n cs ty i' h' z' bs' is' gs') (hD_M off n cs ty i' h' z' bs' is' gs')) (hhC : ∀ i' bs' is' gs', QhC i' bs' is' gs' → Good Try.prog A 2 (hC_F off n cs ty i' bs' is' gs') (hC_M off n cs ty i' bs' is' gs')) (hhX : ∀ bs' is' gs', QhX bs' is' gs' → Good Try.prog A 2 (hX_F  bs' is' gs') (hX_M  bs' is' gs')) (hb : tA_x off n cs ty i bs is gs QhD QhC QhX fs m) : Good Try.prog A 2 fs m := by
  unfold tA_x at hb
  split at hb
  · exact hD_good hhD hb
  split at hb
  · exact hC_good hhC hb
  exact hX_good hhX hb
theorem tD_go {A : SV → SMem → Prop} {off : Nat} {n : Nat} {cs : Array Value} {ty : TypeId} {i : Int} {h : Int} {z : Bool} {bs : Array Value} {is : List (Int × Int)} {gs : List (Int × Int)} {QhE : Int → Int → Bool → Array Value → List (Int × Int) → List (Int × Int) → Prop} {fs : List SFr} {m : SMem} (hhE : ∀ i' h' z' bs' is' gs', QhE i' h' z' bs' is' gs' → Good Try.prog A 2 (hE_F off n cs ty i' h' z' bs' is' gs') (hE_M off n cs ty i' h' z' bs' is' gs')) (hb : tD_x off n cs ty i h z bs is gs QhE fs m) : Good Try.prog A 2 fs m := by
  unfold tD_x at hb
  exact hE_good hhE hb
theorem tE_go {A : SV → SMem → Prop} {off : Nat} {n : Nat} {cs : Array Value} {ty : TypeId} {i : Int} {h : Int} {z : Bool} {bs : Array Value} {is : List (Int × Int)} {gs : List (Int × Int)} {QhC : Int → Array Value → List (Int × Int) → List (Int × Int) → Prop} {fs : List SFr} {m : SMem} (hhC : ∀ i' bs' is' gs', QhC i' bs' is' gs' → Good Try.prog A 2 (hC_F off n cs ty i' bs' is' gs') (hC_M off n cs ty i' bs' is' gs')) (hb : tE_x off n cs ty i h z bs is gs QhC fs m) : Good Try.prog A 2 fs m := by
  unfold tE_x at hb
  exact hC_good hhC hb
theorem tC_go {A : SV → SMem → Prop} {off : Nat} {n : Nat} {cs : Array Value} {ty : TypeId} {i : Int} {bs : Array Value} {is : List (Int × Int)} {gs : List (Int × Int)} {QhB : Int → Int → Nat → Array Value → Array Value → List (Int × Int) → List (Int × Int) → Prop} {QhA : Int → Array Value → List (Int × Int) → List (Int × Int) → Prop} {fs : List SFr} {m : SMem} (hhB : ∀ j' i' k' rs' bs' is' gs', QhB j' i' k' rs' bs' is' gs' → Good Try.prog A 2 (hB_F off n cs ty j' i' k' rs' bs' is' gs') (hB_M off n cs ty j' i' k' rs' bs' is' gs')) (hhA : ∀ i' bs' is' gs', QhA i' bs' is' gs' → Good Try.prog A 2 (hA_F off n cs ty i' bs' is' gs') (hA_M off n cs ty i' bs' is' gs')) (hb : tC_x off n cs ty i bs is gs QhB QhA fs m) : Good Try.prog A 2 fs m := by
  unfold tC_x at hb
  split at hb
  · exact hB_good hhB hb
  exact hA_good hhA hb
theorem tB_go {A : SV → SMem → Prop} {off : Nat} {n : Nat} {cs : Array Value} {ty : TypeId} {j : Int} {i : Int} {k : Nat} {rs : Array Value} {bs : Array Value} {is : List (Int × Int)} {gs : List (Int × Int)} {QhB : Int → Int → Nat → Array Value → Array Value → List (Int × Int) → List (Int × Int) → Prop} {QhA : Int → Array Value → List (Int × Int) → List (Int × Int) → Prop} {fs : List SFr} {m : SMem} (hhB : ∀ j' i' k' rs' bs' is' gs', QhB j' i' k' rs' bs' is' gs' → Good Try.prog A 2 (hB_F off n cs ty j' i' k' rs' bs' is' gs') (hB_M off n cs ty j' i' k' rs' bs' is' gs')) (hhA : ∀ i' bs' is' gs', QhA i' bs' is' gs' → Good Try.prog A 2 (hA_F off n cs ty i' bs' is' gs') (hA_M off n cs ty i' bs' is' gs')) (hb : tB_x off n cs ty j i k rs bs is gs QhB QhA fs m) : Good Try.prog A 2 fs m := by
  unfold tB_x at hb
  split at hb
  · exact hB_good hhB hb
  exact hA_good hhA hb
theorem tX_go {A : SV → SMem → Prop} {bs : Array Value} {is : List (Int × Int)} {gs : List (Int × Int)} {QhR : Array Value → List (Int × Int) → List (Int × Int) → Prop} {fs : List SFr} {m : SMem} (hhR : ∀ bs' is' gs', QhR bs' is' gs' → Good Try.prog A 2 (hR_F  bs' is' gs') (hR_M  bs' is' gs')) (hb : tX_x bs is gs QhR fs m) : Good Try.prog A 2 fs m := by
  unfold tX_x at hb
  exact hR_good hhR hb
theorem s1_go {A : SV → SMem → Prop} {go : Nat} {gn : Nat} {gr : Array Value} {gt : TypeId} {off : Nat} {n : Nat} {cs : Array Value} {ty : TypeId} {QhA : Int → Array Value → List (Int × Int) → List (Int × Int) → Prop} {fs : List SFr} {m : SMem} (hhA : ∀ i' bs' is' gs', QhA i' bs' is' gs' → Good Try.prog A 2 (hA_F off n cs ty i' bs' is' gs') (hA_M off n cs ty i' bs' is' gs')) (hb : s1_x go gn gr gt off n cs ty QhA fs m) : Good Try.prog A 2 fs m := by
  unfold s1_x at hb
  exact hA_good hhA hb
theorem s2_go {A : SV → SMem → Prop} {off : Nat} {n : Nat} {cs : Array Value} {ty : TypeId} {QhA : Int → Array Value → List (Int × Int) → List (Int × Int) → Prop} {fs : List SFr} {m : SMem} (hhA : ∀ i' bs' is' gs', QhA i' bs' is' gs' → Good Try.prog A 2 (hA_F off n cs ty i' bs' is' gs') (hA_M off n cs ty i' bs' is' gs')) (hb : s2_x off n cs ty QhA fs m) : Good Try.prog A 2 fs m := by
  unfold s2_x at hb
  exact hA_good hhA hb
theorem s3_go {A : SV → SMem → Prop} {go : Nat} {gn : Nat} {gr : Array Value} {gt : TypeId} {QhX : Array Value → List (Int × Int) → List (Int × Int) → Prop} {fs : List SFr} {m : SMem} (hhX : ∀ bs' is' gs', QhX bs' is' gs' → Good Try.prog A 2 (hX_F  bs' is' gs') (hX_M  bs' is' gs')) (hb : s3_x go gn gr gt QhX fs m) : Good Try.prog A 2 fs m := by
  unfold s3_x at hb
  exact hX_good hhX hb
theorem s4_go {A : SV → SMem → Prop} {QhX : Array Value → List (Int × Int) → List (Int × Int) → Prop} {fs : List SFr} {m : SMem} (hhX : ∀ bs' is' gs', QhX bs' is' gs' → Good Try.prog A 2 (hX_F  bs' is' gs') (hX_M  bs' is' gs')) (hb : s4_x  QhX fs m) : Good Try.prog A 2 fs m := by
  unfold s4_x at hb
  exact hX_good hhX hb
end Go.Proofs.Ytnicipemkcofpaa
/- Of handle: HandleOnce: the law's states. -/
namespace Go.Proofs.Ytnicipemkcofpaa
set_option maxRecDepth 100000
theorem tA_vc (off : Nat) (n : Nat) (cs : Array Value) (ty : TypeId) (i : Int) (bs : Array Value) (is : List (Int × Int)) (gs : List (Int × Int)) (QhD : Int → Int → Bool → Array Value → List (Int × Int) → List (Int × Int) → Prop) (QhC : Int → Array Value → List (Int × Int) → List (Int × Int) → Prop) (QhX : Array Value → List (Int × Int) → List (Int × Int) → Prop) : (tA_t off n cs ty i bs is gs).vc ((isB true)) (tA_x off n cs ty i bs is gs QhD QhC QhX) =
    ((decide (i < (↑n : Int)) = true → (((0 : Int) ≤ i ∧ i < (↑n : Int)) ∧ True) ∧ (IsInt IntKind.u8 cs (off + Int.toNat i * 2) ∧ True) ∧ (decide (intAt cs (off + Int.toNat i * 2) > (1 : Int)) = true → (Array.size bs = (64 : Nat) ∧ True) ∧ (BkOk bs ∧ True) ∧ (Array.size (issueB bs) = (64 : Nat) ∧ Array.size (issueB bs) = (64 : Nat) ∧ True) ∧ (Array.size (issueB bs) = (64 : Nat) ∧ True) ∧ (Array.size (issueB bs) = (64 : Nat) ∧ Array.size (issueB bs) = Array.size bs ∧ True) ∧ ((issueOk bs == true) = true → ((decide (getI (issueI bs) is ≠ (0 : Int)) == false) = true → (((issueI bs == (0 : Int)) == false) = true → (((!issueOk bs) == true) = true → ((issueI bs != (0 : Int)) = true → false = true) ∧ ((issueI bs != (0 : Int)) = false → (issueOk bs = true → QhC i (issueB bs) (insI (issueI bs) (1 : Int) is) (insI (issueI bs) (1 : Int) gs) ∧ CallKind.normal = CallKind.normal ∧ TodoOk (ren 2 [(2, 2), (3, 3), (4, 4)]) hC_d0 hC_d0 ∧ off = off ∧ n = n ∧ i = i ∧ ty = ty ∧ cs = cs ∧ (30 : TypeId) = (30 : TypeId) ∧ issueB bs = issueB bs ∧ IntKind.u32 = IntKind.u32 ∧ VK.b = VK.b ∧ insI (issueI bs) (1 : Int) is = insI (issueI bs) (1 : Int) is ∧ IntKind.u32 = IntKind.u32 ∧ VK.b = VK.b ∧ insI (issueI bs) (1 : Int) gs = insI (issueI bs) (1 : Int) gs ∧ True) ∧ (issueOk bs = false → QhC i (issueB bs) is gs ∧ CallKind.normal = CallKind.normal ∧ TodoOk (ren 2 [(2, 2), (3, 3), (4, 4)]) hC_d0 hC_d0 ∧ off = off ∧ n = n ∧ i = i ∧ ty = ty ∧ cs = cs ∧ (30 : TypeId) = (30 : TypeId) ∧ issueB bs = issueB bs ∧ IntKind.u32 = IntKind.u32 ∧ VK.b = VK.b ∧ is = is ∧ IntKind.u32 = IntKind.u32 ∧ VK.b = VK.b ∧ gs = gs ∧ True))) ∧ (((!issueOk bs) == true) = false → (issueOk bs = true → QhC i (issueB bs) (insI (issueI bs) (1 : Int) is) (insI (issueI bs) (1 : Int) gs) ∧ CallKind.normal = CallKind.normal ∧ TodoOk (ren 2 [(2, 2), (3, 3), (4, 4)]) hC_d0 hC_d0 ∧ off = off ∧ n = n ∧ i = i ∧ ty = ty ∧ cs = cs ∧ (30 : TypeId) = (30 : TypeId) ∧ issueB bs = issueB bs ∧ IntKind.u32 = IntKind.u32 ∧ VK.b = VK.b ∧ insI (issueI bs) (1 : Int) is = insI (issueI bs) (1 : Int) is ∧ IntKind.u32 = IntKind.u32 ∧ VK.b = VK.b ∧ insI (issueI bs) (1 : Int) gs = insI (issueI bs) (1 : Int) gs ∧ True) ∧ (issueOk bs = false → QhC i (issueB bs) is gs ∧ CallKind.normal = CallKind.normal ∧ TodoOk (ren 2 [(2, 2), (3, 3), (4, 4)]) hC_d0 hC_d0 ∧ off = off ∧ n = n ∧ i = i ∧ ty = ty ∧ cs = cs ∧ (30 : TypeId) = (30 : TypeId) ∧ issueB bs = issueB bs ∧ IntKind.u32 = IntKind.u32 ∧ VK.b = VK.b ∧ is = is ∧ IntKind.u32 = IntKind.u32 ∧ VK.b = VK.b ∧ gs = gs ∧ True))) ∧ (((issueI bs == (0 : Int)) == false) = false → false = true)) ∧ ((decide (getI (issueI bs) is ≠ (0 : Int)) == false) = false → false = true)) ∧ ((issueOk bs == true) = false → (((!issueOk bs) == true) = true → ((issueI bs != (0 : Int)) = true → false = true) ∧ ((issueI bs != (0 : Int)) = false → (issueOk bs = true → QhC i (issueB bs) (insI (issueI bs) (1 : Int) is) (insI (issueI bs) (1 : Int) gs) ∧ CallKind.normal = CallKind.normal ∧ TodoOk (ren 2 [(2, 2), (3, 3), (4, 4)]) hC_d0 hC_d0 ∧ off = off ∧ n = n ∧ i = i ∧ ty = ty ∧ cs = cs ∧ (30 : TypeId) = (30 : TypeId) ∧ issueB bs = issueB bs ∧ IntKind.u32 = IntKind.u32 ∧ VK.b = VK.b ∧ insI (issueI bs) (1 : Int) is = insI (issueI bs) (1 : Int) is ∧ IntKind.u32 = IntKind.u32 ∧ VK.b = VK.b ∧ insI (issueI bs) (1 : Int) gs = insI (issueI bs) (1 : Int) gs ∧ True) ∧ (issueOk bs = false → QhC i (issueB bs) is gs ∧ CallKind.normal = CallKind.normal ∧ TodoOk (ren 2 [(2, 2), (3, 3), (4, 4)]) hC_d0 hC_d0 ∧ off = off ∧ n = n ∧ i = i ∧ ty = ty ∧ cs = cs ∧ (30 : TypeId) = (30 : TypeId) ∧ issueB bs = issueB bs ∧ IntKind.u32 = IntKind.u32 ∧ VK.b = VK.b ∧ is = is ∧ IntKind.u32 = IntKind.u32 ∧ VK.b = VK.b ∧ gs = gs ∧ True))) ∧ (((!issueOk bs) == true) = false → (issueOk bs = true → QhC i (issueB bs) (insI (issueI bs) (1 : Int) is) (insI (issueI bs) (1 : Int) gs) ∧ CallKind.normal = CallKind.normal ∧ TodoOk (ren 2 [(2, 2), (3, 3), (4, 4)]) hC_d0 hC_d0 ∧ off = off ∧ n = n ∧ i = i ∧ ty = ty ∧ cs = cs ∧ (30 : TypeId) = (30 : TypeId) ∧ issueB bs = issueB bs ∧ IntKind.u32 = IntKind.u32 ∧ VK.b = VK.b ∧ insI (issueI bs) (1 : Int) is = insI (issueI bs) (1 : Int) is ∧ IntKind.u32 = IntKind.u32 ∧ VK.b = VK.b ∧ insI (issueI bs) (1 : Int) gs = insI (issueI bs) (1 : Int) gs ∧ True) ∧ (issueOk bs = false → QhC i (issueB bs) is gs ∧ CallKind.normal = CallKind.normal ∧ TodoOk (ren 2 [(2, 2), (3, 3), (4, 4)]) hC_d0 hC_d0 ∧ off = off ∧ n = n ∧ i = i ∧ ty = ty ∧ cs = cs ∧ (30 : TypeId) = (30 : TypeId) ∧ issueB bs = issueB bs ∧ IntKind.u32 = IntKind.u32 ∧ VK.b = VK.b ∧ is = is ∧ IntKind.u32 = IntKind.u32 ∧ VK.b = VK.b ∧ gs = gs ∧ True)))) ∧ (decide (intAt cs (off + Int.toNat i * 2) > (1 : Int)) = false → (Array.size bs = (64 : Nat) ∧ True) ∧ (((0 : Int) ≤ i ∧ i < (↑n : Int)) ∧ True) ∧ (IsInt IntKind.u32 cs (off + Int.toNat i * 2 + 1) ∧ True) ∧ (BkOk bs ∧ True) ∧ QhD i (atI bs (IntKind.wrap IntKind.i64 (ari BinOp.rem IntKind.u32 (intAt cs (off + Int.toNat i * 2 + 1)) (32 : Int)))) (atOk bs (IntKind.wrap IntKind.i64 (ari BinOp.rem IntKind.u32 (intAt cs (off + Int.toNat i * 2 + 1)) (32 : Int)))) bs is gs ∧ CallKind.normal = CallKind.normal ∧ TodoOk (ren 2 [(2, 2), (3, 3), (4, 4)]) hD_d0 hD_d0 ∧ off = off ∧ n = n ∧ atOk bs (IntKind.wrap IntKind.i64 (ari BinOp.rem IntKind.u32 (intAt cs (off + Int.toNat i * 2 + 1)) (32 : Int))) = atOk bs (IntKind.wrap IntKind.i64 (ari BinOp.rem IntKind.u32 (intAt cs (off + Int.toNat i * 2 + 1)) (32 : Int))) ∧ i = i ∧ atI bs (IntKind.wrap IntKind.i64 (ari BinOp.rem IntKind.u32 (intAt cs (off + Int.toNat i * 2 + 1)) (32 : Int))) = atI bs (IntKind.wrap IntKind.i64 (ari BinOp.rem IntKind.u32 (intAt cs (off + Int.toNat i * 2 + 1)) (32 : Int))) ∧ ty = ty ∧ cs = cs ∧ (30 : TypeId) = (30 : TypeId) ∧ bs = bs ∧ IntKind.u32 = IntKind.u32 ∧ VK.b = VK.b ∧ is = is ∧ IntKind.u32 = IntKind.u32 ∧ VK.b = VK.b ∧ gs = gs ∧ True)) ∧ (decide (i < (↑n : Int)) = false → QhX bs is gs ∧ CallKind.normal = CallKind.normal ∧ TodoOk (ren 2 [(2, 2), (3, 3), (4, 4)]) hX_d0 hX_d0 ∧ (30 : TypeId) = (30 : TypeId) ∧ bs = bs ∧ IntKind.u32 = IntKind.u32 ∧ VK.b = VK.b ∧ is = is ∧ IntKind.u32 = IntKind.u32 ∧ VK.b = VK.b ∧ gs = gs ∧ True)) := by kernel_rfl
theorem tD_vc (off : Nat) (n : Nat) (cs : Array Value) (ty : TypeId) (i : Int) (h : Int) (z : Bool) (bs : Array Value) (is : List (Int × Int)) (gs : List (Int × Int)) (QhE : Int → Int → Bool → Array Value → List (Int × Int) → List (Int × Int) → Prop) : (tD_t off n cs ty i h z bs is gs).vc ((isB true)) (tD_x off n cs ty i h z bs is gs QhE) =
    ((((0 : Int) ≤ i ∧ i < (↑n : Int)) ∧ True) ∧ (IsInt IntKind.u8 cs (off + Int.toNat i * 2) ∧ True) ∧ ((intAt cs (off + Int.toNat i * 2) == (0 : Int)) = true → (((0 : Int) ≤ i ∧ i < (↑n : Int)) ∧ True) ∧ (IsInt IntKind.u32 cs (off + Int.toNat i * 2 + 1) ∧ True) ∧ QhE i (intAt cs (off + Int.toNat i * 2 + 1)) z bs is gs ∧ CallKind.normal = CallKind.normal ∧ TodoOk (ren 2 [(2, 2), (3, 3), (4, 4)]) hE_d0 hE_d0 ∧ off = off ∧ n = n ∧ z = z ∧ i = i ∧ intAt cs (off + Int.toNat i * 2 + 1) = intAt cs (off + Int.toNat i * 2 + 1) ∧ ty = ty ∧ cs = cs ∧ (30 : TypeId) = (30 : TypeId) ∧ bs = bs ∧ IntKind.u32 = IntKind.u32 ∧ VK.b = VK.b ∧ is = is ∧ IntKind.u32 = IntKind.u32 ∧ VK.b = VK.b ∧ gs = gs ∧ True) ∧ ((intAt cs (off + Int.toNat i * 2) == (0 : Int)) = false → QhE i h z bs is gs ∧ CallKind.normal = CallKind.normal ∧ TodoOk (ren 2 [(2, 2), (3, 3), (4, 4)]) hE_d0 hE_d0 ∧ off = off ∧ n = n ∧ z = z ∧ i = i ∧ h = h ∧ ty = ty ∧ cs = cs ∧ (30 : TypeId) = (30 : TypeId) ∧ bs = bs ∧ IntKind.u32 = IntKind.u32 ∧ VK.b = VK.b ∧ is = is ∧ IntKind.u32 = IntKind.u32 ∧ VK.b = VK.b ∧ gs = gs ∧ True)) := by kernel_rfl
theorem tE_vc (off : Nat) (n : Nat) (cs : Array Value) (ty : TypeId) (i : Int) (h : Int) (z : Bool) (bs : Array Value) (is : List (Int × Int)) (gs : List (Int × Int)) (QhC : Int → Array Value → List (Int × Int) → List (Int × Int) → Prop) : (tE_t off n cs ty i h z bs is gs).vc ((isB true)) (tE_x off n cs ty i h z bs is gs QhC) =
    ((Array.size bs = (64 : Nat) ∧ True) ∧ (BkOk bs ∧ ((0 : Int) ≤ h ∧ h < (4294967296 : Int)) ∧ True) ∧ (Array.size (voidB bs h) = (64 : Nat) ∧ Array.size (voidB bs h) = (64 : Nat) ∧ True) ∧ (Array.size (voidB bs h) = (64 : Nat) ∧ True) ∧ (Array.size (voidB bs h) = (64 : Nat) ∧ Array.size (voidB bs h) = Array.size bs ∧ True) ∧ (((!goodB bs h == decide (getI h gs ≠ (0 : Int))) == false) = true → (((0 : Int) ≤ i ∧ i < (↑n : Int)) ∧ True) ∧ (IsInt IntKind.u8 cs (off + Int.toNat i * 2) ∧ True) ∧ (((intAt cs (off + Int.toNat i * 2) == (1 : Int)) == true) = true → ((!goodB bs h == z) = true → false = true) ∧ ((!goodB bs h == z) = false → QhC i (voidB bs h) is (delI h gs) ∧ CallKind.normal = CallKind.normal ∧ TodoOk (ren 2 [(2, 2), (3, 3), (4, 4)]) hC_d0 hC_d0 ∧ off = off ∧ n = n ∧ i = i ∧ ty = ty ∧ cs = cs ∧ (30 : TypeId) = (30 : TypeId) ∧ voidB bs h = voidB bs h ∧ IntKind.u32 = IntKind.u32 ∧ VK.b = VK.b ∧ is = is ∧ IntKind.u32 = IntKind.u32 ∧ VK.b = VK.b ∧ delI h gs = delI h gs ∧ True)) ∧ (((intAt cs (off + Int.toNat i * 2) == (1 : Int)) == true) = false → QhC i (voidB bs h) is (delI h gs) ∧ CallKind.normal = CallKind.normal ∧ TodoOk (ren 2 [(2, 2), (3, 3), (4, 4)]) hC_d0 hC_d0 ∧ off = off ∧ n = n ∧ i = i ∧ ty = ty ∧ cs = cs ∧ (30 : TypeId) = (30 : TypeId) ∧ voidB bs h = voidB bs h ∧ IntKind.u32 = IntKind.u32 ∧ VK.b = VK.b ∧ is = is ∧ IntKind.u32 = IntKind.u32 ∧ VK.b = VK.b ∧ delI h gs = delI h gs ∧ True)) ∧ (((!goodB bs h == decide (getI h gs ≠ (0 : Int))) == false) = false → false = true)) := by kernel_rfl
theorem tC_vc (off : Nat) (n : Nat) (cs : Array Value) (ty : TypeId) (i : Int) (bs : Array Value) (is : List (Int × Int)) (gs : List (Int × Int)) (QhB : Int → Int → Nat → Array Value → Array Value → List (Int × Int) → List (Int × Int) → Prop) (QhA : Int → Array Value → List (Int × Int) → List (Int × Int) → Prop) : (tC_t off n cs ty i bs is gs).vc ((isB true)) (tC_x off n cs ty i bs is gs QhB QhA) =
    ((Array.size bs = (64 : Nat) ∧ True) ∧ (BkOk bs ∧ True) ∧ (decide (List.length (issued bs) = (0 : Nat)) = true → (((0 : Int) != (↑(List.length gs) : Int)) = true → false = true) ∧ (((0 : Int) != (↑(List.length gs) : Int)) = false → QhA (ari BinOp.add IntKind.i64 i (1 : Int)) bs is gs ∧ CallKind.normal = CallKind.normal ∧ TodoOk (ren 2 [(2, 2), (3, 3), (4, 4)]) hA_d0 hA_d0 ∧ off = off ∧ n = n ∧ ari BinOp.add IntKind.i64 i (1 : Int) = ari BinOp.add IntKind.i64 i (1 : Int) ∧ ty = ty ∧ cs = cs ∧ (30 : TypeId) = (30 : TypeId) ∧ bs = bs ∧ IntKind.u32 = IntKind.u32 ∧ VK.b = VK.b ∧ is = is ∧ IntKind.u32 = IntKind.u32 ∧ VK.b = VK.b ∧ gs = gs ∧ True)) ∧ (decide (List.length (issued bs) = (0 : Nat)) = false → (((↑(List.length (issued bs)) : Int) != (↑(List.length gs) : Int)) = true → false = true) ∧ (((↑(List.length (issued bs)) : Int) != (↑(List.length gs) : Int)) = false → (decide ((0 : Int) < (↑(List.length (issued bs)) : Int)) = true → QhB (0 : Int) i (List.length (issued bs)) (u32s (issued bs)) bs is gs ∧ CallKind.normal = CallKind.normal ∧ TodoOk (ren 2 [(2, 2), (3, 3), (4, 4), (5, 5)]) hB_d0 hB_d0 ∧ off = off ∧ n = n ∧ (0 : Int) = (0 : Int) ∧ i = i ∧ List.length (issued bs) = List.length (issued bs) ∧ ty = ty ∧ cs = cs ∧ (41 : TypeId) = (41 : TypeId) ∧ u32s (issued bs) = u32s (issued bs) ∧ (30 : TypeId) = (30 : TypeId) ∧ bs = bs ∧ IntKind.u32 = IntKind.u32 ∧ VK.b = VK.b ∧ is = is ∧ IntKind.u32 = IntKind.u32 ∧ VK.b = VK.b ∧ gs = gs ∧ True) ∧ (decide ((0 : Int) < (↑(List.length (issued bs)) : Int)) = false → QhA (ari BinOp.add IntKind.i64 i (1 : Int)) bs is gs ∧ CallKind.normal = CallKind.normal ∧ TodoOk (ren 2 [(2, 2), (3, 3), (4, 4)]) hA_d0 hA_d0 ∧ off = off ∧ n = n ∧ ari BinOp.add IntKind.i64 i (1 : Int) = ari BinOp.add IntKind.i64 i (1 : Int) ∧ ty = ty ∧ cs = cs ∧ (30 : TypeId) = (30 : TypeId) ∧ bs = bs ∧ IntKind.u32 = IntKind.u32 ∧ VK.b = VK.b ∧ is = is ∧ IntKind.u32 = IntKind.u32 ∧ VK.b = VK.b ∧ gs = gs ∧ True)))) := by kernel_rfl
theorem tB_vc (off : Nat) (n : Nat) (cs : Array Value) (ty : TypeId) (j : Int) (i : Int) (k : Nat) (rs : Array Value) (bs : Array Value) (is : List (Int × Int)) (gs : List (Int × Int)) (QhB : Int → Int → Nat → Array Value → Array Value → List (Int × Int) → List (Int × Int) → Prop) (QhA : Int → Array Value → List (Int × Int) → List (Int × Int) → Prop) : (tB_t off n cs ty j i k rs bs is gs).vc ((isB true)) (tB_x off n cs ty j i k rs bs is gs QhB QhA) =
    ((((0 : Int) ≤ j ∧ j < (↑k : Int)) ∧ True) ∧ (IsInt IntKind.u32 rs ((0 : Nat) + Int.toNat j * 1) ∧ True) ∧ (((!decide (getI (intAt rs ((0 : Nat) + Int.toNat j * 1)) gs ≠ (0 : Int))) == false) = true → (Array.size bs = (64 : Nat) ∧ True) ∧ (((0 : Int) ≤ j ∧ j < (↑k : Int)) ∧ True) ∧ (IsInt IntKind.u32 rs ((0 : Nat) + Int.toNat j * 1) ∧ True) ∧ (BkOk bs ∧ ((0 : Int) ≤ intAt rs ((0 : Nat) + Int.toNat j * 1) ∧ intAt rs ((0 : Nat) + Int.toNat j * 1) < (4294967296 : Int)) ∧ True) ∧ ((!goodB bs (intAt rs ((0 : Nat) + Int.toNat j * 1))) = true → false = true) ∧ ((!goodB bs (intAt rs ((0 : Nat) + Int.toNat j * 1))) = false → (decide (ari BinOp.add IntKind.i64 j (1 : Int) < (↑k : Int)) = true → QhB (ari BinOp.add IntKind.i64 j (1 : Int)) i k rs bs is gs ∧ CallKind.normal = CallKind.normal ∧ TodoOk (ren 2 [(2, 2), (3, 3), (4, 4), (5, 5)]) hB_d0 hB_d0 ∧ off = off ∧ n = n ∧ ari BinOp.add IntKind.i64 j (1 : Int) = ari BinOp.add IntKind.i64 j (1 : Int) ∧ i = i ∧ k = k ∧ ty = ty ∧ cs = cs ∧ (41 : TypeId) = (41 : TypeId) ∧ rs = rs ∧ (30 : TypeId) = (30 : TypeId) ∧ bs = bs ∧ IntKind.u32 = IntKind.u32 ∧ VK.b = VK.b ∧ is = is ∧ IntKind.u32 = IntKind.u32 ∧ VK.b = VK.b ∧ gs = gs ∧ True) ∧ (decide (ari BinOp.add IntKind.i64 j (1 : Int) < (↑k : Int)) = false → QhA (ari BinOp.add IntKind.i64 i (1 : Int)) bs is gs ∧ CallKind.normal = CallKind.normal ∧ TodoOk (ren 2 [(2, 2), (3, 3), (4, 4)]) hA_d0 hA_d0 ∧ off = off ∧ n = n ∧ ari BinOp.add IntKind.i64 i (1 : Int) = ari BinOp.add IntKind.i64 i (1 : Int) ∧ ty = ty ∧ cs = cs ∧ (30 : TypeId) = (30 : TypeId) ∧ bs = bs ∧ IntKind.u32 = IntKind.u32 ∧ VK.b = VK.b ∧ is = is ∧ IntKind.u32 = IntKind.u32 ∧ VK.b = VK.b ∧ gs = gs ∧ True))) ∧ (((!decide (getI (intAt rs ((0 : Nat) + Int.toNat j * 1)) gs ≠ (0 : Int))) == false) = false → false = true)) := by kernel_rfl
theorem tX_vc (bs : Array Value) (is : List (Int × Int)) (gs : List (Int × Int)) (QhR : Array Value → List (Int × Int) → List (Int × Int) → Prop) : (tX_t bs is gs).vc ((isB true)) (tX_x bs is gs QhR) =
    (QhR bs is gs ∧ CallKind.normal = CallKind.normal ∧ TodoOk (ren 2 [(2, 2), (3, 3), (4, 4)]) hR_d0 hR_d0 ∧ (30 : TypeId) = (30 : TypeId) ∧ bs = bs ∧ IntKind.u32 = IntKind.u32 ∧ VK.b = VK.b ∧ is = is ∧ IntKind.u32 = IntKind.u32 ∧ VK.b = VK.b ∧ gs = gs ∧ True) := by kernel_rfl
theorem s1_vc (go : Nat) (gn : Nat) (gr : Array Value) (gt : TypeId) (off : Nat) (n : Nat) (cs : Array Value) (ty : TypeId) (QhA : Int → Array Value → List (Int × Int) → List (Int × Int) → Prop) : (s1_t go gn gr gt off n cs ty).vc ((isB true)) (s1_x go gn gr gt off n cs ty QhA) =
    (((decide ((↑n : Int) > (300 : Int)) == false) = true → (decide ((↑gn : Int) > (100 : Int)) = true → true = true) ∧ (decide ((↑gn : Int) > (100 : Int)) = false → ((∀ (i : Nat), i < gn → IsInt IntKind.u32 gr (go + i) ∧ (0 : Int) ≤ intAt gr (go + i)) ∧ True) ∧ (Array.size (agedB gr go gn) = (64 : Nat) ∧ Array.size (agedB gr go gn) = (64 : Nat) ∧ True) ∧ QhA (0 : Int) (agedB gr go gn) (List.map (fun p => (decV (Prod.fst p), decV (Prod.snd p))) []) (List.map (fun p => (decV (Prod.fst p), decV (Prod.snd p))) []) ∧ CallKind.normal = CallKind.normal ∧ TodoOk (ren 2 [(2, 2), (3, 3), (4, 4)]) hA_d0 hA_d0 ∧ off = off ∧ n = n ∧ (0 : Int) = (0 : Int) ∧ ty = ty ∧ cs = cs ∧ (30 : TypeId) = (30 : Nat) ∧ agedB gr go gn = agedB gr go gn ∧ List.map (encE IntKind.u32 VK.b) (List.map (fun p => (decV (Prod.fst p), decV (Prod.snd p))) []) = [] ∧ List.map (encE IntKind.u32 VK.b) (List.map (fun p => (decV (Prod.fst p), decV (Prod.snd p))) []) = [] ∧ True)) ∧ ((decide ((↑n : Int) > (300 : Int)) == false) = false → true = true)) := by kernel_rfl
theorem s2_vc (off : Nat) (n : Nat) (cs : Array Value) (ty : TypeId) (QhA : Int → Array Value → List (Int × Int) → List (Int × Int) → Prop) : (s2_t off n cs ty).vc ((isB true)) (s2_x off n cs ty QhA) =
    (((decide ((↑n : Int) > (300 : Int)) == false) = true → ((64 : Nat) = (64 : Nat) ∧ (64 : Nat) = (64 : Nat) ∧ True) ∧ QhA (0 : Int) bkZ (List.map (fun p => (decV (Prod.fst p), decV (Prod.snd p))) []) (List.map (fun p => (decV (Prod.fst p), decV (Prod.snd p))) []) ∧ CallKind.normal = CallKind.normal ∧ TodoOk (ren 2 [(2, 2), (3, 3), (4, 4)]) hA_d0 hA_d0 ∧ off = off ∧ n = n ∧ (0 : Int) = (0 : Int) ∧ ty = ty ∧ cs = cs ∧ (30 : TypeId) = (30 : Nat) ∧ bkZ = bkZ ∧ List.map (encE IntKind.u32 VK.b) (List.map (fun p => (decV (Prod.fst p), decV (Prod.snd p))) []) = [] ∧ List.map (encE IntKind.u32 VK.b) (List.map (fun p => (decV (Prod.fst p), decV (Prod.snd p))) []) = [] ∧ True) ∧ ((decide ((↑n : Int) > (300 : Int)) == false) = false → true = true)) := by kernel_rfl
theorem s3_vc (go : Nat) (gn : Nat) (gr : Array Value) (gt : TypeId) (QhX : Array Value → List (Int × Int) → List (Int × Int) → Prop) : (s3_t go gn gr gt).vc ((isB true)) (s3_x go gn gr gt QhX) =
    ((decide ((↑gn : Int) > (100 : Int)) = true → true = true) ∧ (decide ((↑gn : Int) > (100 : Int)) = false → ((∀ (i : Nat), i < gn → IsInt IntKind.u32 gr (go + i) ∧ (0 : Int) ≤ intAt gr (go + i)) ∧ True) ∧ (Array.size (agedB gr go gn) = (64 : Nat) ∧ Array.size (agedB gr go gn) = (64 : Nat) ∧ True) ∧ QhX (agedB gr go gn) (List.map (fun p => (decV (Prod.fst p), decV (Prod.snd p))) []) (List.map (fun p => (decV (Prod.fst p), decV (Prod.snd p))) []) ∧ CallKind.normal = CallKind.normal ∧ TodoOk (ren 2 [(2, 2), (3, 3), (4, 4)]) hX_d0 hX_d0 ∧ (30 : TypeId) = (30 : Nat) ∧ agedB gr go gn = agedB gr go gn ∧ List.map (encE IntKind.u32 VK.b) (List.map (fun p => (decV (Prod.fst p), decV (Prod.snd p))) []) = [] ∧ List.map (encE IntKind.u32 VK.b) (List.map (fun p => (decV (Prod.fst p), decV (Prod.snd p))) []) = [] ∧ True)) := by kernel_rfl
theorem s4_vc (QhX : Array Value → List (Int × Int) → List (Int × Int) → Prop) : (s4_t ).vc ((isB true)) (s4_x  QhX) =
    (((64 : Nat) = (64 : Nat) ∧ (64 : Nat) = (64 : Nat) ∧ True) ∧ QhX bkZ (List.map (fun p => (decV (Prod.fst p), decV (Prod.snd p))) []) (List.map (fun p => (decV (Prod.fst p), decV (Prod.snd p))) []) ∧ CallKind.normal = CallKind.normal ∧ TodoOk (ren 2 [(2, 2), (3, 3), (4, 4)]) hX_d0 hX_d0 ∧ (30 : TypeId) = (30 : Nat) ∧ bkZ = bkZ ∧ List.map (encE IntKind.u32 VK.b) (List.map (fun p => (decV (Prod.fst p), decV (Prod.snd p))) []) = [] ∧ List.map (encE IntKind.u32 VK.b) (List.map (fun p => (decV (Prod.fst p), decV (Prod.snd p))) []) = [] ∧ True) := by kernel_rfl
theorem tR (bs : Array Value) (is gs : List (Int × Int)) (l : Array MapEntry) (c : Nat) (Q : Prop) : (run EV 1000 2 (rgStep 154 (itPtr 5) (hR_F bs is gs)) (hRM bs gs l c)).vc (isB true) (hN_n bs gs l c #[] c Q) =
    (Q ∧ CallKind.normal = CallKind.normal ∧ TodoOk (ren 2 [(2, 2), (3, 3), (4, 4), (5, 5)]) hN_d0 hN_d0 ∧ (30 : TypeId) = (30 : TypeId) ∧ bs = bs ∧ l = l ∧ c = c ∧ IntKind.u32 = IntKind.u32 ∧ VK.b = VK.b ∧ gs = gs ∧ c = c ∧ (#[] : Array Nat) = #[] ∧ c = c ∧ True) := by kernel_rfl
theorem tN0 (bs : Array Value) (gs : List (Int × Int)) (l : Array MapEntry) (c : Nat) (seen : Array Nat) (last : Nat) : (run EV 1000 2 (rgStep 155 (.tup [.c (.f (.bool (.l false)))]) (hN_F bs gs l c seen last)) (hN_M bs gs l c seen last)).vc (isB true) (fun _ _ => False) =
    (true = true) := by kernel_rfl
theorem tN1 (bs : Array Value) (gs : List (Int × Int)) (l : Array MapEntry) (c : Nat) (seen : Array Nat) (last : Nat) (kv vv : Value) (Q : Prop) : (run EV 1000 2 (rgStep 155 (.tup [.c (.f (.bool (.l true))), .c (.f (.opq kv)), .c (.f (.opq vv))]) (hN_F bs gs l c seen last)) (hNM bs gs l c seen)).vc (isB true) (hO_n bs gs l c seen c Q) =
    (Q ∧ CallKind.normal = CallKind.normal ∧ TodoOk (ren 2 [(2, 2), (3, 3), (4, 4), (5, 5)]) hO_d0 hO_d0 ∧ (30 : TypeId) = (30 : TypeId) ∧ bs = bs ∧ l = l ∧ c = c ∧ IntKind.u32 = IntKind.u32 ∧ VK.b = VK.b ∧ gs = gs ∧ c = c ∧ seen = seen ∧ c = c ∧ True) := by kernel_rfl
theorem tO (bs : Array Value) (gs : List (Int × Int)) (l : Array MapEntry) (c : Nat) (seen : Array Nat) (k : Int) (b : Bool) (Q : Prop) : (run EV 1000 2 (rgStep 157 (.tup [.c (.f (.int .u32 (.o k))), .c (.f (.bool (.o b)))]) (hO_F bs gs l c seen c)) (hO_M bs gs l c seen c)).vc (isB true) (hN_n bs gs l c seen c Q) =
    ((Array.size bs = (64 : Nat) ∧ True) ∧ (BkOk bs ∧ ((0 : Int) ≤ k ∧ k < (4294967296 : Int)) ∧ True) ∧ ((!goodB bs k == decide (getI k gs ≠ (0 : Int))) = true → false = true) ∧ ((!goodB bs k == decide (getI k gs ≠ (0 : Int))) = false → Q ∧ CallKind.normal = CallKind.normal ∧ TodoOk (ren 2 [(2, 2), (3, 3), (4, 4), (5, 5)]) hN_d0 hN_d0 ∧ (30 : TypeId) = (30 : TypeId) ∧ bs = bs ∧ l = l ∧ c = c ∧ IntKind.u32 = IntKind.u32 ∧ VK.b = VK.b ∧ gs = gs ∧ c = c ∧ seen = seen ∧ c = c ∧ True)) := by kernel_rfl
end Go.Proofs.Ytnicipemkcofpaa
/- Of handle: HandleOnce: its invariant; its runs end with true. No condition. -/
namespace Go.Proofs.Ytnicipemkcofpaa
set_option maxRecDepth 100000
set_option linter.unusedSimpArgs false
set_option linter.unusedVariables false
theorem key_mem {k : Int} : ∀ {l : List (Int × Int)}, k ∈ l.map (·.1) ↔ ∃ v, lookI k l = some v
  | [] => ⟨fun h => (by cases h), fun ⟨_, h⟩ => (by cases h)⟩
  | (a, u) :: l => by
    simp only [List.map_cons, List.mem_cons, lookI]
    by_cases e : a = k
    · rw [if_pos e]
      exact ⟨fun _ => ⟨u, rfl⟩, fun _ => .inl e.symm⟩
    · rw [if_neg e, ← key_mem]
      exact ⟨fun h => h.resolve_left (fun e' => e e'.symm), .inr⟩
theorem key_nodup : ∀ {l : List (Int × Int)}, NoDup l → (l.map (·.1)).Nodup
  | [], _ => List.nodup_nil
  | (a, u) :: l, h => by
    rw [List.map_cons, List.nodup_cons]
    refine ⟨fun hm => ?_, key_nodup h.2⟩
    obtain ⟨v, e⟩ := key_mem.1 hm
    rw [h.1] at e
    cases e
/-- What is known of the book, of all that was given out, and of what is good. -/
structure HInv (bs : Array Value) (is gs : List (Int × Int)) : Prop where
  hb : BkOk bs
  nd : NoDup gs
  gd : ∀ h, lookI h gs = if goodB bs h = true then some 1 else none
  us : ∀ h v, lookI h is = some v → usedB bs h
section
variable {bs : Array Value} {is gs : List (Int × Int)}
theorem HInv.get (h : HInv bs is gs) (x : Int) : decide (getI x gs ≠ 0) = goodB bs x := by
  unfold getI
  rw [h.gd]
  cases goodB bs x <;> rfl
theorem HInv.len (h : HInv bs is gs) : gs.length = (issued bs).length := by
  have hp : (gs.map (·.1)).Perm (issued bs) := (List.perm_ext_iff_of_nodup (key_nodup h.nd) (issued_nodup h.hb)).2 fun x => by
    rw [key_mem, issued_mem h.hb, h.gd]
    cases goodB bs x
    · exact ⟨fun ⟨_, e⟩ => (by cases e), fun e => (by cases e)⟩
    · exact ⟨fun _ => rfl, fun _ => ⟨1, rfl⟩⟩
  rw [← hp.length_eq, List.length_map]
theorem HInv.issue (h : HInv bs is gs) (ho : issueOk bs = true) : HInv (issueB bs) (insI (issueI bs) 1 is) (insI (issueI bs) 1 gs) := by
  refine ⟨issue_bk h.hb, nodup_ins h.nd, fun x => ?_, fun x v hx => ?_⟩
  · rw [look_ins, issue_good h.hb, ho, Bool.true_and]
    by_cases e : x = issueI bs
    · rw [if_pos e, decide_eq_true e, Bool.or_true]; rfl
    · rw [if_neg e, decide_eq_false e, Bool.or_false]; exact h.gd x
  · rw [look_ins] at hx
    split at hx
    · rename_i e
      rw [e]; exact (used_new h.hb ho).1
    · exact used_issue h.hb (h.us x v hx)
theorem HInv.no (h : HInv bs is gs) (ho : issueOk bs = false) : HInv (issueB bs) is gs := by
  rcases issue_cases (bs := bs) with ⟨_, e, _⟩ | ⟨_, _, _, _, _, e, _⟩
  · rw [e]; exact h
  · rw [ho] at e; cases e
theorem HInv.fresh (h : HInv bs is gs) (ho : issueOk bs = true) : decide (getI (issueI bs) is ≠ 0) = false ∧ (issueI bs == 0) = false := by
  constructor
  · unfold getI
    cases e : lookI (issueI bs) is with
    | none => rfl
    | some v => exact absurd (h.us _ _ e) (used_new h.hb ho).2
  · have h1 : goodB (issueB bs) (issueI bs) = true := by rw [issue_good h.hb, ho]; simp
    have := (goodB_in (issue_bk h.hb) h1).2
    exact beq_false_of_ne (by omega)
theorem HInv.void (h : HInv bs is gs) (x : Int) : HInv (voidB bs x) is (delI x gs) := by
  refine ⟨void_bk h.hb x, nodup_del h.nd, fun y => ?_, fun y v hy => used_void h.hb (h.us y v hy)⟩
  rw [void_good h.hb]
  by_cases e : y = x
  · rw [e, look_del h.nd, decide_eq_true rfl]; simp
  · rw [look_del_ne e, decide_eq_false e, Bool.not_false, Bool.and_true]; exact h.gd y
theorem HInv.zero {bs : Array Value} (hb : BkOk bs) (hk : ∀ i, i < 32 → kindAt bs i = 0) : HInv bs [] [] := by
  refine ⟨hb, trivial, fun h => ?_, fun h v e => by cases e⟩
  cases hg : goodB bs h with
  | false => rfl
  | true =>
    obtain ⟨i, hi, h1, _⟩ := (goodB_iff hb).1 hg
    rw [hk i hi] at h1
    cases h1
/-- Acts, as they come in. -/
def ActsOk (cs : Array Value) (off n : Nat) : Prop := ∀ i, i < n → IsInt .u8 cs (off + i * 2) ∧ IsInt .u32 cs (off + i * 2 + 1) ∧ inH (intAt cs (off + i * 2 + 1))
theorem conV_ok : ∀ g l m t, conV g l m = some t → Con E0 g l m t := by
  intro g l m t h
  unfold conV at h
  split at h
  · cases h; exact wakes_con m
  · rename_i bs x; cases h
    refine Con.asked fun hq => Con.args (l' := [bkS bs, u32 x.den]) (fun R vs ha => by
      match vs, ha with
      | [v, w], ha => exact ⟨ha.1, ha.2.1, trivial⟩) ?_
    intro A hs
    exact good_con x.den m A ⟨fun p hp => hq p hp, hs⟩
  · rename_i bs x; cases h
    refine Con.asked fun hq => Con.args (l' := [bkS bs, i64 (.o x.den)]) (fun R vs ha => by
      match vs, ha with
      | [v, w], ha => exact ⟨ha.1, ha.2.1, trivial⟩) ?_
    intro A hs
    exact at_con x.den m A ⟨fun p hp => hq p hp, hs⟩
  · rename_i bs x; cases h
    refine Con.asked fun hq => Con.args (l' := [bkS bs, u32 x.den]) (fun R vs ha => by
      match vs, ha with
      | [v, w], ha => exact ⟨ha.1, ha.2.1, trivial⟩) ?_
    intro A hs
    exact void_con x.den m A ⟨fun p hp => hq p hp, hs⟩
  · rename_i bs; cases h
    refine Con.asked fun hq => ?_
    intro A hs
    exact issue_con m A ⟨fun p hp => hq p hp, hs⟩
  · rename_i bs; cases h
    exact issued_con m
  · cases h; exact aged_none m
  · rename_i i o k cap
    split at h
    · rename_i cs ty wr hb
      cases h
      refine Con.asked fun hq => ?_
      intro A hs
      exact aged_con hb A ⟨fun p hp => hq p hp, hs⟩
    · cases h
  · cases h
theorem EV_ok : EnvOk EV := EnvOk.with E0_ok _ _ conV_ok
theorem EW_ok : EnvOk EW := EnvOk.with E0_ok _ _ conV_ok
/-! The last loop. -/
noncomputable def opsAt (r : Nat) : Array Oper := match sekI Try.f4 r [0] with | .it (.inRegion ops _) :: _ => ops | _ => #[]
noncomputable def kAt (r : Nat) : List SIt := (sekI Try.f4 r [0]).tail
theorem td33 : hR_d0 = .it (.inRegion (opsAt 33) [1]) :: kAt 33 := by kernel_rfl
theorem td34 : hN_d0 = .it (.inRegion (opsAt 34) [0, 1]) :: kAt 34 := by kernel_rfl
theorem td35 : hO_d0 = .it (.inRegion (opsAt 35) [0, 1, 2]) :: kAt 35 := by kernel_rfl
noncomputable def o33 : Oper := ((opsAt 33)[1]?).getD default
noncomputable def o34 : Oper := ((opsAt 34)[0]?).getD default
noncomputable def o35 : Oper := ((opsAt 35)[0]?).getD default
theorem o33_at : (opsAt 33)[1]? = some o33 := by kernel_rfl
theorem o34_at : (opsAt 34)[0]? = some o34 := by kernel_rfl
theorem o35_at : (opsAt 35)[0]? = some o35 := by kernel_rfl
theorem o33_op : o33.op = .range 53 (.tmp 153) ∧ o33.guard = none ∧ o33.dst = some 154 := ⟨by kernel_rfl, by kernel_rfl, by kernel_rfl⟩
theorem o34_op : o34.op = .next (.tmp 154) false ∧ o34.guard = none ∧ o34.dst = some 155 := ⟨by kernel_rfl, by kernel_rfl, by kernel_rfl⟩
theorem o35_op : o35.op = .entry (.tmp 154) ∧ o35.guard = none ∧ o35.dst = some 157 := ⟨by kernel_rfl, by kernel_rfl, by kernel_rfl⟩
end
end Go.Proofs.Ytnicipemkcofpaa
/- Of handle: HandleOnce: its runs end with true. No condition. -/
namespace Go.Proofs.Ytnicipemkcofpaa
set_option maxRecDepth 100000
set_option linter.unusedSimpArgs false
set_option linter.unusedVariables false
section
variable {bs : Array Value} {is gs : List (Int × Int)}
theorem rg_eq {f : SFr} {cs : List SFr} {ops : Array Oper} {i d : Nat} {rest : List Nat} {k : List SIt} {v : SV} {o : Option Tmp} (htd : f.todo = .it (.inRegion ops (i :: rest)) :: k) (ho : o = some d) :
    ({ f with tm := dstS f.tm o v, todo := .it (.inRegion ops rest) :: k } :: cs) = rgStep d v (f :: cs) := by
  subst ho
  cases f
  dsimp only at htd
  subst htd
  rfl
/-- An entry of what was given out. -/
theorem entry_of {l : Array MapEntry} (hl : KV l.toList = is.map (encE .u32 .b)) {e : MapEntry} (he : e ∈ l.toList) : ∃ k v, (k, v) ∈ is ∧ e.key = .int .u32 k ∧ e.val = .bool (decide (v ≠ 0)) := by
  have h1 : (e.key, e.val) ∈ KV l.toList := List.mem_map_of_mem he
  rw [hl] at h1
  obtain ⟨⟨k, v⟩, h2, h3⟩ := List.mem_map.1 h1
  unfold encE at h3
  cases Prod.mk.inj h3 with
  | intro a b => exact ⟨k, v, h2, a.symm, b.symm⟩
theorem look_of_mem {k v : Int} : ∀ {l : List (Int × Int)}, (k, v) ∈ l → ∃ u, lookI k l = some u
  | [], h => (by cases h)
  | (a, u) :: l, h => by
    simp only [lookI]
    by_cases e : a = k
    · exact ⟨u, by rw [if_pos e]⟩
    · rw [if_neg e]
      rcases List.mem_cons.1 h with h | h
      · cases h; exact absurd rfl e
      · exact look_of_mem h
theorem hN_ok (h : HInv bs is gs) {l : Array MapEntry} {c : Nat} (hl : KV l.toList = is.map (encE .u32 .b)) (hbo : BornOk l c) : ∀ (n : Nat) (seen : Array Nat) (last : Nat), c ≤ last → (leftOf l seen).size < n → Good Try.prog (isB true) 2 (hN_F bs gs l c seen last) (hN_M bs gs l c seen last) := by
  intro n
  induction n with
  | zero => intro _ _ _ h; omega
  | succ n ih =>
    intro seen last hlast hn
    have hs := h.hb.sz
    refine Good.next (it := 5) (mid := 3) (since := c) (last := last) (c := c) (seen := seen) (l := l) td34 rfl o34_at o34_op.2.1 o34_op.1 rfl rfl rfl hbo.1 hlast (fun e he => ?_) ?_ (fun e he => ?_)
    · obtain ⟨k, v, _, e1, e2⟩ := entry_of hl he
      rw [e1, e2]; exact ⟨rfl, rfl⟩
    · rw [rg_eq (f := frOf 4 Try.f4 _ hN_d0) td34 o34_op.2.2]
      refine run_vc EV_ok 1000 (tN0 bs gs l c seen last) ?_ (fun s m h => h) (fun fs m hb => hb.elim)
      simp only [hs, and_true, true_and]
    · have hel : e ∈ l.toList := by
        unfold leftOf at he
        simp at he ⊢
        exact he.1
      obtain ⟨k, v, hkv, e1, e2⟩ := entry_of hl hel
      obtain ⟨u, hu⟩ := look_of_mem hkv
      have hin := used_in h.hb (h.us k u hu)
      rw [rg_eq (f := frOf 4 Try.f4 _ hN_d0) td34 o34_op.2.2]
      refine run_vc EV_ok 1000 (tN1 bs gs l c (seen.push e.born) last e.key e.val True) ?_ (fun s m h => h) (fun fs m hb => hO_good (fun _ => ?_) hb)
      · simp only [hs, and_true, true_and, hO_d0_ok]
      refine Good.entry (it := 5) (mid := 3) (since := c) (c := c) (seen := seen) (l := l) (e := e) (ks := .c (.f (.int .u32 (.o k)))) (vs := .c (.f (.bool (.o (decide (v ≠ 0)))))) td35 rfl o35_at o35_op.2.1 o35_op.1 rfl rfl rfl hel hbo.2 (fun R => by rw [e1]; rfl) (fun R => by rw [e2]; rfl) ?_
      rw [rg_eq (f := frOf 4 Try.f4 _ hO_d0) td35 o35_op.2.2]
      refine run_vc EV_ok 1000 (tO bs gs l c (seen.push e.born) k (decide (v ≠ 0)) True) ?_ (fun s m h => h) (fun fs m hb => hN_good (fun _ => ih _ _ (Nat.le_refl _) (by have := left_push he; omega)) hb)
      have hg := h.get k
      have d : (!goodB bs k == goodB bs k) = false := by cases goodB bs k <;> rfl
      simp only [hs, hg, d, true_implies, Bool.true_eq_false, Bool.false_eq_true, false_implies, and_true, true_and, hN_d0_ok]
      exact ⟨h.hb, hin⟩
theorem hX_ok (h : HInv bs is gs) : Good Try.prog (isB true) 2 (hX_F bs is gs) (hX_M bs is gs) := by
  refine past_vc EV_ok 1000 (tX_vc bs is gs (fun b i g => b = bs ∧ i = is ∧ g = gs)) ?_ (fun _ _ h => h) (fun fs m hb => tX_go (fun b i g ⟨e1, e2, e3⟩ => ?_) hb)
  · simp only [h.hb.sz, and_true, true_and, hR_d0_ok]
  rw [e1, e2, e3]
  refine Good.range (mid := 3) (wr := true) (kk := .u32) (vk := .b) (es := is) td33 rfl o33_at o33_op.2.1 o33_op.1 rfl (by kernel_rfl : Try.prog.underlying 53 = some (.map 41 4)) rfl fun l c hl hbo => ?_
  rw [rg_eq (f := frOf 4 Try.f4 _ hR_d0) td33 o33_op.2.2]
  refine run_vc EV_ok 1000 (tR bs is gs l c True) ?_ (fun s m h => h) (fun fs m hb => hN_good (fun _ => hN_ok h hl hbo _ _ _ (Nat.le_refl _) (Nat.lt_succ_self _)) hb)
  simp only [h.hb.sz, and_true, true_and, hN_d0_ok]
end
section
variable {cs : Array Value} {off n : Nat} {ty : TypeId}
theorem rounds (ha : ActsOk cs off n) (hn : n ≤ 300) : ∀ (m i : Nat) (bs : Array Value) (is gs : List (Int × Int)), i ≤ n → n - i < m → HInv bs is gs → Good Try.prog (isB true) 2 (hA_F off n cs ty (i : Int) bs is gs) (hA_M off n cs ty (i : Int) bs is gs) := by
  intro m
  induction m with
  | zero => intro i bs is gs _ h; omega
  | succ m ih =>
    intro i bs is gs hin hm h
    by_cases hi : i < n
    · obtain ⟨a1, a2, a3⟩ := ha i hi
      have ei : ari .add .i64 (i : Int) 1 = ((i + 1 : Nat) : Int) := by rw [ari_add, i64_in' (by omega) (by omega)]; omega
      have hC : ∀ (bs : Array Value) (is gs : List (Int × Int)), HInv bs is gs → Good Try.prog (isB true) 2 (hC_F off n cs ty (i : Int) bs is gs) (hC_M off n cs ty (i : Int) bs is gs) := by
        intro bs is gs h
        have hs := h.hb.sz
        have hlen := h.len
        have hB : ∀ (q j : Nat), j + q + 1 = (issued bs).length → Good Try.prog (isB true) 2 (hB_F off n cs ty (j : Int) (i : Int) (issued bs).length (u32s (issued bs)) bs is gs) (hB_M off n cs ty (j : Int) (i : Int) (issued bs).length (u32s (issued bs)) bs is gs) := by
          intro q
          induction q with
          | zero =>
            intro j hj
            refine past_vc EV_ok 1000 (tB_vc off n cs ty (j : Int) (i : Int) (issued bs).length (u32s (issued bs)) bs is gs (fun _ _ _ _ _ _ _ => False) (fun i' b' s' g' => i' = ((i + 1 : Nat) : Int) ∧ b' = bs ∧ s' = is ∧ g' = gs)) ?_ (fun _ _ h => h)
              (fun fs m hb => tB_go (fun _ _ _ _ _ _ _ hf => hf.elim) (fun i' b' s' g' ⟨e1, e2, e3, e4⟩ => by rw [e1, e2, e3, e4]; exact ih (i + 1) bs is gs (by omega) (by omega) h) hb)
            have hjl : j < (issued bs).length := by omega
            have hx : (u32s (issued bs))[j]? = some (.int .u32 (issued bs)[j]) := by unfold u32s; simp [hjl]
            have hg : goodB bs (issued bs)[j] = true := (issued_mem h.hb).1 (List.getElem_mem hjl)
            have hgi := h.get (issued bs)[j]
            have hle := issL_le (bs := bs) 32
            have hle : (issued bs).length ≤ 32 := hle
            have ej : ari .add .i64 (j : Int) 1 = ((j + 1 : Nat) : Int) := by rw [ari_add, i64_in' (by omega) (by omega)]; omega
            have d : decide (((j + 1 : Nat) : Int) < ((issued bs).length : Int)) = false := decide_eq_false (by omega)
            simp only [Nat.zero_add, Nat.mul_one, Int.toNat_natCast, intAt_of hx, hgi, hg, ei, ej, d, hs, Bool.not_true, Bool.not_false, beq_self_eq_true, true_implies, Bool.true_eq_false, Bool.false_eq_true, false_implies, and_true, true_and, hA_d0_ok, hB_d0_ok]
            exact ⟨⟨by omega, by omega⟩, isI_of hx, ⟨by omega, by omega⟩, isI_of hx, h.hb, (goodB_in h.hb hg).1⟩
          | succ q ihq =>
            intro j hj
            refine past_vc EV_ok 1000 (tB_vc off n cs ty (j : Int) (i : Int) (issued bs).length (u32s (issued bs)) bs is gs (fun j' i' k' r' b' s' g' => j' = ((j + 1 : Nat) : Int) ∧ i' = (i : Int) ∧ k' = (issued bs).length ∧ r' = u32s (issued bs) ∧ b' = bs ∧ s' = is ∧ g' = gs) (fun _ _ _ _ => False)) ?_ (fun _ _ h => h)
              (fun fs m hb => tB_go (fun j' i' k' r' b' s' g' ⟨e1, e2, e3, e4, e5, e6, e7⟩ => by rw [e1, e2, e3, e4, e5, e6, e7]; exact ihq (j + 1) (by omega)) (fun _ _ _ _ hf => hf.elim) hb)
            have hjl : j < (issued bs).length := by omega
            have hx : (u32s (issued bs))[j]? = some (.int .u32 (issued bs)[j]) := by unfold u32s; simp [hjl]
            have hg : goodB bs (issued bs)[j] = true := (issued_mem h.hb).1 (List.getElem_mem hjl)
            have hgi := h.get (issued bs)[j]
            have hle := issL_le (bs := bs) 32
            have hle : (issued bs).length ≤ 32 := hle
            have ej : ari .add .i64 (j : Int) 1 = ((j + 1 : Nat) : Int) := by rw [ari_add, i64_in' (by omega) (by omega)]; omega
            have d : decide (((j + 1 : Nat) : Int) < ((issued bs).length : Int)) = true := decide_eq_true (by omega)
            simp only [Nat.zero_add, Nat.mul_one, Int.toNat_natCast, intAt_of hx, hgi, hg, ei, ej, d, hs, Bool.not_true, Bool.not_false, beq_self_eq_true, true_implies, Bool.true_eq_false, Bool.false_eq_true, false_implies, and_true, true_and, hA_d0_ok, hB_d0_ok]
            exact ⟨⟨by omega, by omega⟩, isI_of hx, ⟨by omega, by omega⟩, isI_of hx, h.hb, (goodB_in h.hb hg).1⟩
        refine past_vc EV_ok 1000 (tC_vc off n cs ty (i : Int) bs is gs (fun j' i' k' r' b' s' g' => j' = ((0 : Nat) : Int) ∧ i' = (i : Int) ∧ k' = (issued bs).length ∧ r' = u32s (issued bs) ∧ b' = bs ∧ s' = is ∧ g' = gs ∧ 0 < (issued bs).length) (fun i' b' s' g' => i' = ((i + 1 : Nat) : Int) ∧ b' = bs ∧ s' = is ∧ g' = gs)) ?_ (fun _ _ h => h)
          (fun fs m hb => tC_go (fun j' i' k' r' b' s' g' ⟨e1, e2, e3, e4, e5, e6, e7, e8⟩ => by rw [e1, e2, e3, e4, e5, e6, e7]; exact hB ((issued bs).length - 1) 0 (by omega)) (fun i' b' s' g' ⟨e1, e2, e3, e4⟩ => by rw [e1, e2, e3, e4]; exact ih (i + 1) bs is gs (by omega) (by omega) h) hb)
        cases c : decide ((issued bs).length = 0) with
        | true =>
          have c0 := of_decide_eq_true c
          have d : ((0 : Int) != (gs.length : Int)) = false := by rw [hlen, c0]; rfl
          simp only [c, d, ei, hs, true_implies, Bool.true_eq_false, Bool.false_eq_true, false_implies, and_true, true_and, hA_d0_ok, hB_d0_ok]
          exact h.hb
        | false =>
          have c0 := of_decide_eq_false c
          have d : (((issued bs).length : Int) != (gs.length : Int)) = false := by rw [hlen]; simp
          have d2 : decide ((0 : Int) < ((issued bs).length : Int)) = true := decide_eq_true (by omega)
          simp only [c, d, d2, ei, hs, true_implies, Bool.true_eq_false, Bool.false_eq_true, false_implies, and_true, true_and, hA_d0_ok, hB_d0_ok]
          exact ⟨h.hb, rfl, by omega⟩
      have hE : ∀ (x : Int) (z : Bool), inH x → ((intAt cs (off + i * 2) = 1) → z = goodB bs x) → Good Try.prog (isB true) 2 (hE_F off n cs ty (i : Int) x z bs is gs) (hE_M off n cs ty (i : Int) x z bs is gs) := by
        intro x z hx hz
        have hs := h.hb.sz
        have hv := h.void x
        have hvs := hv.hb.sz
        refine past_vc EV_ok 1000 (tE_vc off n cs ty (i : Int) x z bs is gs (fun i' b' s' g' => i' = (i : Int) ∧ b' = voidB bs x ∧ s' = is ∧ g' = delI x gs)) ?_ (fun _ _ h => h)
          (fun fs m hb => tE_go (fun i' b' s' g' ⟨e1, e2, e3, e4⟩ => by rw [e1, e2, e3, e4]; exact hC _ _ _ hv) hb)
        have hg := h.get x
        have d : ((!goodB bs x == goodB bs x) == false) = true := by cases goodB bs x <;> rfl
        by_cases c : intAt cs (off + i * 2) = 1
        · have d1 : (intAt cs (off + i * 2) == 1) = true := by rw [c]; rfl
          have d2 : (!goodB bs x == z) = false := by rw [hz c]; cases goodB bs x <;> rfl
          simp only [Int.toNat_natCast, hs, hvs, hg, d, d1, d2, beqT, true_implies, Bool.true_eq_false, Bool.false_eq_true, false_implies, and_true, true_and, hC_d0_ok]
          exact ⟨⟨h.hb, hx⟩, ⟨by omega, by omega⟩, a1⟩
        · have d1 : (intAt cs (off + i * 2) == 1) = false := beq_false_of_ne c
          simp only [Int.toNat_natCast, hs, hvs, hg, d, d1, beqT, true_implies, Bool.true_eq_false, Bool.false_eq_true, false_implies, and_true, true_and, hC_d0_ok]
          exact ⟨⟨h.hb, hx⟩, ⟨by omega, by omega⟩, a1⟩
      have hD : ∀ (x : Int) (z : Bool), inH x → z = goodB bs x → Good Try.prog (isB true) 2 (hD_F off n cs ty (i : Int) x z bs is gs) (hD_M off n cs ty (i : Int) x z bs is gs) := by
        intro x z hx hz
        refine past_vc EV_ok 1000 (tD_vc off n cs ty (i : Int) x z bs is gs (fun i' x' z' b' s' g' => i' = (i : Int) ∧ b' = bs ∧ s' = is ∧ g' = gs ∧ inH x' ∧ (intAt cs (off + i * 2) = 1 → z' = goodB bs x'))) ?_ (fun _ _ h => h)
          (fun fs m hb => tD_go (fun i' x' z' b' s' g' ⟨e1, e2, e3, e4, e5, e6⟩ => by rw [e1, e2, e3, e4]; exact hE _ _ e5 e6) hb)
        by_cases c : intAt cs (off + i * 2) = 0
        · have d1 : (intAt cs (off + i * 2) == 0) = true := by rw [c]; rfl
          simp only [Int.toNat_natCast, d1, true_implies, Bool.true_eq_false, Bool.false_eq_true, false_implies, and_true, true_and, hE_d0_ok]
          exact ⟨⟨by omega, by omega⟩, a1, ⟨by omega, by omega⟩, a2, a3, fun c' => by omega⟩
        · have d1 : (intAt cs (off + i * 2) == 0) = false := beq_false_of_ne c
          simp only [Int.toNat_natCast, d1, true_implies, Bool.true_eq_false, Bool.false_eq_true, false_implies, and_true, true_and, hE_d0_ok]
          exact ⟨⟨by omega, by omega⟩, a1, hx, fun _ => hz⟩
      have hs := h.hb.sz
      have hsi := (issue_bk h.hb).sz
      refine past_vc EV_ok 1000 (tA_vc off n cs ty (i : Int) bs is gs (fun i' x' z' b' s' g' => i' = (i : Int) ∧ b' = bs ∧ s' = is ∧ g' = gs ∧ inH x' ∧ z' = goodB bs x') (fun i' b' s' g' => i' = (i : Int) ∧ HInv b' s' g') (fun _ _ _ => False)) ?_ (fun _ _ h => h)
        (fun fs m hb => tA_go (fun i' x' z' b' s' g' ⟨e1, e2, e3, e4, e5, e6⟩ => by rw [e1, e2, e3, e4]; exact hD _ _ e5 e6) (fun i' b' s' g' ⟨e1, e2⟩ => by rw [e1]; exact hC _ _ _ e2) (fun _ _ _ hf => hf.elim) hb)
      have d0 : decide ((i : Int) < (n : Int)) = true := decide_eq_true (by omega)
      cases c : decide (intAt cs (off + i * 2) > 1) with
      | true =>
        cases ho : issueOk bs with
        | true =>
          obtain ⟨f1, f2⟩ := h.fresh ho
          simp only [Int.toNat_natCast, d0, c, hs, hsi, ho, f1, f2, Bool.not_true, Bool.not_false, beq_self_eq_true, beqT, beqF, true_implies, Bool.true_eq_false, Bool.false_eq_true, false_implies, and_true, true_and, hC_d0_ok, hD_d0_ok]
          exact ⟨⟨by omega, by omega⟩, a1, h.hb, h.issue ho⟩
        | false =>
          have e0 : issueI bs = 0 := by
            rcases issue_cases (bs := bs) with ⟨_, _, e, _⟩ | ⟨_, _, _, _, _, e, _⟩
            · exact e
            · rw [ho] at e; cases e
          have f3 : (issueI bs != 0) = false := by rw [e0]; rfl
          simp only [Int.toNat_natCast, d0, c, hs, hsi, ho, f3, Bool.not_true, Bool.not_false, beq_self_eq_true, beqT, beqF, true_implies, Bool.true_eq_false, Bool.false_eq_true, false_implies, and_true, true_and, hC_d0_ok, hD_d0_ok]
          exact ⟨⟨by omega, by omega⟩, a1, h.hb, h.no ho⟩
      | false =>
        have hr : ari .rem .u32 (intAt cs (off + i * 2 + 1)) 32 = intAt cs (off + i * 2 + 1) % 32 := by
          have := a3.1
          rw [ari_rem, Int.tmod_eq_emod_of_nonneg (by omega)]
        have hw : IntKind.i64.wrap (intAt cs (off + i * 2 + 1) % 32) = intAt cs (off + i * 2 + 1) % 32 := i64_in' (by omega) (by omega)
        simp only [Int.toNat_natCast, d0, c, hs, hr, hw, true_implies, Bool.true_eq_false, Bool.false_eq_true, false_implies, and_true, true_and, hC_d0_ok, hD_d0_ok]
        refine ⟨⟨by omega, by omega⟩, a1, ⟨by omega, by omega⟩, a2, h.hb, ?_⟩
        generalize intAt cs (off + i * 2 + 1) % 32 = r
        unfold atI
        cases hk : atOk bs r with
        | true =>
          rw [if_pos rfl]
          unfold atOk at hk
          simp only [Bool.and_eq_true, decide_eq_true_eq] at hk
          obtain ⟨⟨h1, h2⟩, h3⟩ := hk
          have hg := goodB_name h.hb (i := r.toNat) (by omega)
          rw [h3, decide_eq_true rfl] at hg
          exact ⟨(goodB_in h.hb hg).1, hg.symm⟩
        | false =>
          rw [if_neg (by simp)]
          refine ⟨⟨by omega, by omega⟩, ?_⟩
          cases hg : goodB bs 0 with
          | false => rfl
          | true => have := (goodB_in h.hb hg).2; omega
    · refine past_vc EV_ok 1000 (tA_vc off n cs ty (i : Int) bs is gs (fun _ _ _ _ _ _ => False) (fun _ _ _ _ => False) (fun b' s' g' => b' = bs ∧ s' = is ∧ g' = gs)) ?_ (fun _ _ h => h)
        (fun fs m hb => tA_go (fun _ _ _ _ _ _ hf => hf.elim) (fun _ _ _ _ hf => hf.elim) (fun b' s' g' ⟨e1, e2, e3⟩ => by rw [e1, e2, e3]; exact hX_ok h) hb)
      have d0 : decide ((i : Int) < (n : Int)) = false := decide_eq_false (by omega)
      simp only [d0, true_implies, Bool.true_eq_false, Bool.false_eq_true, false_implies, and_true, true_and, hX_d0_ok]
end
end Go.Proofs.Ytnicipemkcofpaa
/- Of handle: HandleOnce: however it is called, it ends with true. No condition. -/
namespace Go.Proofs.Ytnicipemkcofpaa
set_option maxRecDepth 100000
set_option linter.unusedSimpArgs false
set_option linter.unusedVariables false
theorem aged_inv {gr : Array Value} {go gn : Nat} (hg : GensOk gr go gn) : HInv (agedB gr go gn) [] [] := by
  obtain ⟨m1, m2⟩ := min32_le (n := gn)
  exact HInv.zero (aged_bk hg m1 m2) fun i hi => aged_kind _ i hi
theorem zero_inv : HInv bkZ [] [] := by
  have hg : GensOk #[] 0 0 := fun i h => by omega
  exact HInv.zero (aged_bk (n := 0) hg (Nat.le_refl _) (Nat.zero_le _) : BkOk (agB #[] 0 0)) fun i hi => aged_kind (cs := #[]) (off := 0) 0 i hi
section
variable {go gn : Nat} {gr : Array Value} {gt : TypeId} {off n : Nat} {cs : Array Value} {ty : TypeId}
theorem once_gr (hg : GensOk gr go gn) (ha : ActsOk cs off n) : Good Try.prog (isB true) 2 [callFr 4 Try.f4.ntmps [gn1 go gn, acS off n] (Try.f4.body.getD .skip)] (mkM 2 [(0, ⟨.raw cs, ty, false⟩), (1, ⟨.raw gr, gt, false⟩)]) := by
  refine run_vc EV_ok 1000 (s1_vc go gn gr gt off n cs ty (fun i b s g => i = ((0 : Nat) : Int) ∧ b = agedB gr go gn ∧ s = [] ∧ g = [] ∧ n ≤ 300)) ?_ (fun s m h => h)
    (fun fs m hb => s1_go (fun i b s g ⟨e1, e2, e3, e4, e5⟩ => by rw [e1, e2, e3, e4]; exact rounds ha e5 (n + 1) 0 _ _ _ (by omega) (by omega) (aged_inv hg)) hb)
  have hs : (agedB gr go gn).size = 64 := agB_size _
  have hg' : ∀ i, i < gn → IsInt .u32 gr (go + i) ∧ 0 ≤ intAt gr (go + i) := hg
  by_cases c : n > 300
  · have d : decide ((n : Int) > 300) = true := decide_eq_true (by omega)
    simp only [d, beqT, beqF, Bool.not_true, Bool.not_false, true_implies, Bool.true_eq_false, Bool.false_eq_true, false_implies, and_true, true_and]
  · have d : decide ((n : Int) > 300) = false := decide_eq_false (by omega)
    simp only [d, hs, beqT, beqF, Bool.not_true, Bool.not_false, true_implies, Bool.true_eq_false, Bool.false_eq_true, false_implies, and_true, true_and, List.map_nil, hA_d0_ok]
    repeat' first | exact hg' | exact trivial | exact rfl | omega | apply And.intro | (intro _)
theorem once_er (ha : ActsOk cs off n) : Good Try.prog (isB true) 2 [callFr 4 Try.f4.ntmps [eS, acS off n] (Try.f4.body.getD .skip)] (mkM 2 [(0, ⟨.raw cs, ty, false⟩)]) := by
  refine run_vc EV_ok 1000 (s2_vc off n cs ty (fun i b s g => i = ((0 : Nat) : Int) ∧ b = bkZ ∧ s = [] ∧ g = [] ∧ n ≤ 300)) ?_ (fun s m h => h)
    (fun fs m hb => s2_go (fun i b s g ⟨e1, e2, e3, e4, e5⟩ => by rw [e1, e2, e3, e4]; exact rounds ha e5 (n + 1) 0 _ _ _ (by omega) (by omega) zero_inv) hb)
  by_cases c : n > 300
  · have d : decide ((n : Int) > 300) = true := decide_eq_true (by omega)
    simp only [d, beqT, beqF, Bool.not_true, Bool.not_false, true_implies, Bool.true_eq_false, Bool.false_eq_true, false_implies, and_true, true_and]
  · have d : decide ((n : Int) > 300) = false := decide_eq_false (by omega)
    simp only [d, beqT, beqF, Bool.not_true, Bool.not_false, true_implies, Bool.true_eq_false, Bool.false_eq_true, false_implies, and_true, true_and, List.map_nil, hA_d0_ok]
    repeat' first | exact trivial | exact rfl | omega | apply And.intro | (intro _)
theorem once_ge (hg : GensOk gr go gn) : Good Try.prog (isB true) 2 [callFr 4 Try.f4.ntmps [gn1 go gn, eS] (Try.f4.body.getD .skip)] (mkM 2 [(1, ⟨.raw gr, gt, false⟩)]) := by
  refine run_vc EW_ok 1000 (s3_vc go gn gr gt (fun b s g => b = agedB gr go gn ∧ s = [] ∧ g = [])) ?_ (fun s m h => h)
    (fun fs m hb => s3_go (fun b s g ⟨e2, e3, e4⟩ => by rw [e2, e3, e4]; exact hX_ok (aged_inv hg)) hb)
  have hs : (agedB gr go gn).size = 64 := agB_size _
  have hg' : ∀ i, i < gn → IsInt .u32 gr (go + i) ∧ 0 ≤ intAt gr (go + i) := hg
  simp only [hs, beqT, beqF, Bool.not_true, Bool.not_false, true_implies, Bool.true_eq_false, Bool.false_eq_true, false_implies, and_true, true_and, List.map_nil, hX_d0_ok]
  repeat' first | exact hg' | exact trivial | exact rfl | omega | apply And.intro | (intro _)
theorem once_ee : Good Try.prog (isB true) 2 [callFr 4 Try.f4.ntmps [eS, eS] (Try.f4.body.getD .skip)] (mkM 2 []) := by
  refine run_vc EW_ok 1000 (s4_vc (fun b s g => b = bkZ ∧ s = [] ∧ g = [])) ?_ (fun s m h => h)
    (fun fs m hb => s4_go (fun b s g ⟨e2, e3, e4⟩ => by rw [e2, e3, e4]; exact hX_ok zero_inv) hb)
  simp only [beqT, beqF, Bool.not_true, Bool.not_false, true_implies, Bool.true_eq_false, Bool.false_eq_true, false_implies, and_true, true_and, List.map_nil, hX_d0_ok]
  repeat' first | exact trivial | exact rfl | omega | apply And.intro | (intro _)
end
end Go.Proofs.Ytnicipemkcofpaa
/- How a call of data enters the symbolic machine, and how what it leaves is told; without package-level variables. No condition. -/
namespace Go.Proofs.Ytnicipemkcofpaa
noncomputable section
open Go.ChangeShapes Go.WideShapes Go.ChangeAt Go.RowKit Go.Deep

theorem own : ownKnob Try.prog.godebug = none := by kernel_rfl
theorem laidOut : laidOutB Try.prog = true := by kernel_rfl
theorem sub_get {l : List Value} {a b o : Nat} {v : Value} (h : ((l.drop a).take b)[o]? = some v) : l[a + o]? = some v := by
  rw [List.getElem?_take] at h
  split at h
  · rw [List.getElem?_drop] at h; exact h
  · cases h
theorem sub_one {l : List Value} {a b : Nat} {v : Value} (h : (l.drop a).take b = [v]) : l[a]? = some v := by
  have : ((l.drop a).take b)[0]? = some v := by rw [h]; rfl
  exact sub_get this
section
variable {H : Type} {enc : TypeId × Value → H} {P : Program} {w : World} {base : Nat} {spare : Nat → Bool} {held : Bool}
theorem field_of {t : TypeId} {fs : Array Field} {fuel : Nat} {cs : List Value} {x : DataW H × List MemPlace} (ht : P.underlying t = some (.struct fs)) (h : DataW.trod enc P w base spare held fuel t cs = some x)
    (i : Nat) {f : Field} (hf : fs[i]? = some f) : ∃ n y, DataW.trod enc P w base spare held n f.type ((cs.drop f.offset).take (P.cellsOf f.type)) = some y := by
  obtain ⟨ys, n, _, _, _, hyl, hg⟩ := DataW.trod_struct ht h
  have hlt : i < fs.size := (Array.getElem?_eq_some_iff.1 hf).1
  have hys : ys[i]? = some (ys[i]'(by omega)) := List.getElem?_eq_getElem (by omega)
  exact ⟨n, _, (hg i f hf).trans hys⟩
theorem add_none (b off n : Nat) : (⟨b, off, none⟩ : Addr).add n = ⟨b, off + n, none⟩ := by
  unfold Addr.add
  split
  · rename_i e; subst e; rfl
  · rfl
/-- A slice that came in: where it lies, and each element as it reads. -/
theorem slice_cells {t e : TypeId} {base' C : Nat} {fuel : Nat} {A : Option Addr} {len cap : Nat} {x : DataW H × List MemPlace} (ht : P.underlying t = some (.slice e)) (hC : P.cellsOf e = C)
    (hok : Value.okWide P w .any base t (.slice A len cap)) (h : DataW.trod enc P w base' (fun _ => true) held fuel t [.slice A len cap] = some x) :
    (A = none ∧ len = 0 ∧ cap = 0) ∨ ∃ b off cs ty fz, A = some ⟨b, off, none⟩ ∧ len ≤ cap ∧ cap ≤ maxLen ∧ w.heap[b]? = some (.cells cs ty fz) ∧
      ∀ j, j < len → ∃ n y, DataW.trod enc P w base' (fun _ => true) held n e ((cs.toList.drop (off + j * C)).take C) = some y := by
  rcases open_slice ht h with ⟨hcs, hx⟩ | ⟨a, len', cap', m, n, D, Pl, hcs, _, hl, hmx, hm, hx, hi⟩
  · simp at hcs
    exact .inl hcs
  · simp at hcs
    obtain ⟨rfl, rfl, rfl⟩ := hcs
    simp at hm
    subst hm
    obtain ⟨b, off, spot⟩ := a
    simp only [Value.okWide, ht, Cell.okWide, Cell.ok] at hok
    obtain ⟨_, _, _, hs, _, _, hsh, _⟩ := hok
    have hs : spot = none := hs
    subst hs
    cases ho : w.heap[b]? with
    | none => simp [World.shape?, ho] at hsh
    | some o =>
      have hcells : ∃ cs ty fz, o = .cells cs ty fz := by
        cases o <;> first | exact ⟨_, _, _, rfl⟩ | simp [World.shape?, ho] at hsh
      obtain ⟨cs, ty, fz, rfl⟩ := hcells
      refine .inr ⟨b, off, cs, ty, fz, rfl, hl, hmx, ho, fun j hj => ?_⟩
      obtain ⟨cs', hc, ht'⟩ := hi j (by omega)
      rw [hC] at hc
      obtain ⟨_, hcl, hat⟩ := World.cells?_some hc
      refine ⟨n, (D j, Pl j), ?_⟩
      rw [← ht']
      congr 1
      apply List.ext_getElem?
      intro i
      rw [List.getElem?_take]
      by_cases hi' : i < C
      · rw [if_pos hi', ← hat i hi', add_none, add_none]
        simp [World.cell?, ho, Nat.add_assoc]
      · rw [if_neg hi', List.getElem?_eq_none (by omega)]
theorem post_of_below {f : Func} {s : ChangeSpec} {apart fresh handsOn again : Bool} {W W' : World} {args : Array Value} {v : Value} {ds gs : List (DataW H)} {before pa pv : List MemPlace}
    (hW : DataW.Whole enc P f.params.toList s.vars apart W args.toList ds gs before)
    (hres : ∀ (b : Nat) (sp : Nat → Bool) (hd : Bool), DataW.TrodAll enc P W' b sp hd f.resultTypes.toList (v.resultList f.resultTypes.size) (s.fn H (ds ++ gs)).results [])
    (hargs : ∀ sp : Nat → Bool, (∀ p ∈ before, sp p.block = true) → DataW.TrodAll enc P W' 0 sp true f.params.toList args.toList (s.fn H (ds ++ gs)).args pa)
    (hvars : ∀ sp : Nat → Bool, (∀ p ∈ before, sp p.block = true) → DataW.TrodVars enc P W' sp s.vars (s.fn H (ds ++ gs)).vars pv)
    (hps : before = pa ++ pv) (hb : Below W.heap.size W W')
    (hok : ∀ (j : Nat) (t : TypeId) (r : Value), f.resultTypes[j]? = some t → (v.resultList f.resultTypes.size)[j]? = some r → Value.okWide P W' .any 0 t r) :
    s.post enc P f apart fresh handsOn again W args v W' := by
  have hlt : ∀ p ∈ before, p.block < W.heap.size := fun p hp => hW.lt p hp
  have hold : ∀ p ∈ before, (fun b => decide (b < W.heap.size)) p.block = true := fun p hp => by simpa using hlt p hp
  refine ⟨ds, gs, before, [], pa, pv, hW, hres _ _ _, hargs _ hold, hvars _ hold, World.keptBut_mono (fun p hp => ⟨hp, ?_⟩) (hb.frame (· ∈ before)), fun _ => ?_⟩
  · rw [hps, List.mem_append] at hp
    exact Or.inr hp
  · obtain ⟨_, _, _, _, _, hz, hn⟩ := hW
    refine ⟨hok, _, _, ([] ++ pa) ++ pv, ⟨[] ++ pa, pv, trodAll_append (hargs _ (fun _ _ => rfl)) (hres _ _ _), hvars _ (fun _ _ => rfl), rfl, ?_, ?_⟩, ?_⟩
    · intro b off hp
      have hin : MemPlace.cell b off ∈ before := by rw [hps]; simpa using hp
      rw [hb.frozen (hlt _ hin)]
      exact hz b off hin
    · intro ha
      have := hn ha
      rw [hps] at this
      simpa using this
    · intro p hp _
      rw [hps]
      simpa using hp
end
theorem below_of {n0 : Nat} {w0 w : World} (h : BelowF n0 (fun _ => False) w0 w) : Below n0 w0 w := ⟨h.os, h.tape, h.output, h.size, fun k hk => h.block k hk fun x => x⟩
theorem rel_empty (hg : glTab = []) (W : World) (n : Nat) : Rel W.heap.size (fun _ => False) W (fun _ => none) ⟨n, .nil, []⟩ W :=
  ⟨fun _ _ _ _ _ _ h => by (cases h), fun _ _ h => by (cases h), fun _ _ h => by (cases h), fun i b h => by (have h : (Tr.nil : Tr SBlk).get i = some b := h; rw [Tr.get_nil] at h; cases h), Nat.le_refl _, BelowF.refl _ _ _,
    fun _ _ h => by (cases h), fun _ _ _ _ _ _ h => by (cases h), fun g cs h => by rw [hg] at h; cases h⟩
/-- One block came in, at which nothing is written. -/
def oneD (ds : Array Value) (ty : TypeId) : SMem := ⟨1, Tr.node .nil (some ⟨.raw ds, ty, false⟩) .nil, []⟩
theorem one_get {ds : Array Value} {ty : TypeId} {i : Nat} {b : SBlk} (h : getB (oneD ds ty).bl i = some b) : i = 0 ∧ b = ⟨.raw ds, ty, false⟩ := by
  unfold getB oneD at h
  cases i with
  | zero => cases h; exact ⟨rfl, rfl⟩
  | succ i =>
    rw [Tr.get_succ, Tr.get_nil, ite_self] at h
    cases h
theorem rel_one (hg : glTab = []) {W : World} {b : Nat} {cs : Array Value} {ty : TypeId} {fz : Nat × Nat} (hb : W.heap[b]? = some (.cells cs ty fz)) :
    Rel W.heap.size (fun _ => False) W (fun i => if i = 0 then some ⟨b, cs.size⟩ else none) (oneD cs ty) W := by
  have key : ∀ {i : Nat} {g : Loc}, (if i = 0 then some (⟨b, cs.size⟩ : Loc) else none) = some g → i = 0 ∧ g = ⟨b, cs.size⟩ := by
    intro i g h
    split at h
    · rename_i e; cases h; exact ⟨e, rfl⟩
    · cases h
  have hlt : b < W.heap.size := (Array.getElem?_eq_some_iff.1 hb).1
  refine ⟨fun i j g h b c h1 h2 _ _ _ _ => by rw [(key h1).1, (key h2).1], fun i g h => by rw [(key h).2]; exact hlt, fun i g h => by rw [(key h).1]; exact Nat.zero_lt_one, fun i c hc => ?_, Nat.le_refl _, BelowF.refl _ _ _,
    fun _ _ h => by (cases h), fun _ _ _ _ _ _ _ _ _ h => by (cases h), fun g cs h => by rw [hg] at h; cases h⟩
  obtain ⟨rfl, rfl⟩ := one_get hc
  exact ⟨⟨b, cs.size⟩, cs, fz, rfl, hb, rfl, rfl, fun h => by cases h⟩
end
end Go.Proofs.Ytnicipemkcofpaa
