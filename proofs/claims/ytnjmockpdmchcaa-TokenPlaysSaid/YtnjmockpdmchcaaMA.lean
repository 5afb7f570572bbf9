/- Of handle: a book's slots, as numbers. No condition. -/
import Derived.Test.YtnjmockpdmchcaaE1
import Derived.Test.YtnjmockpdmchcaaK24
import Derived.IntWalk
import Derived.Test.YtnjmockpdmchcaaK23
import Derived.Test.YtnjmockpdmchcaaK14b
import Derived.Test.YtnjmockpdmchcaaK27
set_option linter.unusedVariables false
set_option linter.unusedSimpArgs false
namespace Go.Proofs.Ytnjmockpdmchcaa
set_option maxRecDepth 100000
def ageAt (bs : Array Value) (i : Nat) : Int := intAt bs (i * 2)
def kindAt (bs : Array Value) (i : Nat) : Int := intAt bs (i * 2 + 1)
structure BkOk (bs : Array Value) : Prop where
  sz : bs.size = 64
  a : ∀ i, i < 32 → IsInt .u32 bs (i * 2)
  k : ∀ i, i < 32 → IsInt .u8 bs (i * 2 + 1)
  ra : ∀ i, i < 32 → 0 ≤ ageAt bs i ∧ ageAt bs i ≤ 8388607
  rk : ∀ i, i < 32 → 0 ≤ kindAt bs i ∧ kindAt bs i ≤ 2
def nameI (i : Nat) (a : Int) : Int := 256 * a + i + 1
def slotOk (h : Int) : Bool := decide (h ≠ 0 ∧ (h - 1) % 256 < 32 ∧ (h - 1) / 256 ≤ 8388607)
def slotI (h : Int) : Int := if slotOk h = true then (h - 1) % 256 else 0
def goodB (bs : Array Value) (h : Int) : Bool := slotOk h && (decide (ageAt bs (slotI h).toNat = (h - 1) / 256) && decide (kindAt bs (slotI h).toNat = 1))
def atOk (bs : Array Value) (i : Int) : Bool := decide (0 ≤ i ∧ i < 32) && decide (kindAt bs i.toNat = 1)
def atI (bs : Array Value) (i : Int) : Int := if atOk bs i = true then nameI i.toNat (ageAt bs i.toNat) else 0
def inH (h : Int) : Prop := 0 ≤ h ∧ h < 4294967296
def voidS (bs : Array Value) (i : Nat) : Array Value := if ageAt bs i = 8388607 then bs.setIfInBounds (i * 2 + 1) (.int .u8 2) else putAt bs (i * 2) [.int .u32 (ageAt bs i + 1), .int .u8 0]
def voidB (bs : Array Value) (h : Int) : Array Value := if goodB bs h = true then voidS bs (slotI h).toNat else bs
def freeFrom (bs : Array Value) : Nat → Nat → Option Nat
  | 0, _ => none
  | k + 1, i => if kindAt bs i = 0 then some i else freeFrom bs k (i + 1)
def freeS (bs : Array Value) : Option Nat := freeFrom bs 32 0
def issueB (bs : Array Value) : Array Value := match freeS bs with
  | some i => bs.setIfInBounds (i * 2 + 1) (.int .u8 1)
  | none => bs
def issueI (bs : Array Value) : Int := match freeS bs with
  | some i => nameI i (ageAt bs i)
  | none => 0
def issueOk (bs : Array Value) : Bool := (freeS bs).isSome
theorem slotI_lt {h : Int} (hh : inH h) : 0 ≤ slotI h ∧ slotI h < 32 := by
  unfold slotI
  split
  · rename_i e
    unfold slotOk at e
    have := of_decide_eq_true e
    have := hh.1
    omega
  · omega
theorem u32_in {t : Int} (h1 : 0 ≤ t) (h2 : t < 4294967296) : IntKind.u32.wrap t = t := by
  unfold IntKind.wrap
  simp only [IntKind.signed, IntKind.bits]
  exact Int.emod_eq_of_lt h1 (by omega)
theorem i64_in' {t : Int} (h1 : -9223372036854775808 ≤ t) (h2 : t ≤ 9223372036854775807) : IntKind.i64.wrap t = t := Go.IntWalk.i64_in _ (by omega)
noncomputable section
def u32 (n : Int) : SV := .s (.c (.f (.int .u32 (.o n))))
def bkS (bs : Array Value) : SV := .s (.agg (.op bs))
def ibT (x : Int) (b : Bool) : SV := .tup [.c (.f (.int .i64 (.o x))), .c (.f (.bool (.o b)))]
def hbT (x : Int) (b : Bool) : SV := .tup [.c (.f (.int .u32 (.o x))), .c (.f (.bool (.o b)))]
def bbT (bs : Array Value) (b : Bool) : SV := .tup [.agg (.op bs), .c (.f (.bool (.o b)))]
def bhbT (bs : Array Value) (x : Int) (b : Bool) : SV := .tup [.agg (.op bs), .c (.f (.int .u32 (.o x))), .c (.f (.bool (.o b)))]
def e0M : SMem := ⟨0, .nil, []⟩
end
end Go.Proofs.Ytnjmockpdmchcaa
/- Of handle: Slot, Good, At, Void, as propositions. No condition. -/
namespace Go.Proofs.Ytnjmockpdmchcaa
set_option maxRecDepth 100000
theorem slot_run (h x : Int) (b : Bool) : (run E0 1000 0 [callFr 35 Try.f35.ntmps [u32 h] (Try.f35.body.getD .skip)] e0M).vc (retOk 0 [] (ibT x b) e0M) (fun _ _ => False) =
    ((((h == (0 : Int)) == false) = true → ((decide (ari BinOp.rem IntKind.u32 (ari BinOp.sub IntKind.u32 h (1 : Int)) (256 : Int) ≥ (32 : Int)) == false) = true → (decide (ari BinOp.quo IntKind.u32 (ari BinOp.sub IntKind.u32 h (1 : Int)) (256 : Int) > (8388607 : Int)) = true → x = (0 : Int) ∧ b = false ∧ True) ∧ (decide (ari BinOp.quo IntKind.u32 (ari BinOp.sub IntKind.u32 h (1 : Int)) (256 : Int) > (8388607 : Int)) = false → x = IntKind.wrap IntKind.i64 (ari BinOp.rem IntKind.u32 (ari BinOp.sub IntKind.u32 h (1 : Int)) (256 : Int)) ∧ b = true ∧ True)) ∧ ((decide (ari BinOp.rem IntKind.u32 (ari BinOp.sub IntKind.u32 h (1 : Int)) (256 : Int) ≥ (32 : Int)) == false) = false → x = (0 : Int) ∧ b = false ∧ True)) ∧ (((h == (0 : Int)) == false) = false → x = (0 : Int) ∧ b = false ∧ True)) := by kernel_rfl
theorem good_run (bs : Array Value) (h : Int) (b : Bool) : (run E0 1000 0 [callFr 25 Try.f25.ntmps [bkS bs, u32 h] (Try.f25.body.getD .skip)] e0M).vc (retOk 0 [] (sB (.o b)) e0M) (fun _ _ => False) =
    ((((h == (0 : Int)) == false) = true → ((decide (ari BinOp.rem IntKind.u32 (ari BinOp.sub IntKind.u32 h (1 : Int)) (256 : Int) ≥ (32 : Int)) == false) = true → (decide (ari BinOp.quo IntKind.u32 (ari BinOp.sub IntKind.u32 h (1 : Int)) (256 : Int) > (8388607 : Int)) = true → b = false ∧ True) ∧ (decide (ari BinOp.quo IntKind.u32 (ari BinOp.sub IntKind.u32 h (1 : Int)) (256 : Int) > (8388607 : Int)) = false → (((0 : Int) ≤ IntKind.wrap IntKind.i64 (ari BinOp.rem IntKind.u32 (ari BinOp.sub IntKind.u32 h (1 : Int)) (256 : Int)) ∧ IntKind.wrap IntKind.i64 (ari BinOp.rem IntKind.u32 (ari BinOp.sub IntKind.u32 h (1 : Int)) (256 : Int)) < (32 : Int)) ∧ True) ∧ (IsInt IntKind.u32 bs ((0 : Nat) + Int.toNat (IntKind.wrap IntKind.i64 (ari BinOp.rem IntKind.u32 (ari BinOp.sub IntKind.u32 h (1 : Int)) (256 : Int))) * 2) ∧ IsInt IntKind.u8 bs ((0 : Nat) + Int.toNat (IntKind.wrap IntKind.i64 (ari BinOp.rem IntKind.u32 (ari BinOp.sub IntKind.u32 h (1 : Int)) (256 : Int))) * 2 + 1) ∧ True) ∧ b = (intAt bs ((0 : Nat) + Int.toNat (IntKind.wrap IntKind.i64 (ari BinOp.rem IntKind.u32 (ari BinOp.sub IntKind.u32 h (1 : Int)) (256 : Int))) * 2) == ari BinOp.quo IntKind.u32 (ari BinOp.sub IntKind.u32 h (1 : Int)) (256 : Int) && intAt bs ((0 : Nat) + Int.toNat (IntKind.wrap IntKind.i64 (ari BinOp.rem IntKind.u32 (ari BinOp.sub IntKind.u32 h (1 : Int)) (256 : Int))) * 2 + 1) == (1 : Int)) ∧ True)) ∧ ((decide (ari BinOp.rem IntKind.u32 (ari BinOp.sub IntKind.u32 h (1 : Int)) (256 : Int) ≥ (32 : Int)) == false) = false → b = false ∧ True)) ∧ (((h == (0 : Int)) == false) = false → b = false ∧ True)) := by kernel_rfl
theorem at_run (bs : Array Value) (i x : Int) (b : Bool) : (run E0 1000 0 [callFr 43 Try.f43.ntmps [bkS bs, i64 (.o i)] (Try.f43.body.getD .skip)] e0M).vc (retOk 0 [] (hbT x b) e0M) (fun _ _ => False) =
    (((decide (i < (0 : Int)) == false) = true → ((decide (i ≥ (32 : Int)) == false) = true → (((0 : Int) ≤ i ∧ i < (32 : Int)) ∧ True) ∧ (IsInt IntKind.u8 bs ((0 : Nat) + Int.toNat i * 2 + 1) ∧ True) ∧ ((intAt bs ((0 : Nat) + Int.toNat i * 2 + 1) != (1 : Int)) = true → x = (0 : Int) ∧ b = false ∧ True) ∧ ((intAt bs ((0 : Nat) + Int.toNat i * 2 + 1) != (1 : Int)) = false → (((0 : Int) ≤ i ∧ i < (32 : Int)) ∧ True) ∧ (IsInt IntKind.u32 bs ((0 : Nat) + Int.toNat i * 2) ∧ True) ∧ x = ari BinOp.add IntKind.u32 (ari BinOp.add IntKind.u32 (ari BinOp.mul IntKind.u32 (256 : Int) (intAt bs ((0 : Nat) + Int.toNat i * 2))) (IntKind.wrap IntKind.u32 i)) (1 : Int) ∧ b = true ∧ True)) ∧ ((decide (i ≥ (32 : Int)) == false) = false → x = (0 : Int) ∧ b = false ∧ True)) ∧ ((decide (i < (0 : Int)) == false) = false → x = (0 : Int) ∧ b = false ∧ True)) := by kernel_rfl
end Go.Proofs.Ytnjmockpdmchcaa
/- Of handle: the contracts of Slot, Good, At. No condition. -/
namespace Go.Proofs.Ytnjmockpdmchcaa
set_option maxRecDepth 100000
set_option linter.unusedSimpArgs false
theorem sub_h {h : Int} (hh : inH h) (h0 : h ≠ 0) : ari .sub .u32 h 1 = h - 1 ∧ ari .rem .u32 (h - 1) 256 = (h - 1) % 256 ∧ ari .quo .u32 (h - 1) 256 = (h - 1) / 256 := by
  have h1 := hh.1
  have h2 := hh.2
  refine ⟨by rw [ari_sub, u32_in (by omega) (by omega)], by rw [ari_rem, Int.tmod_eq_emod_of_nonneg (by omega)], ?_⟩
  rw [ari_quo, Int.tdiv_eq_ediv_of_nonneg (by omega), u32_in (by omega) (by omega)]
section
variable {bs : Array Value}
theorem slot_con (h : Int) (m : SMem) : Con E0 35 [u32 h] m (needs [inH h] (.ret (ibT (slotI h) (slotOk h)) m)) := by
  refine Con.pure E0_ok (by kernel_rfl : E0.fn 35 = some Try.f35) (by kernel_rfl : Try.f35.body = some (Try.f35.body.getD .skip)) (by kernel_rfl) (by kernel_rfl) fun hq => ?_
  have hh : inH h := hq _ (by simp)
  refine (Good.ret [] (run_vc E0_ok 1000 (slot_run h (slotI h) (slotOk h)) ?_ (fun s m h => h) fun _ _ h => h.elim)).mono fun _ _ h => h.1
  have h1 := hh.1
  have h2 := hh.2
  by_cases h0 : h = 0
  · have d : (h == 0) = true := by rw [h0]; rfl
    have e : slotOk h = false := decide_eq_false (fun k => k.1 h0)
    simp only [d, e, slotI, beqT, beqF, Bool.not_true, Bool.not_false, true_implies, Bool.true_eq_false, Bool.false_eq_true, false_implies, if_false, and_true, true_and]
  · have d : (h == 0) = false := by simpa using h0
    obtain ⟨e1, e2, e3⟩ := sub_h hh h0
    by_cases c1 : (h - 1) % 256 ≥ 32
    · have d1 : decide ((h - 1) % 256 ≥ 32) = true := decide_eq_true c1
      have e : slotOk h = false := decide_eq_false (fun k => by omega)
      simp only [d, d1, e, e1, e2, e3, slotI, beqT, beqF, Bool.not_true, Bool.not_false, true_implies, Bool.true_eq_false, Bool.false_eq_true, false_implies, if_false, and_true, true_and]
    · have d1 : decide ((h - 1) % 256 ≥ 32) = false := decide_eq_false c1
      by_cases c2 : (h - 1) / 256 > 8388607
      · have d2 : decide ((h - 1) / 256 > 8388607) = true := decide_eq_true c2
        have e : slotOk h = false := decide_eq_false (fun k => by omega)
        simp only [d, d1, d2, e, e1, e2, e3, slotI, beqT, beqF, Bool.not_true, Bool.not_false, true_implies, Bool.true_eq_false, Bool.false_eq_true, false_implies, if_false, and_true, true_and]
      · have d2 : decide ((h - 1) / 256 > 8388607) = false := decide_eq_false c2
        have e : slotOk h = true := decide_eq_true ⟨h0, by omega, by omega⟩
        simp only [d, d1, d2, e, e1, e2, e3, slotI, beqT, beqF, Bool.not_true, Bool.not_false, true_implies, Bool.true_eq_false, Bool.false_eq_true, false_implies, if_true, and_true, true_and]
        exact (i64_in' (by omega) (by omega)).symm
theorem good_con (h : Int) (m : SMem) : Con E0 25 [bkS bs, u32 h] m (needs [BkOk bs, inH h] (.ret (sB (.o (goodB bs h))) m)) := by
  refine Con.pure E0_ok (by kernel_rfl : E0.fn 25 = some Try.f25) (by kernel_rfl : Try.f25.body = some (Try.f25.body.getD .skip)) (by kernel_rfl) (by kernel_rfl) fun hq => ?_
  have hb : BkOk bs := hq _ (by simp)
  have hh : inH h := hq _ (by simp)
  refine (Good.ret [] (run_vc E0_ok 1000 (good_run bs h (goodB bs h)) ?_ (fun s m h => h) fun _ _ h => h.elim)).mono fun _ _ h => h.1
  have h1 := hh.1
  have h2 := hh.2
  by_cases h0 : h = 0
  · have d : (h == 0) = true := by rw [h0]; rfl
    have e : slotOk h = false := decide_eq_false (fun k => k.1 h0)
    simp only [d, e, goodB, Bool.false_and, beqT, beqF, Bool.not_true, Bool.not_false, true_implies, Bool.true_eq_false, Bool.false_eq_true, false_implies, if_false, and_true, true_and]
  · have d : (h == 0) = false := by simpa using h0
    obtain ⟨e1, e2, e3⟩ := sub_h hh h0
    by_cases c1 : (h - 1) % 256 ≥ 32
    · have d1 : decide ((h - 1) % 256 ≥ 32) = true := decide_eq_true c1
      have e : slotOk h = false := decide_eq_false (fun k => by omega)
      simp only [d, d1, e, e1, e2, e3, goodB, Bool.false_and, beqT, beqF, Bool.not_true, Bool.not_false, true_implies, Bool.true_eq_false, Bool.false_eq_true, false_implies, if_false, and_true, true_and]
    · have d1 : decide ((h - 1) % 256 ≥ 32) = false := decide_eq_false c1
      by_cases c2 : (h - 1) / 256 > 8388607
      · have d2 : decide ((h - 1) / 256 > 8388607) = true := decide_eq_true c2
        have e : slotOk h = false := decide_eq_false (fun k => by omega)
        simp only [d, d1, d2, e, e1, e2, e3, goodB, Bool.false_and, beqT, beqF, Bool.not_true, Bool.not_false, true_implies, Bool.true_eq_false, Bool.false_eq_true, false_implies, if_false, and_true, true_and]
      · have d2 : decide ((h - 1) / 256 > 8388607) = false := decide_eq_false c2
        have e : slotOk h = true := decide_eq_true ⟨h0, by omega, by omega⟩
        have es : slotI h = (h - 1) % 256 := by unfold slotI; rw [if_pos e]
        have ew : IntKind.i64.wrap ((h - 1) % 256) = (h - 1) % 256 := i64_in' (by omega) (by omega)
        have hlt : ((h - 1) % 256).toNat < 32 := by omega
        simp only [d, d1, d2, e, e1, e2, e3, ew, es, goodB, Nat.zero_add, Bool.true_and, beqT, beqF, Bool.not_true, Bool.not_false, true_implies, Bool.true_eq_false, Bool.false_eq_true, false_implies, if_true, and_true, true_and]
        refine ⟨by omega, ⟨hb.a _ hlt, hb.k _ hlt⟩, ?_⟩
        unfold ageAt kindAt
        rw [Bool.eq_iff_iff]
        simp
theorem nameI_run {i : Nat} {a : Int} (hi : i < 32) (ha : 0 ≤ a ∧ a ≤ 8388607) : ari .add .u32 (ari .add .u32 (ari .mul .u32 256 a) (IntKind.u32.wrap (i : Int))) 1 = nameI i a := by
  have e1 : ari .mul .u32 256 a = 256 * a := by rw [ari_mul]; exact u32_in (by omega) (by omega)
  have e2 : IntKind.u32.wrap (i : Int) = i := u32_in (by omega) (by omega)
  rw [e1, e2, ari_add, ari_add, u32_in (t := 256 * a + i) (by omega) (by omega), u32_in (by omega) (by omega)]
  rfl
theorem at_con (i : Int) (m : SMem) : Con E0 43 [bkS bs, i64 (.o i)] m (needs [BkOk bs] (.ret (hbT (atI bs i) (atOk bs i)) m)) := by
  refine Con.pure E0_ok (by kernel_rfl : E0.fn 43 = some Try.f43) (by kernel_rfl : Try.f43.body = some (Try.f43.body.getD .skip)) (by kernel_rfl) (by kernel_rfl) fun hq => ?_
  have hb : BkOk bs := hq _ (by simp)
  refine (Good.ret [] (run_vc E0_ok 1000 (at_run bs i (atI bs i) (atOk bs i)) ?_ (fun s m h => h) fun _ _ h => h.elim)).mono fun _ _ h => h.1
  by_cases c1 : i < 0
  · have d1 : decide (i < 0) = true := decide_eq_true c1
    have e : atOk bs i = false := by unfold atOk; rw [decide_eq_false (by omega)]; rfl
    simp only [d1, e, atI, beqT, beqF, Bool.not_true, Bool.not_false, true_implies, Bool.true_eq_false, Bool.false_eq_true, false_implies, if_false, and_true, true_and]
  · have d1 : decide (i < 0) = false := decide_eq_false c1
    by_cases c2 : i ≥ 32
    · have d2 : decide (i ≥ 32) = true := decide_eq_true c2
      have e : atOk bs i = false := by unfold atOk; rw [decide_eq_false (by omega)]; rfl
      simp only [d1, d2, e, atI, beqT, beqF, Bool.not_true, Bool.not_false, true_implies, Bool.true_eq_false, Bool.false_eq_true, false_implies, if_false, and_true, true_and]
    · have d2 : decide (i ≥ 32) = false := decide_eq_false c2
      obtain ⟨k, rfl⟩ : ∃ k : Nat, i = (k : Int) := ⟨i.toNat, by omega⟩
      have hk : k < 32 := by omega
      have ek : atOk bs (k : Int) = decide (kindAt bs k = 1) := by unfold atOk; rw [decide_eq_true (by omega), Bool.true_and, Int.toNat_natCast]
      by_cases c3 : kindAt bs k = 1
      · have d3 : (intAt bs (k * 2 + 1) != 1) = false := by
          have c3 : intAt bs (k * 2 + 1) = 1 := c3
          rw [c3]; rfl
        have en := nameI_run hk (hb.ra k hk)
        unfold ageAt at en
        rw [decide_eq_true c3] at ek
        simp only [d1, d2, d3, ek, atI, Nat.zero_add, Int.toNat_natCast, en, beqT, beqF, Bool.not_true, Bool.not_false, true_implies, Bool.true_eq_false, Bool.false_eq_true, false_implies, if_true, and_true, true_and]
        exact ⟨by omega, hb.k k hk, by omega, hb.a k hk, rfl⟩
      · have d3 : (intAt bs (k * 2 + 1) != 1) = true := by
          have c3 : ¬ intAt bs (k * 2 + 1) = 1 := c3
          simpa using c3
        rw [decide_eq_false c3] at ek
        simp only [d1, d2, d3, ek, atI, Nat.zero_add, Int.toNat_natCast, beqT, beqF, Bool.not_true, Bool.not_false, true_implies, Bool.true_eq_false, Bool.false_eq_true, false_implies, if_false, and_true, true_and]
        exact ⟨by omega, hb.k k hk⟩
end
end Go.Proofs.Ytnjmockpdmchcaa
/- Of handle: Void, Issue, Issued: their states. No condition. -/
namespace Go.Proofs.Ytnjmockpdmchcaa
set_option linter.unusedVariables false
theorem Con.args {E : Env} {f : FuncId} {l l' : List SV} {m : SMem} {t : Tree} (h : ∀ R vs, All2 (SV.ok R) l vs → All2 (SV.ok R) l' vs) (hc : Con E f l' m t) : Con E f l m t := by
 intro A hs
 obtain ⟨fn, h1, h2, h3⟩ := hc A hs
 exact ⟨fn, h1, h2, fun n0 F w0 w R args hl hR => h3 n0 F w0 w R args (h R _ hl) hR⟩
theorem Con.asked {E : Env} {g : FuncId} {l : List SV} {m : SMem} {q : List Prop} {t : Tree} (h : (∀ p ∈ q, p) → Con E g l m t) : Con E g l m (.need q t) := by
 intro A hs
 exact h hs.1 A hs.2
noncomputable def conH1 (g : FuncId) (l : List SV) (m : SMem) : Option Tree := match g, l with
  | 35, [.s (.c (.f (.int .u32 h)))] => some (.need [inH h.den] (.ret (ibT (slotI h.den) (slotOk h.den)) m))
  | 25, [.s (.agg (.op bs)), .s (.c (.f (.int .u32 h)))] => some (.need [BkOk bs, inH h.den] (.ret (sB (.o (goodB bs h.den))) m))
  | 43, [.s (.agg (.op bs)), .s (.c (.f (.int .i64 i)))] => some (.need [BkOk bs] (.ret (hbT (atI bs i.den) (atOk bs i.den)) m))
  | _, _ => none
noncomputable def EH : Env := ⟨Try.prog, fnOf, conH1, haltAt [34002, 29003]⟩
noncomputable def hI_d0 : List SIt := sekF Try.f34 2
noncomputable def hI_F (bs : Array Value) (i : Int) (zz : Array Value) : List SFr := [frOf 34 Try.f34 [(1, ptr 0 (.l 0)), (2, ptr 1 (.l 0)), (3, .s (.c (.f (.int .u32 (.l 0))))), (6, i64 (.o i))] hI_d0]
noncomputable def hI_M (bs : Array Value) (i : Int) (zz : Array Value) : SMem := mkM 2 [(0, ⟨.op bs, 29, true⟩), (1, ⟨.op zz, 29, true⟩)]
noncomputable def hI_n (bs : Array Value) (Q : Int → Array Value → Prop) (fs : List SFr) (m : SMem) : Prop := (match frNth fs 0 with | some f0 => (match rdI f0 6 with | some i => (match rdP f0 1 with | some p0 => (match rdP f0 2 with | some p1 => (match rdA m p1 with | some zz => Q i zz ∧ subOk 0 [(0, p0), (1, p1)] (hI_F bs i zz) (hI_M bs i zz) fs m | none => False) | none => False) | none => False) | none => False) | none => False)
noncomputable def hZ_d0 : List SIt := sekF Try.f29 3
noncomputable def hZ_F (bs : Array Value) (i : Int) : List SFr := [frOf 29 Try.f29 [(1, ptr 0 (.l 0)), (3, .s (.c (.f (.lit (.slice none 0 0))))), (7, i64 (.o i))] hZ_d0]
noncomputable def hZ_M (bs : Array Value) (i : Int) : SMem := mkM 1 [(0, ⟨.op bs, 29, true⟩)]
noncomputable def hZ_n (bs : Array Value) (Q : Int → Prop) (fs : List SFr) (m : SMem) : Prop := (match frNth fs 0 with | some f0 => (match rdI f0 7 with | some i => (match rdP f0 1 with | some p0 => Q i ∧ subOk 0 [(0, p0)] (hZ_F bs i) (hZ_M bs i) fs m | none => False) | none => False) | none => False)
noncomputable def hS_d0 : List SIt := sekF Try.f29 3
noncomputable def hS_F (bs : Array Value) (i : Int) (k : Nat) (cs : Array Value) : List SFr := [frOf 29 Try.f29 [(1, ptr 0 (.l 0)), (3, .s (.c (.f (.slice 1 (.l 0) (.o k) (.full 1))))), (7, i64 (.o i))] hS_d0]
noncomputable def hS_M (bs : Array Value) (i : Int) (k : Nat) (cs : Array Value) : SMem := mkM 2 [(0, ⟨.op bs, 29, true⟩), (1, ⟨.pop cs, 30, true⟩)]
noncomputable def hS_n (bs : Array Value) (Q : Int → Nat → Array Value → Prop) (fs : List SFr) (m : SMem) : Prop := (match frNth fs 0 with | some f0 => (match rdI f0 7 with | some i => (match rdP f0 1 with | some p0 => (match rdSI f0 3 with | some p1 => (match rdSN f0 3 with | some k => (match rdA m p1 with | some cs => Q i k cs ∧ subOk 0 [(0, p0), (1, p1)] (hS_F bs i k cs) (hS_M bs i k cs) fs m | none => False) | none => False) | none => False) | none => False) | none => False) | none => False)
noncomputable def freshA (k : Nat) (cs : Array Value) (ty : TypeId) (s : SV) (m : SMem) : Prop := match s with | .s (.c (.f (.slice sid _ _ _))) => retOk 0 [(0, sid)] (.s (.c (.f (.slice 0 (.l 0) (.o k) (.full 1))))) (mkM 1 [(0, ⟨.pop cs, ty, true⟩)]) s m | _ => False
noncomputable def nilA (s : SV) (m : SMem) : Prop := retOk 0 [] (.s (.c (.f (.lit (.slice none 0 0))))) e0M s m
noncomputable def hZS (bs : Array Value) (QZ : Int → Prop) (QS : Int → Nat → Array Value → Prop) (fs : List SFr) (m : SMem) : Prop := match fs with | f :: _ => (match f.tm.get 3 with | some (.s (.c (.f (.slice _ _ _ _)))) => hS_n bs QS fs m | _ => hZ_n bs QZ fs m) | [] => False
noncomputable def vd_t (bs : Array Value) (h : Int) (o : Array Value) (b : Bool) : Tree := run EH 1000 0 [callFr 44 Try.f44.ntmps [bkS bs, u32 h] (Try.f44.body.getD .skip)] e0M
noncomputable def vd_x (bs : Array Value) (h : Int) (o : Array Value) (b : Bool)  (fs : List SFr) (m : SMem) : Prop := False
noncomputable def is0_t (bs : Array Value) : Tree := run EH 1000 0 [callFr 34 Try.f34.ntmps [bkS bs] (Try.f34.body.getD .skip)] e0M
noncomputable def is0_x (bs : Array Value) (QhI : Int → Array Value → Prop) (fs : List SFr) (m : SMem) : Prop := hI_n bs QhI fs m
noncomputable def id0_t (bs : Array Value) : Tree := run EH 1000 0 [callFr 29 Try.f29.ntmps [bkS bs] (Try.f29.body.getD .skip)] e0M
noncomputable def id0_x (bs : Array Value) (QhZ : Int → Prop) (fs : List SFr) (m : SMem) : Prop := hZ_n bs QhZ fs m
theorem hI_d0_ok (r : Nat → Option Nat) : TodoOk r hI_d0 hI_d0 := TodoOk.it (by kernel_rfl)
theorem hZ_d0_ok (r : Nat → Option Nat) : TodoOk r hZ_d0 hZ_d0 := TodoOk.it (by kernel_rfl)
theorem hS_d0_ok (r : Nat → Option Nat) : TodoOk r hS_d0 hS_d0 := TodoOk.it (by kernel_rfl)
theorem hI_good {A : SV → SMem → Prop} {bs : Array Value} {Q : Int → Array Value → Prop} {fs : List SFr} {m : SMem} (H : ∀ i zz, Q i zz → Good Try.prog A 0 (hI_F bs i zz) (hI_M bs i zz)) (hb : hI_n bs Q fs m) : Good Try.prog A 0 fs m := by
  unfold hI_n at hb
  split at hb
  rotate_left
  · exact hb.elim
  split at hb
  rotate_left
  · exact hb.elim
  split at hb
  rotate_left
  · exact hb.elim
  split at hb
  rotate_left
  · exact hb.elim
  split at hb
  rotate_left
  · exact hb.elim
  exact Good.of_sub hb.2 (H _ _ hb.1)
theorem hZ_good {A : SV → SMem → Prop} {bs : Array Value} {Q : Int → Prop} {fs : List SFr} {m : SMem} (H : ∀ i, Q i → Good Try.prog A 0 (hZ_F bs i) (hZ_M bs i)) (hb : hZ_n bs Q fs m) : Good Try.prog A 0 fs m := by
  unfold hZ_n at hb
  split at hb
  rotate_left
  · exact hb.elim
  split at hb
  rotate_left
  · exact hb.elim
  split at hb
  rotate_left
  · exact hb.elim
  exact Good.of_sub hb.2 (H _ hb.1)
theorem hS_good {A : SV → SMem → Prop} {bs : Array Value} {Q : Int → Nat → Array Value → Prop} {fs : List SFr} {m : SMem} (H : ∀ i k cs, Q i k cs → Good Try.prog A 0 (hS_F bs i k cs) (hS_M bs i k cs)) (hb : hS_n bs Q fs m) : Good Try.prog A 0 fs m := by
  unfold hS_n at hb
  split at hb
  rotate_left
  · exact hb.elim
  split at hb
  rotate_left
  · exact hb.elim
  split at hb
  rotate_left
  · exact hb.elim
  split at hb
  rotate_left
  · exact hb.elim
  split at hb
  rotate_left
  · exact hb.elim
  split at hb
  rotate_left
  · exact hb.elim
  exact Good.of_sub hb.2 (H _ _ _ hb.1)
theorem is0_go {A : SV → SMem → Prop} {bs : Array Value} {QhI : Int → Array Value → Prop} {fs : List SFr} {m : SMem} (hhI : ∀ i' zz', QhI i' zz' → Good Try.prog A 0 (hI_F bs i' zz') (hI_M bs i' zz')) (hb : is0_x bs QhI fs m) : Good Try.prog A 0 fs m := by
  unfold is0_x at hb
  exact hI_good hhI hb
theorem id0_go {A : SV → SMem → Prop} {bs : Array Value} {QhZ : Int → Prop} {fs : List SFr} {m : SMem} (hhZ : ∀ i', QhZ i' → Good Try.prog A 0 (hZ_F bs i') (hZ_M bs i')) (hb : id0_x bs QhZ fs m) : Good Try.prog A 0 fs m := by
  unfold id0_x at hb
  exact hZ_good hhZ hb
end Go.Proofs.Ytnjmockpdmchcaa
/- Of handle: Void, Issue, Issued: their states. -/
namespace Go.Proofs.Ytnjmockpdmchcaa
set_option maxRecDepth 100000
theorem vd_vc (bs : Array Value) (h : Int) (o : Array Value) (b : Bool) : (vd_t bs h o b).vc ((retOk 0 [] (bbT o b) e0M)) (vd_x bs h o b ) =
    ((Array.size bs = (64 : Nat) ∧ True) ∧ (BkOk bs ∧ ((0 : Int) ≤ h ∧ h < (4294967296 : Int)) ∧ True) ∧ ((!goodB bs h) = true → (Array.size bs = (64 : Nat) ∧ True) ∧ (Array.size bs = (64 : Nat) ∧ Array.size bs = (64 : Nat) ∧ True) ∧ (Array.size bs = (64 : Nat) ∧ True) ∧ o = bs ∧ b = false ∧ True) ∧ ((!goodB bs h) = false → (((0 : Int) ≤ h ∧ h < (4294967296 : Int)) ∧ True) ∧ (((0 : Int) ≤ slotI h ∧ slotI h < (32 : Int)) ∧ True) ∧ (IsInt IntKind.u32 bs ((0 : Nat) + Int.toNat (slotI h) * 2) ∧ True) ∧ ((intAt bs ((0 : Nat) + Int.toNat (slotI h) * 2) == (8388607 : Int)) = true → (((0 : Int) ≤ slotI h ∧ slotI h < (32 : Int)) ∧ True) ∧ ((0 : Nat) + Int.toNat (slotI h) * 2 + 1 < Array.size bs ∧ True) ∧ (Array.size (Array.setIfInBounds bs ((0 : Nat) + Int.toNat (slotI h) * 2 + 1) (Value.int IntKind.u8 (2 : Int))) = (64 : Nat) ∧ True) ∧ (Array.size (Array.setIfInBounds bs ((0 : Nat) + Int.toNat (slotI h) * 2 + 1) (Value.int IntKind.u8 (2 : Int))) = (64 : Nat) ∧ Array.size (Array.setIfInBounds bs ((0 : Nat) + Int.toNat (slotI h) * 2 + 1) (Value.int IntKind.u8 (2 : Int))) = (64 : Nat) ∧ True) ∧ (Array.size (Array.setIfInBounds bs ((0 : Nat) + Int.toNat (slotI h) * 2 + 1) (Value.int IntKind.u8 (2 : Int))) = (64 : Nat) ∧ True) ∧ o = Array.setIfInBounds bs ((0 : Nat) + Int.toNat (slotI h) * 2 + 1) (Value.int IntKind.u8 (2 : Int)) ∧ b = true ∧ True) ∧ ((intAt bs ((0 : Nat) + Int.toNat (slotI h) * 2) == (8388607 : Int)) = false → (((0 : Int) ≤ slotI h ∧ slotI h < (32 : Int)) ∧ True) ∧ (IsInt IntKind.u32 bs ((0 : Nat) + Int.toNat (slotI h) * 2) ∧ True) ∧ (((0 : Int) ≤ slotI h ∧ slotI h < (32 : Int)) ∧ True) ∧ ((0 : Nat) + Int.toNat (slotI h) * 2 + List.length [Value.int IntKind.u32 (ari BinOp.add IntKind.u32 (intAt bs ((0 : Nat) + Int.toNat (slotI h) * 2)) (1 : Int)), Value.int IntKind.u8 (0 : Int)] ≤ Array.size bs ∧ True) ∧ (Array.size (putAt bs ((0 : Nat) + Int.toNat (slotI h) * 2) [Value.int IntKind.u32 (ari BinOp.add IntKind.u32 (intAt bs ((0 : Nat) + Int.toNat (slotI h) * 2)) (1 : Int)), Value.int IntKind.u8 (0 : Int)]) = (64 : Nat) ∧ True) ∧ (Array.size (putAt bs ((0 : Nat) + Int.toNat (slotI h) * 2) [Value.int IntKind.u32 (ari BinOp.add IntKind.u32 (intAt bs ((0 : Nat) + Int.toNat (slotI h) * 2)) (1 : Int)), Value.int IntKind.u8 (0 : Int)]) = (64 : Nat) ∧ Array.size (putAt bs ((0 : Nat) + Int.toNat (slotI h) * 2) [Value.int IntKind.u32 (ari BinOp.add IntKind.u32 (intAt bs ((0 : Nat) + Int.toNat (slotI h) * 2)) (1 : Int)), Value.int IntKind.u8 (0 : Int)]) = (64 : Nat) ∧ True) ∧ (Array.size (putAt bs ((0 : Nat) + Int.toNat (slotI h) * 2) [Value.int IntKind.u32 (ari BinOp.add IntKind.u32 (intAt bs ((0 : Nat) + Int.toNat (slotI h) * 2)) (1 : Int)), Value.int IntKind.u8 (0 : Int)]) = (64 : Nat) ∧ True) ∧ o = putAt bs ((0 : Nat) + Int.toNat (slotI h) * 2) [Value.int IntKind.u32 (ari BinOp.add IntKind.u32 (intAt bs ((0 : Nat) + Int.toNat (slotI h) * 2)) (1 : Int)), Value.int IntKind.u8 (0 : Int)] ∧ b = true ∧ True))) := by kernel_rfl
theorem is0_vc (bs : Array Value) (QhI : Int → Array Value → Prop) : (is0_t bs).vc ((fun _ _ => False)) (is0_x bs QhI) =
    (QhI (0 : Int) #[Value.int IntKind.u32 (0 : Int), Value.int IntKind.u8 (0 : Int), Value.int IntKind.u32 (0 : Int), Value.int IntKind.u8 (0 : Int), Value.int IntKind.u32 (0 : Int), Value.int IntKind.u8 (0 : Int), Value.int IntKind.u32 (0 : Int), Value.int IntKind.u8 (0 : Int), Value.int IntKind.u32 (0 : Int), Value.int IntKind.u8 (0 : Int), Value.int IntKind.u32 (0 : Int), Value.int IntKind.u8 (0 : Int), Value.int IntKind.u32 (0 : Int), Value.int IntKind.u8 (0 : Int), Value.int IntKind.u32 (0 : Int), Value.int IntKind.u8 (0 : Int), Value.int IntKind.u32 (0 : Int), Value.int IntKind.u8 (0 : Int), Value.int IntKind.u32 (0 : Int), Value.int IntKind.u8 (0 : Int), Value.int IntKind.u32 (0 : Int), Value.int IntKind.u8 (0 : Int), Value.int IntKind.u32 (0 : Int), Value.int IntKind.u8 (0 : Int), Value.int IntKind.u32 (0 : Int), Value.int IntKind.u8 (0 : Int), Value.int IntKind.u32 (0 : Int), Value.int IntKind.u8 (0 : Int), Value.int IntKind.u32 (0 : Int), Value.int IntKind.u8 (0 : Int), Value.int IntKind.u32 (0 : Int), Value.int IntKind.u8 (0 : Int), Value.int IntKind.u32 (0 : Int), Value.int IntKind.u8 (0 : Int), Value.int IntKind.u32 (0 : Int), Value.int IntKind.u8 (0 : Int), Value.int IntKind.u32 (0 : Int), Value.int IntKind.u8 (0 : Int), Value.int IntKind.u32 (0 : Int), Value.int IntKind.u8 (0 : Int), Value.int IntKind.u32 (0 : Int), Value.int IntKind.u8 (0 : Int), Value.int IntKind.u32 (0 : Int), Value.int IntKind.u8 (0 : Int), Value.int IntKind.u32 (0 : Int), Value.int IntKind.u8 (0 : Int), Value.int IntKind.u32 (0 : Int), Value.int IntKind.u8 (0 : Int), Value.int IntKind.u32 (0 : Int), Value.int IntKind.u8 (0 : Int), Value.int IntKind.u32 (0 : Int), Value.int IntKind.u8 (0 : Int), Value.int IntKind.u32 (0 : Int), Value.int IntKind.u8 (0 : Int), Value.int IntKind.u32 (0 : Int), Value.int IntKind.u8 (0 : Int), Value.int IntKind.u32 (0 : Int), Value.int IntKind.u8 (0 : Int), Value.int IntKind.u32 (0 : Int), Value.int IntKind.u8 (0 : Int), Value.int IntKind.u32 (0 : Int), Value.int IntKind.u8 (0 : Int), Value.int IntKind.u32 (0 : Int), Value.int IntKind.u8 (0 : Int)] ∧ CallKind.normal = CallKind.normal ∧ TodoOk (ren 0 [(0, 0), (1, 1)]) hI_d0 hI_d0 ∧ (0 : Int) = (0 : Int) ∧ (29 : TypeId) = (29 : Nat) ∧ bs = bs ∧ (29 : TypeId) = (29 : Nat) ∧ #[Value.int IntKind.u32 (0 : Int), Value.int IntKind.u8 (0 : Int), Value.int IntKind.u32 (0 : Int), Value.int IntKind.u8 (0 : Int), Value.int IntKind.u32 (0 : Int), Value.int IntKind.u8 (0 : Int), Value.int IntKind.u32 (0 : Int), Value.int IntKind.u8 (0 : Int), Value.int IntKind.u32 (0 : Int), Value.int IntKind.u8 (0 : Int), Value.int IntKind.u32 (0 : Int), Value.int IntKind.u8 (0 : Int), Value.int IntKind.u32 (0 : Int), Value.int IntKind.u8 (0 : Int), Value.int IntKind.u32 (0 : Int), Value.int IntKind.u8 (0 : Int), Value.int IntKind.u32 (0 : Int), Value.int IntKind.u8 (0 : Int), Value.int IntKind.u32 (0 : Int), Value.int IntKind.u8 (0 : Int), Value.int IntKind.u32 (0 : Int), Value.int IntKind.u8 (0 : Int), Value.int IntKind.u32 (0 : Int), Value.int IntKind.u8 (0 : Int), Value.int IntKind.u32 (0 : Int), Value.int IntKind.u8 (0 : Int), Value.int IntKind.u32 (0 : Int), Value.int IntKind.u8 (0 : Int), Value.int IntKind.u32 (0 : Int), Value.int IntKind.u8 (0 : Int), Value.int IntKind.u32 (0 : Int), Value.int IntKind.u8 (0 : Int), Value.int IntKind.u32 (0 : Int), Value.int IntKind.u8 (0 : Int), Value.int IntKind.u32 (0 : Int), Value.int IntKind.u8 (0 : Int), Value.int IntKind.u32 (0 : Int), Value.int IntKind.u8 (0 : Int), Value.int IntKind.u32 (0 : Int), Value.int IntKind.u8 (0 : Int), Value.int IntKind.u32 (0 : Int), Value.int IntKind.u8 (0 : Int), Value.int IntKind.u32 (0 : Int), Value.int IntKind.u8 (0 : Int), Value.int IntKind.u32 (0 : Int), Value.int IntKind.u8 (0 : Int), Value.int IntKind.u32 (0 : Int), Value.int IntKind.u8 (0 : Int), Value.int IntKind.u32 (0 : Int), Value.int IntKind.u8 (0 : Int), Value.int IntKind.u32 (0 : Int), Value.int IntKind.u8 (0 : Int), Value.int IntKind.u32 (0 : Int), Value.int IntKind.u8 (0 : Int), Value.int IntKind.u32 (0 : Int), Value.int IntKind.u8 (0 : Int), Value.int IntKind.u32 (0 : Int), Value.int IntKind.u8 (0 : Int), Value.int IntKind.u32 (0 : Int), Value.int IntKind.u8 (0 : Int), Value.int IntKind.u32 (0 : Int), Value.int IntKind.u8 (0 : Int), Value.int IntKind.u32 (0 : Int), Value.int IntKind.u8 (0 : Int)] = #[Value.int IntKind.u32 (0 : Int), Value.int IntKind.u8 (0 : Int), Value.int IntKind.u32 (0 : Int), Value.int IntKind.u8 (0 : Int), Value.int IntKind.u32 (0 : Int), Value.int IntKind.u8 (0 : Int), Value.int IntKind.u32 (0 : Int), Value.int IntKind.u8 (0 : Int), Value.int IntKind.u32 (0 : Int), Value.int IntKind.u8 (0 : Int), Value.int IntKind.u32 (0 : Int), Value.int IntKind.u8 (0 : Int), Value.int IntKind.u32 (0 : Int), Value.int IntKind.u8 (0 : Int), Value.int IntKind.u32 (0 : Int), Value.int IntKind.u8 (0 : Int), Value.int IntKind.u32 (0 : Int), Value.int IntKind.u8 (0 : Int), Value.int IntKind.u32 (0 : Int), Value.int IntKind.u8 (0 : Int), Value.int IntKind.u32 (0 : Int), Value.int IntKind.u8 (0 : Int), Value.int IntKind.u32 (0 : Int), Value.int IntKind.u8 (0 : Int), Value.int IntKind.u32 (0 : Int), Value.int IntKind.u8 (0 : Int), Value.int IntKind.u32 (0 : Int), Value.int IntKind.u8 (0 : Int), Value.int IntKind.u32 (0 : Int), Value.int IntKind.u8 (0 : Int), Value.int IntKind.u32 (0 : Int), Value.int IntKind.u8 (0 : Int), Value.int IntKind.u32 (0 : Int), Value.int IntKind.u8 (0 : Int), Value.int IntKind.u32 (0 : Int), Value.int IntKind.u8 (0 : Int), Value.int IntKind.u32 (0 : Int), Value.int IntKind.u8 (0 : Int), Value.int IntKind.u32 (0 : Int), Value.int IntKind.u8 (0 : Int), Value.int IntKind.u32 (0 : Int), Value.int IntKind.u8 (0 : Int), Value.int IntKind.u32 (0 : Int), Value.int IntKind.u8 (0 : Int), Value.int IntKind.u32 (0 : Int), Value.int IntKind.u8 (0 : Int), Value.int IntKind.u32 (0 : Int), Value.int IntKind.u8 (0 : Int), Value.int IntKind.u32 (0 : Int), Value.int IntKind.u8 (0 : Int), Value.int IntKind.u32 (0 : Int), Value.int IntKind.u8 (0 : Int), Value.int IntKind.u32 (0 : Int), Value.int IntKind.u8 (0 : Int), Value.int IntKind.u32 (0 : Int), Value.int IntKind.u8 (0 : Int), Value.int IntKind.u32 (0 : Int), Value.int IntKind.u8 (0 : Int), Value.int IntKind.u32 (0 : Int), Value.int IntKind.u8 (0 : Int), Value.int IntKind.u32 (0 : Int), Value.int IntKind.u8 (0 : Int), Value.int IntKind.u32 (0 : Int), Value.int IntKind.u8 (0 : Int)] ∧ True) := by kernel_rfl
theorem id0_vc (bs : Array Value) (QhZ : Int → Prop) : (id0_t bs).vc ((fun _ _ => False)) (id0_x bs QhZ) =
    (QhZ (0 : Int) ∧ CallKind.normal = CallKind.normal ∧ TodoOk (ren 0 [(0, 0)]) hZ_d0 hZ_d0 ∧ Value.slice none (0 : Nat) (0 : Nat) = Value.slice none (0 : Nat) (0 : Nat) ∧ (0 : Int) = (0 : Int) ∧ (29 : TypeId) = (29 : Nat) ∧ bs = bs ∧ True) := by kernel_rfl
theorem is1 (bs : Array Value) (i : Int) (zz : Array Value) (o : Array Value) (x : Int) (b : Bool) (Q : Int → Array Value → Prop) : (stepT EH.go (run EH 1000) 0 (hI_F bs i zz) (hI_M bs i zz)).vc (retOk 0 [] (bhbT o x b) e0M) (hI_n bs Q) =
    ((decide (i < (32 : Int)) = true → (((0 : Int) ≤ i ∧ i < (32 : Int)) ∧ True) ∧ (IsInt IntKind.u8 bs ((0 : Nat) + Int.toNat i * 2 + 1) ∧ True) ∧ ((intAt bs ((0 : Nat) + Int.toNat i * 2 + 1) == (0 : Int)) = true → (((0 : Int) ≤ i ∧ i < (32 : Int)) ∧ True) ∧ ((0 : Nat) + Int.toNat i * 2 + 1 < Array.size bs ∧ True) ∧ (Array.size (Array.setIfInBounds bs ((0 : Nat) + Int.toNat i * 2 + 1) (Value.int IntKind.u8 (1 : Int))) = (64 : Nat) ∧ True) ∧ (((0 : Int) ≤ i ∧ i < (32 : Int)) ∧ True) ∧ (IsInt IntKind.u32 (Array.setIfInBounds bs ((0 : Nat) + Int.toNat i * 2 + 1) (Value.int IntKind.u8 (1 : Int))) ((0 : Nat) + Int.toNat i * 2) ∧ True) ∧ (Array.size (Array.setIfInBounds bs ((0 : Nat) + Int.toNat i * 2 + 1) (Value.int IntKind.u8 (1 : Int))) = (64 : Nat) ∧ Array.size (Array.setIfInBounds bs ((0 : Nat) + Int.toNat i * 2 + 1) (Value.int IntKind.u8 (1 : Int))) = Array.size zz ∧ True) ∧ (Array.size (Array.setIfInBounds bs ((0 : Nat) + Int.toNat i * 2 + 1) (Value.int IntKind.u8 (1 : Int))) = (64 : Nat) ∧ True) ∧ o = Array.setIfInBounds bs ((0 : Nat) + Int.toNat i * 2 + 1) (Value.int IntKind.u8 (1 : Int)) ∧ x = ari BinOp.add IntKind.u32 (ari BinOp.add IntKind.u32 (ari BinOp.mul IntKind.u32 (256 : Int) (intAt (Array.setIfInBounds bs ((0 : Nat) + Int.toNat i * 2 + 1) (Value.int IntKind.u8 (1 : Int))) ((0 : Nat) + Int.toNat i * 2))) (IntKind.wrap IntKind.u32 i)) (1 : Int) ∧ b = true ∧ True) ∧ ((intAt bs ((0 : Nat) + Int.toNat i * 2 + 1) == (0 : Int)) = false → Q (ari BinOp.add IntKind.i64 i (1 : Int)) zz ∧ CallKind.normal = CallKind.normal ∧ TodoOk (ren 0 [(0, 0), (1, 1)]) hI_d0 hI_d0 ∧ ari BinOp.add IntKind.i64 i (1 : Int) = ari BinOp.add IntKind.i64 i (1 : Int) ∧ (29 : TypeId) = (29 : TypeId) ∧ bs = bs ∧ (29 : TypeId) = (29 : TypeId) ∧ zz = zz ∧ True)) ∧ (decide (i < (32 : Int)) = false → (Array.size bs = (64 : Nat) ∧ True) ∧ (Array.size bs = (64 : Nat) ∧ Array.size bs = Array.size zz ∧ True) ∧ (Array.size bs = (64 : Nat) ∧ True) ∧ o = bs ∧ x = (0 : Int) ∧ b = false ∧ True)) := by kernel_rfl
theorem idZ_n (bs : Array Value) (i : Int) (QZ : Int → Prop) (QS : Int → Nat → Array Value → Prop) : (stepT EH.go (run EH 1000) 0 (hZ_F bs i) (hZ_M bs i)).vc nilA (hZS bs QZ QS) =
    ((decide (i < (32 : Int)) = true → (Array.size bs = (64 : Nat) ∧ True) ∧ (BkOk bs ∧ True) ∧ (atOk bs i = true → QS (ari BinOp.add IntKind.i64 i (1 : Int)) (1 : Nat) #[Value.int IntKind.u32 (atI bs i)] ∧ CallKind.normal = CallKind.normal ∧ TodoOk (ren 0 [(0, 0), (1, 2)]) hZ_d0 hZ_d0 ∧ (1 : Nat) = (1 : Nat) ∧ ari BinOp.add IntKind.i64 i (1 : Int) = ari BinOp.add IntKind.i64 i (1 : Int) ∧ (29 : TypeId) = (29 : TypeId) ∧ bs = bs ∧ (30 : TypeId) = (30 : Nat) ∧ #[Value.int IntKind.u32 (atI bs i)] = #[Value.int IntKind.u32 (atI bs i)] ∧ True) ∧ (atOk bs i = false → QZ (ari BinOp.add IntKind.i64 i (1 : Int)) ∧ CallKind.normal = CallKind.normal ∧ TodoOk (ren 0 [(0, 0)]) hZ_d0 hZ_d0 ∧ Value.slice none (0 : Nat) (0 : Nat) = Value.slice none (0 : Nat) (0 : Nat) ∧ ari BinOp.add IntKind.i64 i (1 : Int) = ari BinOp.add IntKind.i64 i (1 : Int) ∧ (29 : TypeId) = (29 : TypeId) ∧ bs = bs ∧ True)) ∧ (decide (i < (32 : Int)) = false → Value.slice none (0 : Nat) (0 : Nat) = Value.slice none (0 : Nat) (0 : Nat) ∧ True)) := by kernel_rfl
theorem idZ_s (bs : Array Value) (i : Int) (k : Nat) (cs : Array Value) (QZ : Int → Prop) (QS : Int → Nat → Array Value → Prop) : (stepT EH.go (run EH 1000) 0 (hZ_F bs i) (hZ_M bs i)).vc (freshA k cs 30) (hZS bs QZ QS) =
    ((decide (i < (32 : Int)) = true → (Array.size bs = (64 : Nat) ∧ True) ∧ (BkOk bs ∧ True) ∧ (atOk bs i = true → QS (ari BinOp.add IntKind.i64 i (1 : Int)) (1 : Nat) #[Value.int IntKind.u32 (atI bs i)] ∧ CallKind.normal = CallKind.normal ∧ TodoOk (ren 0 [(0, 0), (1, 2)]) hZ_d0 hZ_d0 ∧ (1 : Nat) = (1 : Nat) ∧ ari BinOp.add IntKind.i64 i (1 : Int) = ari BinOp.add IntKind.i64 i (1 : Int) ∧ (29 : TypeId) = (29 : TypeId) ∧ bs = bs ∧ (30 : TypeId) = (30 : Nat) ∧ #[Value.int IntKind.u32 (atI bs i)] = #[Value.int IntKind.u32 (atI bs i)] ∧ True) ∧ (atOk bs i = false → QZ (ari BinOp.add IntKind.i64 i (1 : Int)) ∧ CallKind.normal = CallKind.normal ∧ TodoOk (ren 0 [(0, 0)]) hZ_d0 hZ_d0 ∧ Value.slice none (0 : Nat) (0 : Nat) = Value.slice none (0 : Nat) (0 : Nat) ∧ ari BinOp.add IntKind.i64 i (1 : Int) = ari BinOp.add IntKind.i64 i (1 : Int) ∧ (29 : TypeId) = (29 : TypeId) ∧ bs = bs ∧ True)) ∧ (decide (i < (32 : Int)) = false → False)) := by kernel_rfl
theorem idS_s (bs : Array Value) (i : Int) (k : Nat) (cs : Array Value) (kF : Nat) (csF : Array Value) (QS : Int → Nat → Array Value → Prop) : (stepT EH.go (run EH 1000) 0 (hS_F bs i k cs) (hS_M bs i k cs)).vc (freshA kF csF 30) (hS_n bs QS) =
    ((decide (i < (32 : Int)) = true → (Array.size bs = (64 : Nat) ∧ True) ∧ (BkOk bs ∧ True) ∧ (atOk bs i = true → (((k + 1) * 4 ≤ (140737488355328 : Nat) ∧ k + 1 ≤ (140737488355328 : Nat)) ∧ k * 1 = Array.size cs ∧ True) ∧ QS (ari BinOp.add IntKind.i64 i (1 : Int)) (k + 1) (cs ++ #[Value.int IntKind.u32 (atI bs i)]) ∧ CallKind.normal = CallKind.normal ∧ TodoOk (ren 0 [(0, 0), (1, 3)]) hZ_d0 hZ_d0 ∧ k + 1 = k + 1 ∧ ari BinOp.add IntKind.i64 i (1 : Int) = ari BinOp.add IntKind.i64 i (1 : Int) ∧ (29 : TypeId) = (29 : TypeId) ∧ bs = bs ∧ (30 : TypeId) = (30 : Nat) ∧ cs ++ #[Value.int IntKind.u32 (atI bs i)] = cs ++ #[Value.int IntKind.u32 (atI bs i)] ∧ True) ∧ (atOk bs i = false → QS (ari BinOp.add IntKind.i64 i (1 : Int)) k cs ∧ CallKind.normal = CallKind.normal ∧ TodoOk (ren 0 [(0, 0), (1, 1)]) hZ_d0 hZ_d0 ∧ k = k ∧ ari BinOp.add IntKind.i64 i (1 : Int) = ari BinOp.add IntKind.i64 i (1 : Int) ∧ (29 : TypeId) = (29 : TypeId) ∧ bs = bs ∧ (30 : TypeId) = (30 : TypeId) ∧ cs = cs ∧ True)) ∧ (decide (i < (32 : Int)) = false → kF = k ∧ (30 : TypeId) = (30 : TypeId) ∧ csF = cs ∧ True)) := by kernel_rfl
end Go.Proofs.Ytnjmockpdmchcaa
/- Of handle: the contracts of Void, Issue, Issued. No condition. -/
namespace Go.Proofs.Ytnjmockpdmchcaa
set_option maxRecDepth 100000
set_option linter.unusedSimpArgs false
set_option linter.unusedVariables false
theorem conH1_ok : ∀ g l m t, conH1 g l m = some t → Con E0 g l m t := by
  intro g l m t h
  unfold conH1 at h
  split at h
  · rename_i x; cases h
    refine Con.asked fun hq => ?_
    have h := slot_con x.den m
    refine Con.args (l' := [u32 x.den]) (fun R vs ha => by
      match vs, ha with
      | [v], ha => exact ⟨ha.1, trivial⟩) ?_
    intro A hs
    exact h A ⟨fun p hp => hq p hp, hs⟩
  · rename_i bs x; cases h
    refine Con.asked fun hq => ?_
    refine Con.args (l' := [bkS bs, u32 x.den]) (fun R vs ha => by
      match vs, ha with
      | [v, w], ha => exact ⟨ha.1, ha.2.1, trivial⟩) ?_
    intro A hs
    exact good_con x.den m A ⟨fun p hp => hq p hp, hs⟩
  · rename_i bs x; cases h
    refine Con.asked fun hq => ?_
    refine Con.args (l' := [bkS bs, i64 (.o x.den)]) (fun R vs ha => by
      match vs, ha with
      | [v, w], ha => exact ⟨ha.1, ha.2.1, trivial⟩) ?_
    intro A hs
    exact at_con x.den m A ⟨fun p hp => hq p hp, hs⟩
  · cases h
theorem EH_ok : EnvOk EH := EnvOk.with E0_ok _ _ conH1_ok
section
variable {bs : Array Value}
theorem putAt2 {cs : Array Value} {p : Nat} {u v : Value} (h : p + 2 ≤ cs.size) : (putAt cs p [u, v]).size = cs.size ∧ (putAt cs p [u, v])[p]? = some u ∧ (putAt cs p [u, v])[p + 1]? = some v ∧ ∀ k, k ≠ p → k ≠ p + 1 → (putAt cs p [u, v])[k]? = cs[k]? := by
  refine ⟨putAt_size (by simpa using h), ?_, ?_, fun k h1 h2 => putAt_out (by simpa using h) (by simp; omega)⟩
  · rw [putAt_in (by simpa using h) (Nat.le_refl _) (by simp), Nat.sub_self]; rfl
  · rw [putAt_in (by simpa using h) (by omega) (by simp), show p + 1 - p = 1 by omega]; rfl
theorem voidS_size {i : Nat} (h : BkOk bs) (hi : i < 32) : (voidS bs i).size = 64 := by
  have := h.sz
  unfold voidS
  split
  · rw [set_size]; exact h.sz
  · rw [(putAt2 (by omega)).1]; exact h.sz
theorem void_con (h : Int) (m : SMem) : Con E0 44 [bkS bs, u32 h] m (needs [BkOk bs, inH h] (.ret (bbT (voidB bs h) (goodB bs h)) m)) := by
  refine Con.pure E0_ok (by kernel_rfl : E0.fn 44 = some Try.f44) (by kernel_rfl : Try.f44.body = some (Try.f44.body.getD .skip)) (by kernel_rfl) (by kernel_rfl) fun hq => ?_
  have hb : BkOk bs := hq _ (by simp)
  have hh : inH h := hq _ (by simp)
  refine (Good.ret [] (run_vc EH_ok 1000 (vd_vc bs h (voidB bs h) (goodB bs h)) ?_ (fun s m h => h) fun _ _ h => h.elim)).mono fun _ _ h => h.1
  have hs := hb.sz
  obtain ⟨s1, s2⟩ := slotI_lt hh
  cases hg : goodB bs h with
  | false =>
    simp only [hs, hg, voidB, Bool.not_false, true_implies, Bool.true_eq_false, Bool.false_eq_true, false_implies, if_false, and_true, true_and]
    exact ⟨hb, hh⟩
  | true =>
    have hi : (slotI h).toNat < 32 := by omega
    have hra := hb.ra _ hi
    by_cases c : ageAt bs (slotI h).toNat = 8388607
    · have d : (intAt bs ((slotI h).toNat * 2) == 8388607) = true := by
        have c : intAt bs ((slotI h).toNat * 2) = 8388607 := c
        rw [c]; rfl
      have e : voidS bs (slotI h).toNat = bs.setIfInBounds ((slotI h).toNat * 2 + 1) (.int .u8 2) := by unfold voidS; rw [if_pos c]
      simp only [hs, hg, d, e, voidB, Nat.zero_add, set_size, Bool.not_true, true_implies, Bool.true_eq_false, Bool.false_eq_true, false_implies, if_true, and_true, true_and]
      exact ⟨⟨hb, hh⟩, hh, ⟨s1, s2⟩, hb.a _ hi, ⟨s1, s2⟩, by omega⟩
    · have d : (intAt bs ((slotI h).toNat * 2) == 8388607) = false := by
        have c : ¬ intAt bs ((slotI h).toNat * 2) = 8388607 := c
        simpa using c
      have e : voidS bs (slotI h).toNat = putAt bs ((slotI h).toNat * 2) [.int .u32 (ageAt bs (slotI h).toNat + 1), .int .u8 0] := by unfold voidS; rw [if_neg c]
      have ea : ari .add .u32 (intAt bs ((slotI h).toNat * 2)) 1 = ageAt bs (slotI h).toNat + 1 := by
        have hra' : 0 ≤ intAt bs ((slotI h).toNat * 2) ∧ intAt bs ((slotI h).toNat * 2) ≤ 8388607 := hra
        rw [ari_add, u32_in (by omega) (by omega)]; rfl
      have hz : (putAt bs ((slotI h).toNat * 2) [.int .u32 (ageAt bs (slotI h).toNat + 1), .int .u8 0]).size = 64 := by rw [(putAt2 (by omega)).1]; exact hs
      have hl : ∀ u v : Value, List.length [u, v] = 2 := fun _ _ => rfl
      simp only [hs, hg, d, e, ea, hz, hl, voidB, Nat.zero_add, Bool.not_true, true_implies, Bool.true_eq_false, Bool.false_eq_true, false_implies, if_true, and_true, true_and]
      exact ⟨⟨hb, hh⟩, hh, ⟨s1, s2⟩, hb.a _ hi, ⟨s1, s2⟩, hb.a _ hi, ⟨s1, s2⟩, by omega⟩
theorem freeFrom_succ (k i : Nat) : freeFrom bs (k + 1) i = if kindAt bs i = 0 then some i else freeFrom bs k (i + 1) := rfl
theorem hI_ok (hb : BkOk bs) {zz : Array Value} (hz : zz.size = 64) : ∀ (k i : Nat), i + k = 32 → freeFrom bs k i = freeS bs → Good Try.prog (retOk 0 [] (bhbT (issueB bs) (issueI bs) (issueOk bs)) e0M) 0 (hI_F bs (i : Int) zz) (hI_M bs (i : Int) zz) := by
  have hs := hb.sz
  intro k
  induction k with
  | zero =>
    intro i hi hf
    refine past_vc EH_ok 1000 (is1 bs (i : Int) zz (issueB bs) (issueI bs) (issueOk bs) (fun _ _ => False)) ?_ (fun _ _ h => h) (fun fs m hb => hI_good (fun _ _ h => h.elim) hb)
    have d : decide ((i : Int) < 32) = false := decide_eq_false (by omega)
    have e : freeS bs = none := hf.symm
    have e1 : issueB bs = bs := by unfold issueB; rw [e]
    have e2 : issueI bs = 0 := by unfold issueI; rw [e]
    have e3 : issueOk bs = false := by unfold issueOk; rw [e]; rfl
    simp only [d, e1, e2, e3, hs, hz, true_implies, Bool.true_eq_false, Bool.false_eq_true, false_implies, and_true, true_and]
  | succ k ih =>
    intro i hi hf
    refine past_vc EH_ok 1000 (is1 bs (i : Int) zz (issueB bs) (issueI bs) (issueOk bs) (fun i' z' => i' = ((i + 1 : Nat) : Int) ∧ z' = zz ∧ kindAt bs i ≠ 0)) ?_ (fun _ _ h => h)
      (fun fs m hb => hI_good (fun i' z' ⟨h1, h2, h3⟩ => by rw [h1, h2]; exact ih (i + 1) (by omega) (by rw [← hf, freeFrom_succ, if_neg h3])) hb)
    have d : decide ((i : Int) < 32) = true := decide_eq_true (by omega)
    have ei : ari .add .i64 (i : Int) 1 = ((i + 1 : Nat) : Int) := by rw [ari_add, i64_in' (by omega) (by omega)]; omega
    have hi32 : i < 32 := by omega
    by_cases c : kindAt bs i = 0
    · have d1 : (intAt bs (i * 2 + 1) == 0) = true := by
        have c : intAt bs (i * 2 + 1) = 0 := c
        rw [c]; rfl
      have e : freeS bs = some i := by rw [← hf, freeFrom_succ, if_pos c]
      have e1 : issueB bs = bs.setIfInBounds (i * 2 + 1) (.int .u8 1) := by unfold issueB; rw [e]
      have e2 : issueI bs = nameI i (ageAt bs i) := by unfold issueI; rw [e]
      have e3 : issueOk bs = true := by unfold issueOk; rw [e]; rfl
      have ha : intAt (bs.setIfInBounds (i * 2 + 1) (.int .u8 1)) (i * 2) = ageAt bs i := by unfold ageAt intAt; rw [set_out (by omega)]
      have hia : IsInt .u32 (bs.setIfInBounds (i * 2 + 1) (.int .u8 1)) (i * 2) := by
        have := hb.a i hi32
        unfold IsInt intAt at this ⊢
        rw [set_out (by omega)]; exact this
      have en := nameI_run hi32 (hb.ra i hi32)
      simp only [d, d1, e1, e2, e3, hs, hz, ha, en, Nat.zero_add, Int.toNat_natCast, set_size, true_implies, Bool.true_eq_false, Bool.false_eq_true, false_implies, and_true, true_and]
      exact ⟨by omega, hb.k i hi32, by omega, by omega, by omega, hia⟩
    · have d1 : (intAt bs (i * 2 + 1) == 0) = false := by
        have c : ¬ intAt bs (i * 2 + 1) = 0 := c
        simpa using c
      simp only [d, d1, ei, Nat.zero_add, Int.toNat_natCast, true_implies, Bool.true_eq_false, Bool.false_eq_true, false_implies, and_true, true_and, hI_d0_ok]
      exact ⟨by omega, hb.k i hi32, c⟩
theorem issue_con (m : SMem) : Con E0 34 [bkS bs] m (needs [BkOk bs] (.ret (bhbT (issueB bs) (issueI bs) (issueOk bs)) m)) := by
  refine Con.pure E0_ok (by kernel_rfl : E0.fn 34 = some Try.f34) (by kernel_rfl : Try.f34.body = some (Try.f34.body.getD .skip)) (by kernel_rfl) (by kernel_rfl) fun hq => ?_
  have hb : BkOk bs := hq _ (by simp)
  refine (Good.ret [] (run_vc EH_ok 1000 (is0_vc bs (fun i zz => i = ((0 : Nat) : Int) ∧ zz.size = 64)) ?_ (fun s m h => h.elim) fun fs m h => is0_go (fun i zz ⟨e1, e2⟩ => by rw [e1]; exact hI_ok hb e2 32 0 (by omega) rfl) h)).mono fun _ _ h => h.1
  simp only [and_true, true_and, hI_d0_ok]
  exact ⟨rfl, rfl⟩
def u32s (l : List Int) : Array Value := (l.map (Value.int .u32)).toArray
theorem u32s_size (l : List Int) : (u32s l).size = l.length := by unfold u32s; rw [List.size_toArray, List.length_map]
theorem u32s_app (l : List Int) (x : Int) : u32s (l ++ [x]) = u32s l ++ #[.int .u32 x] := by unfold u32s; simp
def issL (bs : Array Value) : Nat → List Int
  | 0 => []
  | i + 1 => if kindAt bs i = 1 then issL bs i ++ [nameI i (ageAt bs i)] else issL bs i
theorem issL_le : ∀ n, (issL bs n).length ≤ n
  | 0 => Nat.le_refl _
  | n + 1 => by
    have := issL_le n
    unfold issL
    split
    · rw [List.length_append]; show _ + 1 ≤ _; omega
    · omega
def issued (bs : Array Value) : List Int := issL bs 32
theorem at_i {i : Nat} (hi : i < 32) : atOk bs (i : Int) = decide (kindAt bs i = 1) ∧ (kindAt bs i = 1 → atI bs (i : Int) = nameI i (ageAt bs i)) := by
  have e : atOk bs (i : Int) = decide (kindAt bs i = 1) := by unfold atOk; rw [decide_eq_true (by omega), Bool.true_and, Int.toNat_natCast]
  refine ⟨e, fun h => ?_⟩
  unfold atI
  rw [e, decide_eq_true h, if_pos rfl, Int.toNat_natCast]
theorem issL_succ (i : Nat) : issL bs (i + 1) = if kindAt bs i = 1 then issL bs i ++ [nameI i (ageAt bs i)] else issL bs i := rfl
theorem issL_pre (bs : Array Value) {i j : Nat} (h : i ≤ j) (e : issL bs j = []) : issL bs i = [] := by
  induction j with
  | zero =>
    obtain rfl : i = 0 := by omega
    exact e
  | succ j ih =>
    by_cases c : i = j + 1
    · rw [c]; exact e
    · refine ih (by omega) ?_
      rw [issL_succ] at e
      split at e
      · simp at e
      · exact e
theorem hS_ok (hb : BkOk bs) : ∀ (k i : Nat), i + k = 32 → Good Try.prog (freshA (issued bs).length (u32s (issued bs)) 30) 0 (hS_F bs (i : Int) (issL bs i).length (u32s (issL bs i))) (hS_M bs (i : Int) (issL bs i).length (u32s (issL bs i))) := by
  have hs := hb.sz
  intro k
  induction k with
  | zero =>
    intro i hi
    obtain rfl : i = 32 := by omega
    refine past_vc EH_ok 1000 (idS_s bs ((32 : Nat) : Int) _ _ (issued bs).length (u32s (issued bs)) (fun _ _ _ => False)) ?_ (fun _ _ h => h) (fun fs m hb => hS_good (fun _ _ _ h => h.elim) hb)
    have d : decide (((32 : Nat) : Int) < 32) = false := rfl
    simp only [d, issued, true_implies, Bool.true_eq_false, Bool.false_eq_true, false_implies, and_true, true_and]
  | succ k ih =>
    intro i hi
    refine past_vc EH_ok 1000 (idS_s bs (i : Int) _ _ (issued bs).length (u32s (issued bs)) (fun i' k' c' => i' = ((i + 1 : Nat) : Int) ∧ k' = (issL bs (i + 1)).length ∧ c' = u32s (issL bs (i + 1)))) ?_ (fun _ _ h => h)
      (fun fs m hb => hS_good (fun i' k' c' ⟨e1, e2, e3⟩ => by rw [e1, e2, e3]; exact ih (i + 1) (by omega)) hb)
    have d : decide ((i : Int) < 32) = true := decide_eq_true (by omega)
    have ei : ari .add .i64 (i : Int) 1 = ((i + 1 : Nat) : Int) := by rw [ari_add, i64_in' (by omega) (by omega)]; omega
    obtain ⟨a1, a2⟩ := at_i (bs := bs) (i := i) (by omega)
    have hle := issL_le (bs := bs) i
    by_cases c : kindAt bs i = 1
    · simp only [d, ei, a1, a2 c, hs, c, decide_true, u32s_size, Nat.mul_one, issL_succ, if_true, List.length_append, List.length_cons, List.length_nil, u32s_app, true_implies, Bool.true_eq_false, Bool.false_eq_true, false_implies, and_true, true_and, hZ_d0_ok, hS_d0_ok]
      exact ⟨hb, by omega⟩
    · simp only [d, ei, a1, hs, c, decide_false, issL_succ, if_false, true_implies, Bool.true_eq_false, Bool.false_eq_true, false_implies, and_true, true_and, hZ_d0_ok, hS_d0_ok]
      exact hb
theorem hZS_good {A : SV → SMem → Prop} {QZ : Int → Prop} {QS : Int → Nat → Array Value → Prop} {fs : List SFr} {m : SMem} (hz : ∀ i, QZ i → Good Try.prog A 0 (hZ_F bs i) (hZ_M bs i)) (hs : ∀ i k cs, QS i k cs → Good Try.prog A 0 (hS_F bs i k cs) (hS_M bs i k cs)) (hb : hZS bs QZ QS fs m) : Good Try.prog A 0 fs m := by
  unfold hZS at hb
  split at hb
  · split at hb
    · exact hS_good hs hb
    · exact hZ_good hz hb
  · exact hb.elim
theorem hZ_s (hb : BkOk bs) (hne : issued bs ≠ []) : ∀ (k i : Nat), i + k = 32 → issL bs i = [] → Good Try.prog (freshA (issued bs).length (u32s (issued bs)) 30) 0 (hZ_F bs (i : Int)) (hZ_M bs (i : Int)) := by
  have hs := hb.sz
  intro k
  induction k with
  | zero =>
    intro i hi he
    obtain rfl : i = 32 := by omega
    exact absurd he hne
  | succ k ih =>
    intro i hi he
    refine past_vc EH_ok 1000 (idZ_s bs (i : Int) (issued bs).length (u32s (issued bs)) (fun i' => i' = ((i + 1 : Nat) : Int) ∧ issL bs (i + 1) = []) (fun i' k' c' => i' = ((i + 1 : Nat) : Int) ∧ k' = (issL bs (i + 1)).length ∧ c' = u32s (issL bs (i + 1)))) ?_ (fun _ _ h => h)
      (fun fs m hb' => hZS_good (fun i' ⟨e1, e2⟩ => by rw [e1]; exact ih (i + 1) (by omega) e2) (fun i' k' c' ⟨e1, e2, e3⟩ => by rw [e1, e2, e3]; exact hS_ok hb k (i + 1) (by omega)) hb')
    have d : decide ((i : Int) < 32) = true := decide_eq_true (by omega)
    have ei : ari .add .i64 (i : Int) 1 = ((i + 1 : Nat) : Int) := by rw [ari_add, i64_in' (by omega) (by omega)]; omega
    obtain ⟨a1, a2⟩ := at_i (bs := bs) (i := i) (by omega)
    by_cases c : kindAt bs i = 1
    · simp only [d, ei, a1, a2 c, hs, c, he, decide_true, issL_succ, if_true, List.nil_append, List.length_cons, List.length_nil, true_implies, Bool.true_eq_false, Bool.false_eq_true, false_implies, and_true, true_and, hZ_d0_ok, hS_d0_ok]
      exact ⟨hb, rfl⟩
    · simp only [d, ei, a1, hs, c, he, decide_false, issL_succ, if_false, true_implies, Bool.true_eq_false, Bool.false_eq_true, false_implies, and_true, true_and, hZ_d0_ok, hS_d0_ok]
      exact hb
theorem hZ_nn (hb : BkOk bs) (hne : issued bs = []) : ∀ (k i : Nat), i + k = 32 → Good Try.prog nilA 0 (hZ_F bs (i : Int)) (hZ_M bs (i : Int)) := by
  have hs := hb.sz
  intro k
  induction k with
  | zero =>
    intro i hi
    obtain rfl : i = 32 := by omega
    refine past_vc EH_ok 1000 (idZ_n bs ((32 : Nat) : Int) (fun _ => False) (fun _ _ _ => False)) ?_ (fun _ _ h => h) (fun fs m hb => hZS_good (fun _ h => h.elim) (fun _ _ _ h => h.elim) hb)
    have d : decide (((32 : Nat) : Int) < 32) = false := rfl
    simp only [d, true_implies, Bool.true_eq_false, Bool.false_eq_true, false_implies, and_true, true_and]
  | succ k ih =>
    intro i hi
    refine past_vc EH_ok 1000 (idZ_n bs (i : Int) (fun i' => i' = ((i + 1 : Nat) : Int)) (fun i' k' c' => False)) ?_ (fun _ _ h => h)
      (fun fs m hb' => hZS_good (fun i' e1 => by rw [e1]; exact ih (i + 1) (by omega)) (fun _ _ _ h => h.elim) hb')
    have d : decide ((i : Int) < 32) = true := decide_eq_true (by omega)
    have ei : ari .add .i64 (i : Int) 1 = ((i + 1 : Nat) : Int) := by rw [ari_add, i64_in' (by omega) (by omega)]; omega
    obtain ⟨a1, a2⟩ := at_i (bs := bs) (i := i) (by omega)
    have he := issL_pre bs (i := i + 1) (by omega) hne
    have c : ¬ kindAt bs i = 1 := by
      intro c
      rw [issL_succ, if_pos c] at he
      simp at he
    simp only [d, ei, a1, hs, c, decide_false, true_implies, Bool.true_eq_false, Bool.false_eq_true, false_implies, and_true, true_and, hZ_d0_ok, hS_d0_ok]
    exact hb
theorem Con.two {E : Env} {g : FuncId} {l : List SV} {m : SMem} {b : Bool} {t e : Tree} (ht : b = true → Con E g l m t) (he : b = false → Con E g l m e) : Con E g l m (.br b t e) := by
  intro A hs
  cases hb : b with
  | true => exact ht hb A (hs.1 hb)
  | false => exact he hb A (hs.2 hb)
noncomputable def rowT (l : List Int) (ty : TypeId) (m : SMem) : Tree := .br (decide (l.length = 0)) (.ret (.s (.c (.f (.lit (.slice none 0 0))))) m) (.ret (.s (.c (.f (.slice m.next (.l 0) (.o l.length) (.full 1))))) (m.new (.pop (u32s l)) ty))
theorem issued_con (m : SMem) : Con E0 29 [bkS bs] m (.need [BkOk bs] (rowT (issued bs) 30 m)) := by
  refine Con.asked fun hq => ?_
  have hb : BkOk bs := hq _ (by simp)
  refine Con.two (fun h => ?_) (fun h => ?_)
  · have he : issued bs = [] := List.eq_nil_of_length_eq_zero (of_decide_eq_true h)
    refine (show Con E0 29 [bkS bs] m (needs [] _) from Con.pure E0_ok (by kernel_rfl : E0.fn 29 = some Try.f29) (by kernel_rfl : Try.f29.body = some (Try.f29.body.getD .skip)) (by kernel_rfl) (by kernel_rfl) fun hq => ?_)
    refine (Good.ret (s0m := e0M) [] (run_vc EH_ok 1000 (id0_vc bs (fun i => i = ((0 : Nat) : Int))) ?_ (fun s m h => h.elim) fun fs m h => id0_go (fun i e => by rw [e]; exact hZ_nn hb he 32 0 (by omega)) h)).mono fun _ _ h => h.1
    simp only [and_true, true_and, hZ_d0_ok]
    rfl
  · have he : issued bs ≠ [] := fun e => by
      have := of_decide_eq_false h
      rw [e] at this
      exact this rfl
    refine (show Con E0 29 [bkS bs] m (needs [] _) from Con.fresh E0_ok (by kernel_rfl : E0.fn 29 = some Try.f29) (by kernel_rfl : Try.f29.body = some (Try.f29.body.getD .skip)) (by kernel_rfl) rfl fun _ => ?_)
    refine Good.retX ((run_vc EH_ok 1000 (id0_vc bs (fun i => i = ((0 : Nat) : Int))) ?_ (fun s m h => h.elim) fun fs m h => id0_go (A := freshA (issued bs).length (u32s (issued bs)) 30) (fun i e => by rw [e]; exact hZ_s hb he 32 0 (by omega) rfl) h).mono fun s m h => ?_)
    · simp only [and_true, true_and, hZ_d0_ok]
      rfl
    · unfold freshA at h
      split at h
      · exact ⟨_, h⟩
      · exact h.elim
end
end Go.Proofs.Ytnjmockpdmchcaa
/- Of handle: which handles are good, behind Issue, behind Void; all of them are told once. No condition. -/
namespace Go.Proofs.Ytnjmockpdmchcaa
set_option maxRecDepth 100000
section
variable {bs : Array Value}
theorem goodB_iff (hb : BkOk bs) {h : Int} : goodB bs h = true ↔ ∃ i : Nat, i < 32 ∧ kindAt bs i = 1 ∧ h = nameI i (ageAt bs i) := by
  unfold goodB slotI slotOk nameI
  constructor
  · intro hg
    simp only [Bool.and_eq_true, decide_eq_true_eq] at hg
    obtain ⟨h1, h2, h3⟩ := hg
    rw [if_pos h1] at h2 h3
    exact ⟨((h - 1) % 256).toNat, by omega, h3, by rw [h2]; omega⟩
  · rintro ⟨i, hi, hk, rfl⟩
    have hr := hb.ra i hi
    have e1 : (256 * ageAt bs i + i + 1 - 1) % 256 = i := by omega
    have e2 : (256 * ageAt bs i + i + 1 - 1) / 256 = ageAt bs i := by omega
    simp only [Bool.and_eq_true, decide_eq_true_eq]
    have h1 : 256 * ageAt bs i + i + 1 ≠ 0 ∧ (256 * ageAt bs i + i + 1 - 1) % 256 < 32 ∧ (256 * ageAt bs i + i + 1 - 1) / 256 ≤ 8388607 := ⟨by omega, by omega, by omega⟩
    refine ⟨h1, ?_⟩
    rw [if_pos h1, e1, Int.toNat_natCast, e2]
    exact ⟨rfl, hk⟩
theorem goodB_in (hb : BkOk bs) {h : Int} (hg : goodB bs h = true) : inH h ∧ 1 ≤ h := by
  obtain ⟨i, hi, _, rfl⟩ := (goodB_iff hb).1 hg
  have := hb.ra i hi
  unfold inH nameI
  omega
theorem name_inj {i j : Nat} {a b : Int} (hi : i < 32) (hj : j < 32) (h : nameI i a = nameI j b) : i = j ∧ a = b := by
  unfold nameI at h
  omega
theorem issL_mem (hb : BkOk bs) {h : Int} : ∀ {n : Nat}, h ∈ issL bs n ↔ ∃ i : Nat, i < n ∧ kindAt bs i = 1 ∧ h = nameI i (ageAt bs i)
  | 0 => ⟨fun h => (by cases h), fun ⟨_, h, _⟩ => (by omega)⟩
  | n + 1 => by
    rw [issL_succ]
    split
    · rename_i hk
      rw [List.mem_append, issL_mem hb, List.mem_singleton]
      constructor
      · rintro (⟨i, h1, h2, h3⟩ | h)
        · exact ⟨i, by omega, h2, h3⟩
        · exact ⟨n, by omega, hk, h⟩
      · rintro ⟨i, h1, h2, h3⟩
        by_cases e : i = n
        · rw [e] at h3; exact .inr h3
        · exact .inl ⟨i, by omega, h2, h3⟩
    · rename_i hk
      rw [issL_mem hb]
      constructor
      · rintro ⟨i, h1, h2, h3⟩; exact ⟨i, by omega, h2, h3⟩
      · rintro ⟨i, h1, h2, h3⟩
        by_cases e : i = n
        · rw [e] at h2; exact absurd h2 hk
        · exact ⟨i, by omega, h2, h3⟩
theorem issued_mem (hb : BkOk bs) {h : Int} : h ∈ issued bs ↔ goodB bs h = true := by
  rw [goodB_iff hb]; exact issL_mem hb
theorem issL_nodup (hb : BkOk bs) : ∀ {n : Nat}, n ≤ 32 → (issL bs n).Nodup
  | 0, _ => List.nodup_nil
  | n + 1, hn => by
    rw [issL_succ]
    split
    · rw [List.nodup_append]
      refine ⟨issL_nodup hb (by omega), by simp, fun a ha b hb' => ?_⟩
      obtain ⟨i, h1, _, h3⟩ := (issL_mem hb).1 ha
      rw [List.mem_singleton] at hb'
      intro e
      rw [h3, hb'] at e
      have := (name_inj (by omega) (by omega) e).1
      omega
    · exact issL_nodup hb (by omega)
theorem issued_nodup (hb : BkOk bs) : (issued bs).Nodup := issL_nodup hb (Nat.le_refl _)
theorem freeFrom_some : ∀ {k i j : Nat}, freeFrom bs k i = some j → i ≤ j ∧ j < i + k ∧ kindAt bs j = 0
  | 0, _, _, h => by cases h
  | k + 1, i, j, h => by
    rw [freeFrom_succ] at h
    split at h
    · rename_i hk; cases h; exact ⟨Nat.le_refl _, by omega, hk⟩
    · obtain ⟨h1, h2, h3⟩ := freeFrom_some h; exact ⟨by omega, by omega, h3⟩
theorem freeS_some {j : Nat} (h : freeS bs = some j) : j < 32 ∧ kindAt bs j = 0 := by
  obtain ⟨_, h2, h3⟩ := freeFrom_some (bs := bs) (k := 32) (i := 0) h
  exact ⟨by omega, h3⟩
theorem kind_set {i j : Nat} {x : Int} {k : IntKind} (hs : bs.size = 64) (hi : i < 32) : kindAt (bs.setIfInBounds (i * 2 + 1) (.int k x)) j = if j = i then x else kindAt bs j := by
  unfold kindAt intAt
  by_cases e : j = i
  · rw [if_pos e, e, set_in (by omega)]
  · rw [if_neg e, set_out (by omega)]
theorem age_set {i j : Nat} {v : Value} : ageAt (bs.setIfInBounds (i * 2 + 1) v) j = ageAt bs j := by
  unfold ageAt intAt
  rw [set_out (by omega)]
theorem bk_set (hb : BkOk bs) {i : Nat} {x : Int} (hx : 0 ≤ x ∧ x ≤ 2) (hi : i < 32) : BkOk (bs.setIfInBounds (i * 2 + 1) (.int .u8 x)) := by
  have hs := hb.sz
  refine ⟨by rw [set_size]; exact hs, fun j hj => ?_, fun j hj => ?_, fun j hj => by rw [age_set]; exact hb.ra j hj, fun j hj => ?_⟩
  · have := hb.a j hj
    unfold IsInt intAt at this ⊢
    rw [set_out (by omega)]; exact this
  · by_cases e : j = i
    · rw [e]; exact isI_of (set_in (by omega))
    · have := hb.k j hj
      unfold IsInt intAt at this ⊢
      rw [set_out (by omega)]; exact this
  · rw [kind_set hs hi]
    split
    · exact hx
    · exact hb.rk j hj
theorem issue_cases : (freeS bs = none ∧ issueB bs = bs ∧ issueI bs = 0 ∧ issueOk bs = false) ∨ ∃ i, i < 32 ∧ kindAt bs i = 0 ∧ issueB bs = bs.setIfInBounds (i * 2 + 1) (.int .u8 1) ∧ issueI bs = nameI i (ageAt bs i) ∧ issueOk bs = true ∧ freeS bs = some i := by
  unfold issueB issueI issueOk
  cases h : freeS bs with
  | none => exact .inl ⟨rfl, rfl, rfl, rfl⟩
  | some i =>
    obtain ⟨h1, h2⟩ := freeS_some h
    exact .inr ⟨i, h1, h2, rfl, rfl, rfl, rfl⟩
theorem issue_bk (hb : BkOk bs) : BkOk (issueB bs) := by
  rcases issue_cases (bs := bs) with ⟨_, e, _⟩ | ⟨i, h1, _, e, _⟩
  · rw [e]; exact hb
  · rw [e]; exact bk_set hb (by omega) h1
theorem issue_good (hb : BkOk bs) (h : Int) : goodB (issueB bs) h = (goodB bs h || (issueOk bs && decide (h = issueI bs))) := by
  rcases issue_cases (bs := bs) with ⟨_, e1, _, e3⟩ | ⟨i, h1, h2, e1, e2, e3, _⟩
  · rw [e1, e3]; simp
  · rw [e1, e2, e3, Bool.eq_iff_iff, goodB_iff (bk_set hb (by omega) h1), Bool.or_eq_true, goodB_iff hb, Bool.true_and, decide_eq_true_eq]
    simp only [kind_set hb.sz h1, age_set]
    constructor
    · rintro ⟨j, hj, hk, e⟩
      by_cases c : j = i
      · rw [c] at e; exact .inr e
      · rw [if_neg c] at hk; exact .inl ⟨j, hj, hk, e⟩
    · rintro (⟨j, hj, hk, e⟩ | e)
      · refine ⟨j, hj, ?_, e⟩
        rw [if_neg (fun c => by rw [c] at hk; omega)]; exact hk
      · exact ⟨i, h1, by rw [if_pos rfl], e⟩
theorem void_kind (hs : bs.size = 64) {i j : Nat} (hi : i < 32) : kindAt (voidS bs i) j = if j = i then (if ageAt bs i = 8388607 then 2 else 0) else kindAt bs j := by
  unfold voidS
  by_cases c : ageAt bs i = 8388607
  · rw [if_pos c, kind_set hs hi, if_pos c]
  · rw [if_neg c, if_neg c]
    unfold kindAt intAt
    obtain ⟨_, _, h2, h3⟩ := putAt2 (cs := bs) (p := i * 2) (u := .int .u32 (ageAt bs i + 1)) (v := .int .u8 0) (by omega)
    by_cases e : j = i
    · rw [if_pos e, e, h2]
    · rw [if_neg e, h3 _ (by omega) (by omega)]
theorem void_age (hs : bs.size = 64) {i j : Nat} (hi : i < 32) : ageAt (voidS bs i) j = if j = i then (if ageAt bs i = 8388607 then ageAt bs i else ageAt bs i + 1) else ageAt bs j := by
  unfold voidS
  by_cases c : ageAt bs i = 8388607
  · rw [if_pos c, age_set, if_pos c]
    split
    · rename_i e; rw [e]
    · rfl
  · rw [if_neg c, if_neg c]
    obtain ⟨_, h1, _, h3⟩ := putAt2 (cs := bs) (p := i * 2) (u := .int .u32 (ageAt bs i + 1)) (v := .int .u8 0) (by omega)
    by_cases e : j = i
    · rw [if_pos e, e]
      show intAt _ _ = _
      unfold intAt
      rw [h1]
    · rw [if_neg e]
      show intAt _ _ = intAt _ _
      unfold intAt
      rw [h3 _ (by omega) (by omega)]
theorem voidS_bk (hb : BkOk bs) {i : Nat} (hi : i < 32) : BkOk (voidS bs i) := by
  have hs := hb.sz
  by_cases c : ageAt bs i = 8388607
  · have e : voidS bs i = bs.setIfInBounds (i * 2 + 1) (.int .u8 2) := by unfold voidS; rw [if_pos c]
    rw [e]; exact bk_set hb (by omega) hi
  · have e : voidS bs i = putAt bs (i * 2) [.int .u32 (ageAt bs i + 1), .int .u8 0] := by unfold voidS; rw [if_neg c]
    obtain ⟨_, h1, h2, h3⟩ := putAt2 (cs := bs) (p := i * 2) (u := .int .u32 (ageAt bs i + 1)) (v := .int .u8 0) (by omega)
    have hra := hb.ra i hi
    refine ⟨voidS_size hb hi, fun j hj => ?_, fun j hj => ?_, fun j hj => ?_, fun j hj => ?_⟩
    · rw [e]
      by_cases k : j = i
      · rw [k]; exact isI_of h1
      · have := hb.a j hj
        unfold IsInt intAt at this ⊢
        rw [h3 _ (by omega) (by omega)]; exact this
    · rw [e]
      by_cases k : j = i
      · rw [k]; exact isI_of h2
      · have := hb.k j hj
        unfold IsInt intAt at this ⊢
        rw [h3 _ (by omega) (by omega)]; exact this
    · rw [void_age hs hi, if_neg c]
      split
      · omega
      · exact hb.ra j hj
    · rw [void_kind hs hi, if_neg c]
      split
      · omega
      · exact hb.rk j hj
theorem slotI_name {i : Nat} {a : Int} (hi : i < 32) (ha : 0 ≤ a ∧ a ≤ 8388607) : (slotI (nameI i a)).toNat = i := by
  unfold slotI slotOk nameI
  rw [if_pos (by rw [decide_eq_true_eq]; omega)]
  omega
theorem void_cases (hb : BkOk bs) (x : Int) : (goodB bs x = false ∧ voidB bs x = bs) ∨ ∃ i, i < 32 ∧ kindAt bs i = 1 ∧ x = nameI i (ageAt bs i) ∧ goodB bs x = true ∧ voidB bs x = voidS bs i := by
  unfold voidB
  cases hg : goodB bs x with
  | false => exact .inl ⟨rfl, rfl⟩
  | true =>
    obtain ⟨i, hi, hk, e⟩ := (goodB_iff hb).1 hg
    refine .inr ⟨i, hi, hk, e, rfl, ?_⟩
    rw [if_pos rfl, e, slotI_name hi (hb.ra i hi)]
theorem void_bk (hb : BkOk bs) (x : Int) : BkOk (voidB bs x) := by
  rcases void_cases hb x with ⟨_, e⟩ | ⟨i, hi, _, _, _, e⟩
  · rw [e]; exact hb
  · rw [e]; exact voidS_bk hb hi
theorem void_good (hb : BkOk bs) (x h : Int) : goodB (voidB bs x) h = (goodB bs h && !decide (h = x)) := by
  rcases void_cases hb x with ⟨hg, e⟩ | ⟨i, hi, hk, ex, hg, e⟩
  · rw [e]
    by_cases c : h = x
    · rw [c, hg]; rfl
    · rw [decide_eq_false c]; simp
  · rw [e, Bool.eq_iff_iff, goodB_iff (voidS_bk hb hi), Bool.and_eq_true, goodB_iff hb, Bool.not_eq_true', decide_eq_false_iff_not]
    have hs := hb.sz
    constructor
    · rintro ⟨j, hj, hk', e'⟩
      rw [void_kind hs hi] at hk'
      by_cases c : j = i
      · rw [if_pos c] at hk'
        split at hk' <;> omega
      · rw [if_neg c] at hk'
        rw [void_age hs hi, if_neg c] at e'
        refine ⟨⟨j, hj, hk', e'⟩, fun e2 => ?_⟩
        rw [e2, ex] at e'
        exact c (name_inj hj hi e'.symm).1
    · rintro ⟨⟨j, hj, hk', e'⟩, hne⟩
      have c : j ≠ i := fun c => hne (by rw [e', ex, c])
      exact ⟨j, hj, by rw [void_kind hs hi, if_neg c]; exact hk', by rw [void_age hs hi, if_neg c]; exact e'⟩
end
end Go.Proofs.Ytnjmockpdmchcaa
/- Of the document's books: Slot, Issue: their states. No condition. -/
namespace Go.Proofs.Ytnjmockpdmchcaa
set_option linter.unusedVariables false
def genW (rb : Array Value) (i : Nat) : Int := intAt rb i
def isW (rb : Array Value) (i : Nat) : Int := intAt rb (32 + i)
noncomputable def rbS (rb : Array Value) : SV := .s (.agg (.op rb))
structure RbOk (rb : Array Value) : Prop where
  sz : rb.size = 64
  c : ∀ k, k < 64 → IsInt .i64 rb k
  rg : ∀ i, i < 32 → 0 ≤ genW rb i ∧ genW rb i ≤ 8388607
def slotF (rb : Array Value) (h : Int) : Nat → Nat → Int
  | 0, _ => -1
  | k + 1, i => if isW rb i = 1 ∧ nameI i (genW rb i) = h then i else slotF rb h k (i + 1)
def slotW (rb : Array Value) (h : Int) : Int := slotF rb h 32 0
noncomputable def conB0 (g : FuncId) (l : List SV) (m : SMem) : Option Tree := match g, l with
  | 31, [.s (.agg (.op rb)), .s (.c (.f (.int .i64 h)))] => some (.need [RbOk rb] (.ret (i64 (.o (slotW rb h.den))) m))
  | _, _ => none
noncomputable def EB : Env := ⟨Try.prog, fnOf, fun _ _ _ => none, haltAt [31 * 1000 + 2, 36 * 1000 + 2]⟩
noncomputable def EBv : Env := ⟨Try.prog, fnOf, conB0, fun _ _ _ => false⟩
noncomputable def bL_d0 : List SIt := sekF Try.f31 2
noncomputable def bL_F (rb : Array Value) (h : Int) (i : Int) : List SFr := [frOf 31 Try.f31 [(1, i64 (.o h)), (2, ptr 0 (.l 0)), (5, i64 (.o i))] bL_d0]
noncomputable def bL_M (rb : Array Value) (h : Int) (i : Int) : SMem := mkM 1 [(0, ⟨.op rb, 38, true⟩)]
noncomputable def bL_n (rb : Array Value) (h : Int) (Q : Int → Prop) (fs : List SFr) (m : SMem) : Prop := (match frNth fs 0 with | some f0 => (match rdI f0 5 with | some i => (match rdP f0 2 with | some p0 => Q i ∧ subOk 0 [(0, p0)] (bL_F rb h i) (bL_M rb h i) fs m | none => False) | none => False) | none => False)
noncomputable def bI_d0 : List SIt := sekF Try.f36 2
noncomputable def bI_F (rb : Array Value) (i : Int) (zz : Array Value) : List SFr := [frOf 36 Try.f36 [(1, ptr 0 (.l 0)), (2, ptr 1 (.l 0)), (4, i64 (.o i))] bI_d0]
noncomputable def bI_M (rb : Array Value) (i : Int) (zz : Array Value) : SMem := mkM 2 [(0, ⟨.op rb, 38, true⟩), (1, ⟨.op zz, 38, true⟩)]
noncomputable def bI_n (rb : Array Value) (Q : Int → Array Value → Prop) (fs : List SFr) (m : SMem) : Prop := (match frNth fs 0 with | some f0 => (match rdI f0 4 with | some i => (match rdP f0 1 with | some p0 => (match rdP f0 2 with | some p1 => (match rdA m p1 with | some zz => Q i zz ∧ subOk 0 [(0, p0), (1, p1)] (bI_F rb i zz) (bI_M rb i zz) fs m | none => False) | none => False) | none => False) | none => False) | none => False)
noncomputable def bl0_t (rb : Array Value) (h : Int) : Tree := run EB 1000 0 [callFr 31 Try.f31.ntmps [rbS rb, i64 (.o h)] (Try.f31.body.getD .skip)] e0M
noncomputable def bl0_x (rb : Array Value) (h : Int) (QbL : Int → Prop) (fs : List SFr) (m : SMem) : Prop := bL_n rb h QbL fs m
noncomputable def bi0_t (rb : Array Value) : Tree := run EB 1000 0 [callFr 36 Try.f36.ntmps [rbS rb] (Try.f36.body.getD .skip)] e0M
noncomputable def bi0_x (rb : Array Value) (QbI : Int → Array Value → Prop) (fs : List SFr) (m : SMem) : Prop := bI_n rb QbI fs m
theorem bL_d0_ok (r : Nat → Option Nat) : TodoOk r bL_d0 bL_d0 := TodoOk.it (by kernel_rfl)
theorem bI_d0_ok (r : Nat → Option Nat) : TodoOk r bI_d0 bI_d0 := TodoOk.it (by kernel_rfl)
theorem bL_good {A : SV → SMem → Prop} {rb : Array Value} {h : Int} {Q : Int → Prop} {fs : List SFr} {m : SMem} (H : ∀ i, Q i → Good Try.prog A 0 (bL_F rb h i) (bL_M rb h i)) (hb : bL_n rb h Q fs m) : Good Try.prog A 0 fs m := by
  unfold bL_n at hb
  split at hb
  rotate_left
  · exact hb.elim
  split at hb
  rotate_left
  · exact hb.elim
  split at hb
  rotate_left
  · exact hb.elim
  exact Good.of_sub hb.2 (H _ hb.1)
theorem bI_good {A : SV → SMem → Prop} {rb : Array Value} {Q : Int → Array Value → Prop} {fs : List SFr} {m : SMem} (H : ∀ i zz, Q i zz → Good Try.prog A 0 (bI_F rb i zz) (bI_M rb i zz)) (hb : bI_n rb Q fs m) : Good Try.prog A 0 fs m := by
  unfold bI_n at hb
  split at hb
  rotate_left
  · exact hb.elim
  split at hb
  rotate_left
  · exact hb.elim
  split at hb
  rotate_left
  · exact hb.elim
  split at hb
  rotate_left
  · exact hb.elim
  split at hb
  rotate_left
  · exact hb.elim
  exact Good.of_sub hb.2 (H _ _ hb.1)
theorem bl0_go {A : SV → SMem → Prop} {rb : Array Value} {h : Int} {QbL : Int → Prop} {fs : List SFr} {m : SMem} (hbL : ∀ i', QbL i' → Good Try.prog A 0 (bL_F rb h i') (bL_M rb h i')) (hb : bl0_x rb h QbL fs m) : Good Try.prog A 0 fs m := by
  unfold bl0_x at hb
  exact bL_good hbL hb
theorem bi0_go {A : SV → SMem → Prop} {rb : Array Value} {QbI : Int → Array Value → Prop} {fs : List SFr} {m : SMem} (hbI : ∀ i' zz', QbI i' zz' → Good Try.prog A 0 (bI_F rb i' zz') (bI_M rb i' zz')) (hb : bi0_x rb QbI fs m) : Good Try.prog A 0 fs m := by
  unfold bi0_x at hb
  exact bI_good hbI hb
end Go.Proofs.Ytnjmockpdmchcaa
/- Of the document's books: Slot, Issue: their states. -/
namespace Go.Proofs.Ytnjmockpdmchcaa
set_option maxRecDepth 100000
theorem bl0_vc (rb : Array Value) (h : Int) (QbL : Int → Prop) : (bl0_t rb h).vc ((fun _ _ => False)) (bl0_x rb h QbL) =
    (QbL (0 : Int) ∧ CallKind.normal = CallKind.normal ∧ TodoOk (ren 0 [(0, 0)]) bL_d0 bL_d0 ∧ h = h ∧ (0 : Int) = (0 : Int) ∧ (38 : TypeId) = (38 : Nat) ∧ rb = rb ∧ True) := by kernel_rfl
theorem bi0_vc (rb : Array Value) (QbI : Int → Array Value → Prop) : (bi0_t rb).vc ((fun _ _ => False)) (bi0_x rb QbI) =
    (QbI (0 : Int) #[Value.int IntKind.i64 (0 : Int), Value.int IntKind.i64 (0 : Int), Value.int IntKind.i64 (0 : Int), Value.int IntKind.i64 (0 : Int), Value.int IntKind.i64 (0 : Int), Value.int IntKind.i64 (0 : Int), Value.int IntKind.i64 (0 : Int), Value.int IntKind.i64 (0 : Int), Value.int IntKind.i64 (0 : Int), Value.int IntKind.i64 (0 : Int), Value.int IntKind.i64 (0 : Int), Value.int IntKind.i64 (0 : Int), Value.int IntKind.i64 (0 : Int), Value.int IntKind.i64 (0 : Int), Value.int IntKind.i64 (0 : Int), Value.int IntKind.i64 (0 : Int), Value.int IntKind.i64 (0 : Int), Value.int IntKind.i64 (0 : Int), Value.int IntKind.i64 (0 : Int), Value.int IntKind.i64 (0 : Int), Value.int IntKind.i64 (0 : Int), Value.int IntKind.i64 (0 : Int), Value.int IntKind.i64 (0 : Int), Value.int IntKind.i64 (0 : Int), Value.int IntKind.i64 (0 : Int), Value.int IntKind.i64 (0 : Int), Value.int IntKind.i64 (0 : Int), Value.int IntKind.i64 (0 : Int), Value.int IntKind.i64 (0 : Int), Value.int IntKind.i64 (0 : Int), Value.int IntKind.i64 (0 : Int), Value.int IntKind.i64 (0 : Int), Value.int IntKind.i64 (0 : Int), Value.int IntKind.i64 (0 : Int), Value.int IntKind.i64 (0 : Int), Value.int IntKind.i64 (0 : Int), Value.int IntKind.i64 (0 : Int), Value.int IntKind.i64 (0 : Int), Value.int IntKind.i64 (0 : Int), Value.int IntKind.i64 (0 : Int), Value.int IntKind.i64 (0 : Int), Value.int IntKind.i64 (0 : Int), Value.int IntKind.i64 (0 : Int), Value.int IntKind.i64 (0 : Int), Value.int IntKind.i64 (0 : Int), Value.int IntKind.i64 (0 : Int), Value.int IntKind.i64 (0 : Int), Value.int IntKind.i64 (0 : Int), Value.int IntKind.i64 (0 : Int), Value.int IntKind.i64 (0 : Int), Value.int IntKind.i64 (0 : Int), Value.int IntKind.i64 (0 : Int), Value.int IntKind.i64 (0 : Int), Value.int IntKind.i64 (0 : Int), Value.int IntKind.i64 (0 : Int), Value.int IntKind.i64 (0 : Int), Value.int IntKind.i64 (0 : Int), Value.int IntKind.i64 (0 : Int), Value.int IntKind.i64 (0 : Int), Value.int IntKind.i64 (0 : Int), Value.int IntKind.i64 (0 : Int), Value.int IntKind.i64 (0 : Int), Value.int IntKind.i64 (0 : Int), Value.int IntKind.i64 (0 : Int)] ∧ CallKind.normal = CallKind.normal ∧ TodoOk (ren 0 [(0, 0), (1, 1)]) bI_d0 bI_d0 ∧ (0 : Int) = (0 : Int) ∧ (38 : TypeId) = (38 : Nat) ∧ rb = rb ∧ (38 : TypeId) = (38 : Nat) ∧ #[Value.int IntKind.i64 (0 : Int), Value.int IntKind.i64 (0 : Int), Value.int IntKind.i64 (0 : Int), Value.int IntKind.i64 (0 : Int), Value.int IntKind.i64 (0 : Int), Value.int IntKind.i64 (0 : Int), Value.int IntKind.i64 (0 : Int), Value.int IntKind.i64 (0 : Int), Value.int IntKind.i64 (0 : Int), Value.int IntKind.i64 (0 : Int), Value.int IntKind.i64 (0 : Int), Value.int IntKind.i64 (0 : Int), Value.int IntKind.i64 (0 : Int), Value.int IntKind.i64 (0 : Int), Value.int IntKind.i64 (0 : Int), Value.int IntKind.i64 (0 : Int), Value.int IntKind.i64 (0 : Int), Value.int IntKind.i64 (0 : Int), Value.int IntKind.i64 (0 : Int), Value.int IntKind.i64 (0 : Int), Value.int IntKind.i64 (0 : Int), Value.int IntKind.i64 (0 : Int), Value.int IntKind.i64 (0 : Int), Value.int IntKind.i64 (0 : Int), Value.int IntKind.i64 (0 : Int), Value.int IntKind.i64 (0 : Int), Value.int IntKind.i64 (0 : Int), Value.int IntKind.i64 (0 : Int), Value.int IntKind.i64 (0 : Int), Value.int IntKind.i64 (0 : Int), Value.int IntKind.i64 (0 : Int), Value.int IntKind.i64 (0 : Int), Value.int IntKind.i64 (0 : Int), Value.int IntKind.i64 (0 : Int), Value.int IntKind.i64 (0 : Int), Value.int IntKind.i64 (0 : Int), Value.int IntKind.i64 (0 : Int), Value.int IntKind.i64 (0 : Int), Value.int IntKind.i64 (0 : Int), Value.int IntKind.i64 (0 : Int), Value.int IntKind.i64 (0 : Int), Value.int IntKind.i64 (0 : Int), Value.int IntKind.i64 (0 : Int), Value.int IntKind.i64 (0 : Int), Value.int IntKind.i64 (0 : Int), Value.int IntKind.i64 (0 : Int), Value.int IntKind.i64 (0 : Int), Value.int IntKind.i64 (0 : Int), Value.int IntKind.i64 (0 : Int), Value.int IntKind.i64 (0 : Int), Value.int IntKind.i64 (0 : Int), Value.int IntKind.i64 (0 : Int), Value.int IntKind.i64 (0 : Int), Value.int IntKind.i64 (0 : Int), Value.int IntKind.i64 (0 : Int), Value.int IntKind.i64 (0 : Int), Value.int IntKind.i64 (0 : Int), Value.int IntKind.i64 (0 : Int), Value.int IntKind.i64 (0 : Int), Value.int IntKind.i64 (0 : Int), Value.int IntKind.i64 (0 : Int), Value.int IntKind.i64 (0 : Int), Value.int IntKind.i64 (0 : Int), Value.int IntKind.i64 (0 : Int)] = #[Value.int IntKind.i64 (0 : Int), Value.int IntKind.i64 (0 : Int), Value.int IntKind.i64 (0 : Int), Value.int IntKind.i64 (0 : Int), Value.int IntKind.i64 (0 : Int), Value.int IntKind.i64 (0 : Int), Value.int IntKind.i64 (0 : Int), Value.int IntKind.i64 (0 : Int), Value.int IntKind.i64 (0 : Int), Value.int IntKind.i64 (0 : Int), Value.int IntKind.i64 (0 : Int), Value.int IntKind.i64 (0 : Int), Value.int IntKind.i64 (0 : Int), Value.int IntKind.i64 (0 : Int), Value.int IntKind.i64 (0 : Int), Value.int IntKind.i64 (0 : Int), Value.int IntKind.i64 (0 : Int), Value.int IntKind.i64 (0 : Int), Value.int IntKind.i64 (0 : Int), Value.int IntKind.i64 (0 : Int), Value.int IntKind.i64 (0 : Int), Value.int IntKind.i64 (0 : Int), Value.int IntKind.i64 (0 : Int), Value.int IntKind.i64 (0 : Int), Value.int IntKind.i64 (0 : Int), Value.int IntKind.i64 (0 : Int), Value.int IntKind.i64 (0 : Int), Value.int IntKind.i64 (0 : Int), Value.int IntKind.i64 (0 : Int), Value.int IntKind.i64 (0 : Int), Value.int IntKind.i64 (0 : Int), Value.int IntKind.i64 (0 : Int), Value.int IntKind.i64 (0 : Int), Value.int IntKind.i64 (0 : Int), Value.int IntKind.i64 (0 : Int), Value.int IntKind.i64 (0 : Int), Value.int IntKind.i64 (0 : Int), Value.int IntKind.i64 (0 : Int), Value.int IntKind.i64 (0 : Int), Value.int IntKind.i64 (0 : Int), Value.int IntKind.i64 (0 : Int), Value.int IntKind.i64 (0 : Int), Value.int IntKind.i64 (0 : Int), Value.int IntKind.i64 (0 : Int), Value.int IntKind.i64 (0 : Int), Value.int IntKind.i64 (0 : Int), Value.int IntKind.i64 (0 : Int), Value.int IntKind.i64 (0 : Int), Value.int IntKind.i64 (0 : Int), Value.int IntKind.i64 (0 : Int), Value.int IntKind.i64 (0 : Int), Value.int IntKind.i64 (0 : Int), Value.int IntKind.i64 (0 : Int), Value.int IntKind.i64 (0 : Int), Value.int IntKind.i64 (0 : Int), Value.int IntKind.i64 (0 : Int), Value.int IntKind.i64 (0 : Int), Value.int IntKind.i64 (0 : Int), Value.int IntKind.i64 (0 : Int), Value.int IntKind.i64 (0 : Int), Value.int IntKind.i64 (0 : Int), Value.int IntKind.i64 (0 : Int), Value.int IntKind.i64 (0 : Int), Value.int IntKind.i64 (0 : Int)] ∧ True) := by kernel_rfl
theorem bl1 (rb : Array Value) (h i x : Int) (Q : Int → Prop) : (stepT EB.go (run EB 1000) 0 (bL_F rb h i) (bL_M rb h i)).vc (retOk 0 [] (i64 (.o x)) e0M) (bL_n rb h Q) =
    ((decide (i < (32 : Int)) = true → (((0 : Int) ≤ i ∧ i < (32 : Int)) ∧ True) ∧ (IsInt IntKind.i64 rb ((32 : Nat) + Int.toNat i * 1) ∧ True) ∧ (((intAt rb ((32 : Nat) + Int.toNat i * 1) == (1 : Int)) == true) = true → (Array.size rb = (64 : Nat) ∧ True) ∧ (((0 : Int) ≤ i ∧ i < (32 : Int)) ∧ True) ∧ (IsInt IntKind.i64 rb ((0 : Nat) + Int.toNat i * 1) ∧ True) ∧ ((ari BinOp.add IntKind.i64 (ari BinOp.add IntKind.i64 i (ari BinOp.mul IntKind.i64 (256 : Int) (intAt rb ((0 : Nat) + Int.toNat i * 1)))) (1 : Int) == h) = true → x = i ∧ True) ∧ ((ari BinOp.add IntKind.i64 (ari BinOp.add IntKind.i64 i (ari BinOp.mul IntKind.i64 (256 : Int) (intAt rb ((0 : Nat) + Int.toNat i * 1)))) (1 : Int) == h) = false → Q (ari BinOp.add IntKind.i64 i (1 : Int)) ∧ CallKind.normal = CallKind.normal ∧ TodoOk (ren 0 [(0, 0)]) bL_d0 bL_d0 ∧ h = h ∧ ari BinOp.add IntKind.i64 i (1 : Int) = ari BinOp.add IntKind.i64 i (1 : Int) ∧ (38 : TypeId) = (38 : TypeId) ∧ rb = rb ∧ True)) ∧ (((intAt rb ((32 : Nat) + Int.toNat i * 1) == (1 : Int)) == true) = false → Q (ari BinOp.add IntKind.i64 i (1 : Int)) ∧ CallKind.normal = CallKind.normal ∧ TodoOk (ren 0 [(0, 0)]) bL_d0 bL_d0 ∧ h = h ∧ ari BinOp.add IntKind.i64 i (1 : Int) = ari BinOp.add IntKind.i64 i (1 : Int) ∧ (38 : TypeId) = (38 : TypeId) ∧ rb = rb ∧ True)) ∧ (decide (i < (32 : Int)) = false → x = (-1 : Int) ∧ True)) := by kernel_rfl
theorem bi1 (rb : Array Value) (i : Int) (zz o : Array Value) (x : Int) (Q : Int → Array Value → Prop) : (stepT EB.go (run EB 1000) 0 (bI_F rb i zz) (bI_M rb i zz)).vc (retOk 0 [] (.tup [.agg (.op o), .c (.f (.int .i64 (.o x)))]) e0M) (bI_n rb Q) =
    ((decide (i < (32 : Int)) = true → (((0 : Int) ≤ i ∧ i < (32 : Int)) ∧ True) ∧ (IsInt IntKind.i64 rb ((32 : Nat) + Int.toNat i * 1) ∧ True) ∧ ((intAt rb ((32 : Nat) + Int.toNat i * 1) == (0 : Int)) = true → (((0 : Int) ≤ i ∧ i < (32 : Int)) ∧ True) ∧ ((32 : Nat) + Int.toNat i * 1 < Array.size rb ∧ True) ∧ (Array.size (Array.setIfInBounds rb ((32 : Nat) + Int.toNat i * 1) (Value.int IntKind.i64 (1 : Int))) = (64 : Nat) ∧ True) ∧ (Array.size (Array.setIfInBounds rb ((32 : Nat) + Int.toNat i * 1) (Value.int IntKind.i64 (1 : Int))) = (64 : Nat) ∧ True) ∧ (((0 : Int) ≤ i ∧ i < (32 : Int)) ∧ True) ∧ (IsInt IntKind.i64 (Array.setIfInBounds rb ((32 : Nat) + Int.toNat i * 1) (Value.int IntKind.i64 (1 : Int))) ((0 : Nat) + Int.toNat i * 1) ∧ True) ∧ (Array.size (Array.setIfInBounds rb ((32 : Nat) + Int.toNat i * 1) (Value.int IntKind.i64 (1 : Int))) = (64 : Nat) ∧ Array.size (Array.setIfInBounds rb ((32 : Nat) + Int.toNat i * 1) (Value.int IntKind.i64 (1 : Int))) = Array.size zz ∧ True) ∧ (Array.size (Array.setIfInBounds rb ((32 : Nat) + Int.toNat i * 1) (Value.int IntKind.i64 (1 : Int))) = (64 : Nat) ∧ True) ∧ o = Array.setIfInBounds rb ((32 : Nat) + Int.toNat i * 1) (Value.int IntKind.i64 (1 : Int)) ∧ x = ari BinOp.add IntKind.i64 (ari BinOp.add IntKind.i64 i (ari BinOp.mul IntKind.i64 (256 : Int) (intAt (Array.setIfInBounds rb ((32 : Nat) + Int.toNat i * 1) (Value.int IntKind.i64 (1 : Int))) ((0 : Nat) + Int.toNat i * 1)))) (1 : Int) ∧ True) ∧ ((intAt rb ((32 : Nat) + Int.toNat i * 1) == (0 : Int)) = false → Q (ari BinOp.add IntKind.i64 i (1 : Int)) zz ∧ CallKind.normal = CallKind.normal ∧ TodoOk (ren 0 [(0, 0), (1, 1)]) bI_d0 bI_d0 ∧ ari BinOp.add IntKind.i64 i (1 : Int) = ari BinOp.add IntKind.i64 i (1 : Int) ∧ (38 : TypeId) = (38 : TypeId) ∧ rb = rb ∧ (38 : TypeId) = (38 : TypeId) ∧ zz = zz ∧ True)) ∧ (decide (i < (32 : Int)) = false → (Array.size rb = (64 : Nat) ∧ True) ∧ (Array.size rb = (64 : Nat) ∧ Array.size rb = Array.size zz ∧ True) ∧ (Array.size rb = (64 : Nat) ∧ True) ∧ o = rb ∧ x = (0 : Int) ∧ True)) := by kernel_rfl
theorem bv0 (rb : Array Value) (h : Int) (o : Array Value) (b : Bool) : (run EBv 1000 0 [callFr 32 Try.f32.ntmps [rbS rb, i64 (.o h)] (Try.f32.body.getD .skip)] e0M).vc (retOk 0 [] (.tup [.agg (.op o), .c (.f (.bool (.o b)))]) e0M) (fun _ _ => False) =
    ((Array.size rb = (64 : Nat) ∧ True) ∧ (RbOk rb ∧ True) ∧ (decide (slotW rb h < (0 : Int)) = true → (Array.size rb = (64 : Nat) ∧ True) ∧ (Array.size rb = (64 : Nat) ∧ Array.size rb = (64 : Nat) ∧ True) ∧ (Array.size rb = (64 : Nat) ∧ True) ∧ o = rb ∧ b = false ∧ True) ∧ (decide (slotW rb h < (0 : Int)) = false → (((0 : Int) ≤ slotW rb h ∧ slotW rb h < (32 : Int)) ∧ True) ∧ ((32 : Nat) + Int.toNat (slotW rb h) * 1 < Array.size rb ∧ True) ∧ (((0 : Int) ≤ slotW rb h ∧ slotW rb h < (32 : Int)) ∧ True) ∧ (IsInt IntKind.i64 (Array.setIfInBounds rb ((32 : Nat) + Int.toNat (slotW rb h) * 1) (Value.int IntKind.i64 (0 : Int))) ((0 : Nat) + Int.toNat (slotW rb h) * 1) ∧ True) ∧ ((intAt (Array.setIfInBounds rb ((32 : Nat) + Int.toNat (slotW rb h) * 1) (Value.int IntKind.i64 (0 : Int))) ((0 : Nat) + Int.toNat (slotW rb h) * 1) == (8388607 : Int)) = true → (((0 : Int) ≤ slotW rb h ∧ slotW rb h < (32 : Int)) ∧ True) ∧ ((32 : Nat) + Int.toNat (slotW rb h) * 1 < Array.size (Array.setIfInBounds rb ((32 : Nat) + Int.toNat (slotW rb h) * 1) (Value.int IntKind.i64 (0 : Int))) ∧ True) ∧ (Array.size (Array.setIfInBounds (Array.setIfInBounds rb ((32 : Nat) + Int.toNat (slotW rb h) * 1) (Value.int IntKind.i64 (0 : Int))) ((32 : Nat) + Int.toNat (slotW rb h) * 1) (Value.int IntKind.i64 (2 : Int))) = (64 : Nat) ∧ True) ∧ (Array.size (Array.setIfInBounds (Array.setIfInBounds rb ((32 : Nat) + Int.toNat (slotW rb h) * 1) (Value.int IntKind.i64 (0 : Int))) ((32 : Nat) + Int.toNat (slotW rb h) * 1) (Value.int IntKind.i64 (2 : Int))) = (64 : Nat) ∧ Array.size (Array.setIfInBounds (Array.setIfInBounds rb ((32 : Nat) + Int.toNat (slotW rb h) * 1) (Value.int IntKind.i64 (0 : Int))) ((32 : Nat) + Int.toNat (slotW rb h) * 1) (Value.int IntKind.i64 (2 : Int))) = (64 : Nat) ∧ True) ∧ (Array.size (Array.setIfInBounds (Array.setIfInBounds rb ((32 : Nat) + Int.toNat (slotW rb h) * 1) (Value.int IntKind.i64 (0 : Int))) ((32 : Nat) + Int.toNat (slotW rb h) * 1) (Value.int IntKind.i64 (2 : Int))) = (64 : Nat) ∧ True) ∧ o = Array.setIfInBounds (Array.setIfInBounds rb ((32 : Nat) + Int.toNat (slotW rb h) * 1) (Value.int IntKind.i64 (0 : Int))) ((32 : Nat) + Int.toNat (slotW rb h) * 1) (Value.int IntKind.i64 (2 : Int)) ∧ b = true ∧ True) ∧ ((intAt (Array.setIfInBounds rb ((32 : Nat) + Int.toNat (slotW rb h) * 1) (Value.int IntKind.i64 (0 : Int))) ((0 : Nat) + Int.toNat (slotW rb h) * 1) == (8388607 : Int)) = false → (((0 : Int) ≤ slotW rb h ∧ slotW rb h < (32 : Int)) ∧ True) ∧ (IsInt IntKind.i64 (Array.setIfInBounds rb ((32 : Nat) + Int.toNat (slotW rb h) * 1) (Value.int IntKind.i64 (0 : Int))) ((0 : Nat) + Int.toNat (slotW rb h) * 1) ∧ True) ∧ (((0 : Int) ≤ slotW rb h ∧ slotW rb h < (32 : Int)) ∧ True) ∧ ((0 : Nat) + Int.toNat (slotW rb h) * 1 < Array.size (Array.setIfInBounds rb ((32 : Nat) + Int.toNat (slotW rb h) * 1) (Value.int IntKind.i64 (0 : Int))) ∧ True) ∧ (Array.size (Array.setIfInBounds (Array.setIfInBounds rb ((32 : Nat) + Int.toNat (slotW rb h) * 1) (Value.int IntKind.i64 (0 : Int))) ((0 : Nat) + Int.toNat (slotW rb h) * 1) (Value.int IntKind.i64 (ari BinOp.add IntKind.i64 (intAt (Array.setIfInBounds rb ((32 : Nat) + Int.toNat (slotW rb h) * 1) (Value.int IntKind.i64 (0 : Int))) ((0 : Nat) + Int.toNat (slotW rb h) * 1)) (1 : Int)))) = (64 : Nat) ∧ True) ∧ (Array.size (Array.setIfInBounds (Array.setIfInBounds rb ((32 : Nat) + Int.toNat (slotW rb h) * 1) (Value.int IntKind.i64 (0 : Int))) ((0 : Nat) + Int.toNat (slotW rb h) * 1) (Value.int IntKind.i64 (ari BinOp.add IntKind.i64 (intAt (Array.setIfInBounds rb ((32 : Nat) + Int.toNat (slotW rb h) * 1) (Value.int IntKind.i64 (0 : Int))) ((0 : Nat) + Int.toNat (slotW rb h) * 1)) (1 : Int)))) = (64 : Nat) ∧ Array.size (Array.setIfInBounds (Array.setIfInBounds rb ((32 : Nat) + Int.toNat (slotW rb h) * 1) (Value.int IntKind.i64 (0 : Int))) ((0 : Nat) + Int.toNat (slotW rb h) * 1) (Value.int IntKind.i64 (ari BinOp.add IntKind.i64 (intAt (Array.setIfInBounds rb ((32 : Nat) + Int.toNat (slotW rb h) * 1) (Value.int IntKind.i64 (0 : Int))) ((0 : Nat) + Int.toNat (slotW rb h) * 1)) (1 : Int)))) = (64 : Nat) ∧ True) ∧ (Array.size (Array.setIfInBounds (Array.setIfInBounds rb ((32 : Nat) + Int.toNat (slotW rb h) * 1) (Value.int IntKind.i64 (0 : Int))) ((0 : Nat) + Int.toNat (slotW rb h) * 1) (Value.int IntKind.i64 (ari BinOp.add IntKind.i64 (intAt (Array.setIfInBounds rb ((32 : Nat) + Int.toNat (slotW rb h) * 1) (Value.int IntKind.i64 (0 : Int))) ((0 : Nat) + Int.toNat (slotW rb h) * 1)) (1 : Int)))) = (64 : Nat) ∧ True) ∧ o = Array.setIfInBounds (Array.setIfInBounds rb ((32 : Nat) + Int.toNat (slotW rb h) * 1) (Value.int IntKind.i64 (0 : Int))) ((0 : Nat) + Int.toNat (slotW rb h) * 1) (Value.int IntKind.i64 (ari BinOp.add IntKind.i64 (intAt (Array.setIfInBounds rb ((32 : Nat) + Int.toNat (slotW rb h) * 1) (Value.int IntKind.i64 (0 : Int))) ((0 : Nat) + Int.toNat (slotW rb h) * 1)) (1 : Int))) ∧ b = true ∧ True))) := by kernel_rfl
end Go.Proofs.Ytnjmockpdmchcaa
/- Of the document's books: the contracts of Slot, Issue, Void; a book of the program's, and one of the document's. No condition. -/
namespace Go.Proofs.Ytnjmockpdmchcaa
set_option maxRecDepth 100000
set_option linter.unusedSimpArgs false
set_option linter.unusedVariables false
section
variable {rb bs : Array Value}
theorem slotF_succ (h : Int) (k i : Nat) : slotF rb h (k + 1) i = if isW rb i = 1 ∧ nameI i (genW rb i) = h then (i : Int) else slotF rb h k (i + 1) := rfl
def freeF (rb : Array Value) : Nat → Nat → Option Nat
  | 0, _ => none
  | k + 1, i => if isW rb i = 0 then some i else freeF rb k (i + 1)
theorem freeF_succ (k i : Nat) : freeF rb (k + 1) i = if isW rb i = 0 then some i else freeF rb k (i + 1) := rfl
def freeW (rb : Array Value) : Option Nat := freeF rb 32 0
def issW (rb : Array Value) : Array Value := match freeW rb with
  | some i => rb.setIfInBounds (32 + i) (.int .i64 1)
  | none => rb
def issWI (rb : Array Value) : Int := match freeW rb with
  | some i => nameI i (genW rb i)
  | none => 0
def voidWS (rb : Array Value) (i : Nat) : Array Value := if genW rb i = 8388607 then (rb.setIfInBounds (32 + i) (.int .i64 0)).setIfInBounds (32 + i) (.int .i64 2) else (rb.setIfInBounds (32 + i) (.int .i64 0)).setIfInBounds i (.int .i64 (genW rb i + 1))
def voidW (rb : Array Value) (h : Int) : Array Value := if slotW rb h < 0 then rb else voidWS rb (slotW rb h).toNat
theorem slotF_ge (h : Int) : ∀ (k i : Nat), slotF rb h k i = -1 ∨ ∃ j : Nat, slotF rb h k i = j ∧ i ≤ j ∧ j < i + k ∧ isW rb j = 1 ∧ nameI j (genW rb j) = h
  | 0, _ => .inl rfl
  | k + 1, i => by
    rw [slotF_succ]
    split
    · rename_i e; exact .inr ⟨i, rfl, Nat.le_refl _, by omega, e.1, e.2⟩
    · rcases slotF_ge h k (i + 1) with e | ⟨j, e1, e2, e3, e4⟩
      · exact .inl e
      · exact .inr ⟨j, e1, by omega, by omega, e4⟩
theorem slotW_cases (rb : Array Value) (h : Int) : slotW rb h = -1 ∨ ∃ j : Nat, slotW rb h = j ∧ j < 32 ∧ isW rb j = 1 ∧ nameI j (genW rb j) = h := by
  rcases slotF_ge (rb := rb) h 32 0 with e | ⟨j, e1, e2, e3, e4⟩
  · exact .inl e
  · exact .inr ⟨j, e1, by omega, e4⟩
theorem ofW_run {i : Nat} {a : Int} (hi : i < 32) (ha : 0 ≤ a ∧ a ≤ 8388607) : ari .add .i64 (ari .add .i64 (i : Int) (ari .mul .i64 256 a)) 1 = nameI i a := by
  have e1 : ari .mul .i64 256 a = 256 * a := by rw [ari_mul, i64_in' (by omega) (by omega)]
  have e2 : ari .add .i64 (i : Int) (256 * a) = i + 256 * a := by rw [ari_add, i64_in' (by omega) (by omega)]
  rw [e1, e2, ari_add, i64_in' (by omega) (by omega)]
  unfold nameI
  omega
theorem EB_ok : EnvOk EB := EnvOk.with E0_ok _ _ fun _ _ _ _ h => by cases h
theorem bL_ok (hb : RbOk rb) (h : Int) : ∀ (k i : Nat), i + k = 32 → slotF rb h k i = slotW rb h → Good Try.prog (retOk 0 [] (i64 (.o (slotW rb h))) e0M) 0 (bL_F rb h (i : Int)) (bL_M rb h (i : Int)) := by
  have hs := hb.sz
  intro k
  induction k with
  | zero =>
    intro i hi he
    refine past_vc EB_ok 1000 (bl1 rb h (i : Int) (slotW rb h) (fun _ => False)) ?_ (fun _ _ h => h) (fun fs m hb => bL_good (fun _ h => h.elim) hb)
    have d : decide ((i : Int) < 32) = false := decide_eq_false (by omega)
    have e : slotW rb h = -1 := he.symm
    simp only [d, e, true_implies, Bool.true_eq_false, Bool.false_eq_true, false_implies, and_true, true_and]
  | succ k ih =>
    intro i hi he
    refine past_vc EB_ok 1000 (bl1 rb h (i : Int) (slotW rb h) (fun i' => i' = ((i + 1 : Nat) : Int) ∧ slotF rb h k (i + 1) = slotW rb h)) ?_ (fun _ _ h => h) (fun fs m hb => bL_good (fun i' ⟨e1, e2⟩ => by rw [e1]; exact ih (i + 1) (by omega) e2) hb)
    have d : decide ((i : Int) < 32) = true := decide_eq_true (by omega)
    have ei : ari .add .i64 (i : Int) 1 = ((i + 1 : Nat) : Int) := by rw [ari_add, i64_in' (by omega) (by omega)]; omega
    have hi32 : i < 32 := by omega
    have c1 := hb.c (32 + i) (by omega)
    have c2 := hb.c i (by omega)
    have hr := hb.rg i hi32
    have hof := ofW_run hi32 hr
    have hx0 : 0 ≤ (i : Int) := by omega
    have hx1 : (i : Int) < 32 := by omega
    rw [slotF_succ] at he
    have ei1 : intAt rb (32 + i) = isW rb i := rfl
    have ei2 : intAt rb i = genW rb i := rfl
    simp only [Int.toNat_natCast, Nat.mul_one, Nat.zero_add, d, ei, ei1, ei2, hof, hs, c1, c2, hx0, hx1, beqT, decide_true, true_implies, and_true, true_and, Bool.true_eq_false, false_implies, bL_d0_ok]
    cases c : (isW rb i == 1) with
    | true =>
      have c' : isW rb i = 1 := by simpa using c
      cases e : (nameI i (genW rb i) == h) with
      | true =>
        have e' : nameI i (genW rb i) = h := by simpa using e
        rw [if_pos ⟨c', e'⟩] at he
        simp only [true_implies, Bool.true_eq_false, false_implies, and_true]
        exact he.symm
      | false =>
        have e' : nameI i (genW rb i) ≠ h := by simpa using e
        rw [if_neg (fun k => e' k.2)] at he
        simp only [true_implies, Bool.true_eq_false, Bool.false_eq_true, false_implies, and_true, true_and]
        exact he
    | false =>
      have c' : isW rb i ≠ 1 := by simpa using c
      rw [if_neg (fun k => c' k.1)] at he
      simp only [true_implies, Bool.true_eq_false, Bool.false_eq_true, false_implies, and_true, true_and]
      exact he
theorem rslot_con (h : Int) (m : SMem) : Con E0 31 [rbS rb, i64 (.o h)] m (needs [RbOk rb] (.ret (i64 (.o (slotW rb h))) m)) := by
  refine Con.pure E0_ok (by kernel_rfl : E0.fn 31 = some Try.f31) (by kernel_rfl : Try.f31.body = some (Try.f31.body.getD .skip)) (by kernel_rfl) (by kernel_rfl) fun hq => ?_
  have hb : RbOk rb := hq _ (by simp)
  refine (Good.ret [] (run_vc EB_ok 1000 (bl0_vc rb h (fun i => i = ((0 : Nat) : Int))) ?_ (fun s m h => h.elim) fun fs m hm => bl0_go (fun i e => by rw [e]; exact bL_ok hb h 32 0 (by omega) rfl) hm)).mono fun _ _ h => h.1
  simp only [and_true, true_and, bL_d0_ok]
  rfl
theorem set_is {i j : Nat} {x : Int} (hs : rb.size = 64) (hi : i < 32) (hj : j < 32) : isW (rb.setIfInBounds (32 + i) (.int .i64 x)) j = (if j = i then x else isW rb j) ∧ genW (rb.setIfInBounds (32 + i) (.int .i64 x)) j = genW rb j := by
  unfold isW genW intAt
  constructor
  · by_cases e : j = i
    · rw [if_pos e, e, set_in (by omega)]
    · rw [if_neg e, set_out (by omega)]
  · rw [set_out (by omega)]
theorem rb_set (hb : RbOk rb) {k : Nat} {x : Int} (hk : k < 64) (hx : k < 32 → 0 ≤ x ∧ x ≤ 8388607) : RbOk (rb.setIfInBounds k (.int .i64 x)) := by
  have hs := hb.sz
  refine ⟨by rw [set_size]; exact hs, fun j hj => ?_, fun j hj => ?_⟩
  · by_cases e : j = k
    · rw [e]; exact isI_of (set_in (by omega))
    · have := hb.c j hj
      unfold IsInt intAt at *
      rw [set_out e]; exact this
  · by_cases e : j = k
    · show 0 ≤ intAt _ _ ∧ intAt _ _ ≤ _
      rw [e, intAt_of (set_in (by omega))]; exact hx (by omega)
    · have := hb.rg j hj
      unfold genW intAt at *
      rw [set_out e]; exact this
theorem bI_ok (hb : RbOk rb) {zz : Array Value} (hz : zz.size = 64) : ∀ (k i : Nat), i + k = 32 → freeF rb k i = freeW rb → Good Try.prog (retOk 0 [] (.tup [.agg (.op (issW rb)), .c (.f (.int .i64 (.o (issWI rb))))]) e0M) 0 (bI_F rb (i : Int) zz) (bI_M rb (i : Int) zz) := by
  have hs := hb.sz
  intro k
  induction k with
  | zero =>
    intro i hi hf
    refine past_vc EB_ok 1000 (bi1 rb (i : Int) zz (issW rb) (issWI rb) (fun _ _ => False)) ?_ (fun _ _ h => h) (fun fs m hb => bI_good (fun _ _ h => h.elim) hb)
    have d : decide ((i : Int) < 32) = false := decide_eq_false (by omega)
    have e : freeW rb = none := hf.symm
    have e1 : issW rb = rb := by unfold issW; rw [e]
    have e2 : issWI rb = 0 := by unfold issWI; rw [e]
    simp only [d, e1, e2, hs, hz, true_implies, Bool.true_eq_false, Bool.false_eq_true, false_implies, and_true, true_and]
  | succ k ih =>
    intro i hi hf
    refine past_vc EB_ok 1000 (bi1 rb (i : Int) zz (issW rb) (issWI rb) (fun i' z' => i' = ((i + 1 : Nat) : Int) ∧ z' = zz ∧ freeF rb k (i + 1) = freeW rb)) ?_ (fun _ _ h => h) (fun fs m hb => bI_good (fun i' z' ⟨e1, e2, e3⟩ => by rw [e1, e2]; exact ih (i + 1) (by omega) e3) hb)
    have d : decide ((i : Int) < 32) = true := decide_eq_true (by omega)
    have ei : ari .add .i64 (i : Int) 1 = ((i + 1 : Nat) : Int) := by rw [ari_add, i64_in' (by omega) (by omega)]; omega
    have hi32 : i < 32 := by omega
    have c1 := hb.c (32 + i) (by omega)
    have hx0 : 0 ≤ (i : Int) := by omega
    have hx1 : (i : Int) < 32 := by omega
    rw [freeF_succ] at hf
    have ei1 : intAt rb (32 + i) = isW rb i := rfl
    have hr := hb.rg i hi32
    have hof := ofW_run hi32 hr
    have hrb := rb_set (k := 32 + i) (x := 1) hb (by omega) (fun h => by omega)
    have c2 := hrb.c i (by omega)
    have eg : intAt (rb.setIfInBounds (32 + i) (.int .i64 1)) i = genW rb i := (set_is (x := 1) hs hi32 hi32).2
    have hl : 32 + i < 64 := by omega
    simp only [Int.toNat_natCast, Nat.mul_one, Nat.zero_add, d, ei, ei1, eg, hof, hs, hz, hl, c1, c2, hx0, hx1, set_size, decide_true, true_implies, and_true, true_and, Bool.true_eq_false, false_implies, bI_d0_ok]
    cases c : (isW rb i == 0) with
    | true =>
      have c' : isW rb i = 0 := by simpa using c
      rw [if_pos c'] at hf
      have e1 : issW rb = rb.setIfInBounds (32 + i) (.int .i64 1) := by unfold issW; rw [← hf]
      have e2 : issWI rb = nameI i (genW rb i) := by unfold issWI; rw [← hf]
      simp only [e1, e2, true_implies, Bool.true_eq_false, false_implies, and_true, true_and]
    | false =>
      have c' : isW rb i ≠ 0 := by simpa using c
      rw [if_neg c'] at hf
      simp only [true_implies, Bool.true_eq_false, Bool.false_eq_true, false_implies, and_true, true_and]
      exact hf
theorem rissue_con (m : SMem) : Con E0 36 [rbS rb] m (needs [RbOk rb] (.ret (.tup [.agg (.op (issW rb)), .c (.f (.int .i64 (.o (issWI rb))))]) m)) := by
  refine Con.pure E0_ok (by kernel_rfl : E0.fn 36 = some Try.f36) (by kernel_rfl : Try.f36.body = some (Try.f36.body.getD .skip)) (by kernel_rfl) (by kernel_rfl) fun hq => ?_
  have hb : RbOk rb := hq _ (by simp)
  refine (Good.ret [] (run_vc EB_ok 1000 (bi0_vc rb (fun i z => i = ((0 : Nat) : Int) ∧ z.size = 64)) ?_ (fun s m h => h.elim) fun fs m hm => bi0_go (fun i z ⟨e1, e2⟩ => by rw [e1]; exact bI_ok hb e2 32 0 (by omega) rfl) hm)).mono fun _ _ h => h.1
  simp only [and_true, true_and, bI_d0_ok]
  repeat' first | exact rfl | exact trivial | apply And.intro
theorem EBv_ok : EnvOk EBv := by
  refine EnvOk.with E0_ok _ _ ?_
  intro g l m t h
  unfold conB0 at h
  split at h
  · rename_i rb x; cases h
    refine Con.asked fun hq => Con.args (l' := [rbS rb, i64 (.o x.den)]) (fun R vs ha => by
      match vs, ha with
      | [v, w], ha => exact ⟨ha.1, ha.2.1, trivial⟩) ?_
    intro A hs
    exact rslot_con x.den m A ⟨fun p hp => hq p hp, hs⟩
  · cases h
theorem rvoid_con (h : Int) (m : SMem) : Con E0 32 [rbS rb, i64 (.o h)] m (needs [RbOk rb] (.ret (.tup [.agg (.op (voidW rb h)), .c (.f (.bool (.o (decide (0 ≤ slotW rb h)))))]) m)) := by
  refine Con.pure E0_ok (by kernel_rfl : E0.fn 32 = some Try.f32) (by kernel_rfl : Try.f32.body = some (Try.f32.body.getD .skip)) (by kernel_rfl) (by kernel_rfl) fun hq => ?_
  have hb : RbOk rb := hq _ (by simp)
  refine (Good.ret [] (run_vc EBv_ok 1000 (bv0 rb h (voidW rb h) (decide (0 ≤ slotW rb h))) ?_ (fun s m h => h) fun _ _ h => h.elim)).mono fun _ _ h => h.1
  have hs := hb.sz
  rcases slotW_cases rb h with e | ⟨j, e, hj, _⟩
  · have e1 : voidW rb h = rb := by unfold voidW; rw [e]; rfl
    have d1 : decide (slotW rb h < 0) = true := decide_eq_true (by omega)
    have d2 : decide (0 ≤ slotW rb h) = false := decide_eq_false (by omega)
    simp only [d1, d2, e1, hs, true_implies, Bool.true_eq_false, false_implies, and_true, true_and]
    exact hb
  · have d1 : decide ((j : Int) < 0) = false := decide_eq_false (by omega)
    have d2 : decide (0 ≤ (j : Int)) = true := decide_eq_true (by omega)
    have e1 : voidW rb h = voidWS rb j := by unfold voidW; rw [e, if_neg (by omega)]; rfl
    have eg : intAt (rb.setIfInBounds (32 + j) (.int .i64 0)) j = genW rb j := (set_is (x := 0) hs hj hj).2
    have hrb := rb_set (k := 32 + j) (x := 0) hb (by omega) (fun h => by omega)
    have c2 := hrb.c j (by omega)
    have hr := hb.rg j hj
    have hx0 : 0 ≤ (j : Int) := by omega
    have hx1 : (j : Int) < 32 := by omega
    have hl : 32 + j < 64 := by omega
    have hl2 : j < 64 := by omega
    simp only [e, e1, eg, d1, d2, hs, c2, hx0, hx1, hl, hl2, set_size, Int.toNat_natCast, Nat.mul_one, Nat.zero_add, true_implies, Bool.true_eq_false, Bool.false_eq_true, false_implies, and_true, true_and]
    cases c : (genW rb j == 8388607) with
    | true =>
      have c' : genW rb j = 8388607 := by simpa using c
      have e2 : voidWS rb j = (rb.setIfInBounds (32 + j) (.int .i64 0)).setIfInBounds (32 + j) (.int .i64 2) := by unfold voidWS; rw [if_pos c']
      simp only [e2, decide_true, true_implies, Bool.true_eq_false, false_implies, and_true]
      exact hb
    | false =>
      have c' : genW rb j ≠ 8388607 := by simpa using c
      have e2 : voidWS rb j = (rb.setIfInBounds (32 + j) (.int .i64 0)).setIfInBounds j (.int .i64 (genW rb j + 1)) := by unfold voidWS; rw [if_neg c']
      have ea : ari .add .i64 (genW rb j) 1 = genW rb j + 1 := by rw [ari_add, i64_in' (by omega) (by omega)]
      simp only [e2, ea, decide_true, true_implies, Bool.true_eq_false, Bool.false_eq_true, false_implies, and_true, true_and]
      exact hb
def SameB (bs rb : Array Value) : Prop := ∀ i, i < 32 → genW rb i = ageAt bs i ∧ isW rb i = kindAt bs i
theorem slot_rel (hb : BkOk bs) (hs : SameB bs rb) (h : Int) : slotW rb h = if goodB bs h = true then ((slotI h).toNat : Int) else -1 := by
  split
  · rename_i hg
    obtain ⟨j, hj, hk, e⟩ := (goodB_iff hb).1 hg
    have ej : (slotI h).toNat = j := by rw [e]; exact slotI_name hj (hb.ra j hj)
    rw [ej]
    have key : ∀ (k i : Nat), i + k = 32 → i ≤ j → slotF rb h k i = j := by
      intro k
      induction k with
      | zero => intro i h1 h2; omega
      | succ k ih =>
        intro i h1 h2
        rw [slotF_succ]
        by_cases c : i = j
        · subst c
          rw [if_pos ⟨by rw [(hs i hj).2]; exact hk, by rw [(hs i hj).1]; exact e.symm⟩]
        · rw [if_neg ?_]
          · exact ih (i + 1) (by omega) (by omega)
          · rintro ⟨_, h3⟩
            rw [e] at h3
            exact c (name_inj (by omega) hj h3).1
    exact key 32 0 (by omega) (by omega)
  · rename_i hg
    rcases slotW_cases rb h with e | ⟨j, e1, hj, h2, h3⟩
    · exact e
    · exfalso
      apply hg
      exact (goodB_iff hb).2 ⟨j, hj, by rw [← (hs j hj).2]; exact h2, by rw [← (hs j hj).1]; exact h3.symm⟩
theorem free_rel (hs : SameB bs rb) : freeW rb = freeS bs := by
  have key : ∀ (k i : Nat), i + k = 32 → freeF rb k i = freeFrom bs k i := by
    intro k
    induction k with
    | zero => intro i _; rfl
    | succ k ih =>
      intro i h1
      rw [freeF_succ, freeFrom_succ, (hs i (by omega)).2, ih (i + 1) (by omega)]
  exact key 32 0 (by omega)
theorem issue_rel (hb : BkOk bs) (hr : RbOk rb) (hs : SameB bs rb) : RbOk (issW rb) ∧ SameB (issueB bs) (issW rb) ∧ issWI rb = issueI bs := by
  have hf := free_rel hs
  rcases issue_cases (bs := bs) with ⟨e0, e1, e2, _⟩ | ⟨i, h1, h2, e1, e2, _, e0⟩
  · rw [e0] at hf
    have a1 : issW rb = rb := by unfold issW; rw [hf]
    have a2 : issWI rb = 0 := by unfold issWI; rw [hf]
    rw [a1, a2, e1, e2]
    exact ⟨hr, hs, rfl⟩
  · rw [e0] at hf
    have a1 : issW rb = rb.setIfInBounds (32 + i) (.int .i64 1) := by unfold issW; rw [hf]
    have a2 : issWI rb = nameI i (genW rb i) := by unfold issWI; rw [hf]
    rw [a1, a2, e1, e2, (hs i h1).1]
    refine ⟨rb_set hr (by omega) (fun h => by omega), fun j hj => ?_, rfl⟩
    obtain ⟨b1, b2⟩ := set_is (rb := rb) (x := 1) hr.sz h1 hj
    rw [b1, b2, age_set, kind_set hb.sz h1, (hs j hj).1, (hs j hj).2]
    exact ⟨rfl, rfl⟩
theorem void_rel (hb : BkOk bs) (hr : RbOk rb) (hs : SameB bs rb) (h : Int) : RbOk (voidW rb h) ∧ SameB (voidB bs h) (voidW rb h) ∧ decide (0 ≤ slotW rb h) = goodB bs h := by
  have hsl := slot_rel hb hs h
  rcases void_cases hb h with ⟨hg, e⟩ | ⟨i, hi, hk, ex, hg, e⟩
  · rw [hg, if_neg (by simp)] at hsl
    have a1 : voidW rb h = rb := by unfold voidW; rw [hsl]; rfl
    rw [a1, e, hg, hsl]
    exact ⟨hr, hs, rfl⟩
  · have ei : (slotI h).toNat = i := by rw [ex]; exact slotI_name hi (hb.ra i hi)
    rw [hg, if_pos rfl, ei] at hsl
    have a1 : voidW rb h = voidWS rb i := by unfold voidW; rw [hsl, if_neg (by omega)]; rfl
    rw [a1, e, hg, hsl, decide_eq_true (by omega)]
    have hri := hr.rg i hi
    have hsz := hr.sz
    have r0 := rb_set (k := 32 + i) (x := 0) hr (by omega) (fun h => by omega)
    have s0 := r0.sz
    by_cases c : genW rb i = 8388607
    · have e2 : voidWS rb i = (rb.setIfInBounds (32 + i) (.int .i64 0)).setIfInBounds (32 + i) (.int .i64 2) := by unfold voidWS; rw [if_pos c]
      have c' : ageAt bs i = 8388607 := by rw [← (hs i hi).1]; exact c
      rw [e2]
      refine ⟨rb_set r0 (by omega) (fun h => by omega), fun j hj => ?_, rfl⟩
      obtain ⟨b1, b2⟩ := set_is (rb := rb.setIfInBounds (32 + i) (.int .i64 0)) (x := 2) s0 hi hj
      obtain ⟨b3, b4⟩ := set_is (rb := rb) (x := 0) hsz hi hj
      rw [b1, b2, b3, b4, void_age hb.sz hi, void_kind hb.sz hi, if_pos c', if_pos c', (hs j hj).1, (hs j hj).2]
      constructor
      · split
        · rename_i q; rw [q]
        · rfl
      · split <;> rfl
    · have e2 : voidWS rb i = (rb.setIfInBounds (32 + i) (.int .i64 0)).setIfInBounds i (.int .i64 (genW rb i + 1)) := by unfold voidWS; rw [if_neg c]
      have c' : ¬ ageAt bs i = 8388607 := by rw [← (hs i hi).1]; exact c
      rw [e2]
      refine ⟨rb_set r0 (by omega) (fun _ => by omega), fun j hj => ?_, rfl⟩
      obtain ⟨b3, b4⟩ := set_is (rb := rb) (x := 0) hsz hi hj
      rw [void_age hb.sz hi, void_kind hb.sz hi, if_neg c', if_neg c', ← (hs j hj).1, ← (hs j hj).2, ← (hs i hi).1]
      constructor
      · by_cases q : j = i
        · rw [if_pos q, q]
          show intAt _ _ = _
          rw [intAt_of (set_in (by omega))]
        · rw [if_neg q, ← b4]
          unfold genW intAt
          rw [set_out q]
      · rw [← b3]
        unfold isW intAt
        rw [set_out (by omega)]
end
end Go.Proofs.Ytnjmockpdmchcaa
/- Of token: the document's Reads, Writes, Get: states. No condition. -/
namespace Go.Proofs.Ytnjmockpdmchcaa
set_option linter.unusedVariables false
def rbT (ws : Array Value) : Array Value := ws.extract 0 64
noncomputable def wsS (ws : Array Value) : SV := .s (.agg (.op ws))
structure WsOk (ws : Array Value) : Prop where
  sz : ws.size = 224
  rb : RbOk (rbT ws)
  c0 : ∀ i, i < 32 → IsInt .i64 ws (64 + i * 5)
  c1 : ∀ i, i < 32 → IsInt .i64 ws (64 + i * 5 + 1)
  c2 : ∀ i, i < 32 → IsInt .i64 ws (64 + i * 5 + 2)
  c3 : ∀ i, i < 32 → IsBool ws (64 + i * 5 + 3)
  c4 : ∀ i, i < 32 → IsInt .i64 ws (64 + i * 5 + 4)
noncomputable def conD0 (g : FuncId) (l : List SV) (m : SMem) : Option Tree := match g, l with
  | 31, [.s (.agg (.op rb)), .s (.c (.f (.int .i64 h)))] => some (.need [RbOk rb] (.ret (i64 (.o (slotW rb h.den))) m))
  | 32, [.s (.agg (.op rb)), .s (.c (.f (.int .i64 h)))] => some (.need [RbOk rb] (.ret (.tup [.agg (.op (voidW rb h.den)), .c (.f (.bool (.o (decide (0 ≤ slotW rb h.den)))))]) m))
  | 36, [.s (.agg (.op rb))] => some (.need [RbOk rb] (.ret (.tup [.agg (.op (issW rb)), .c (.f (.int .i64 (.o (issWI rb))))]) m))
  | _, _ => none
noncomputable def ED : Env := ⟨Try.prog, fnOf, conD0, haltAt [20002, 22002]⟩
noncomputable def dR_d0 : List SIt := sekF Try.f20 2
noncomputable def dR_F (ws : Array Value) (r : Int) (a : Int) (i : Int) : List SFr := [frOf 20 Try.f20 [(1, i64 (.o r)), (2, i64 (.o a)), (3, ptr 0 (.l 0)), (7, i64 (.o i))] dR_d0]
noncomputable def dR_M (ws : Array Value) (r : Int) (a : Int) (i : Int) : SMem := mkM 1 [(0, ⟨.op ws, 43, true⟩)]
noncomputable def dR_n (ws : Array Value) (r : Int) (a : Int) (Q : Int → Prop) (fs : List SFr) (m : SMem) : Prop := (match frNth fs 0 with | some f0 => (match rdI f0 7 with | some i => (match rdP f0 3 with | some p0 => Q i ∧ subOk 0 [(0, p0)] (dR_F ws r a i) (dR_M ws r a i) fs m | none => False) | none => False) | none => False)
noncomputable def dW_d0 : List SIt := sekF Try.f22 2
noncomputable def dW_F (ws : Array Value) (r : Int) (a : Int) (i : Int) : List SFr := [frOf 22 Try.f22 [(1, i64 (.o r)), (2, i64 (.o a)), (3, ptr 0 (.l 0)), (7, i64 (.o i))] dW_d0]
noncomputable def dW_M (ws : Array Value) (r : Int) (a : Int) (i : Int) : SMem := mkM 1 [(0, ⟨.op ws, 43, true⟩)]
noncomputable def dW_n (ws : Array Value) (r : Int) (a : Int) (Q : Int → Prop) (fs : List SFr) (m : SMem) : Prop := (match frNth fs 0 with | some f0 => (match rdI f0 7 with | some i => (match rdP f0 3 with | some p0 => Q i ∧ subOk 0 [(0, p0)] (dW_F ws r a i) (dW_M ws r a i) fs m | none => False) | none => False) | none => False)
noncomputable def dr0_t (ws : Array Value) (r : Int) (a : Int) : Tree := run ED 1000 0 [callFr 20 Try.f20.ntmps [wsS ws, i64 (.o r), i64 (.o a)] (Try.f20.body.getD .skip)] e0M
noncomputable def dr0_x (ws : Array Value) (r : Int) (a : Int) (QdR : Int → Prop) (fs : List SFr) (m : SMem) : Prop := dR_n ws r a QdR fs m
noncomputable def dw0_t (ws : Array Value) (r : Int) (a : Int) : Tree := run ED 1000 0 [callFr 22 Try.f22.ntmps [wsS ws, i64 (.o r), i64 (.o a)] (Try.f22.body.getD .skip)] e0M
noncomputable def dw0_x (ws : Array Value) (r : Int) (a : Int) (QdW : Int → Prop) (fs : List SFr) (m : SMem) : Prop := dW_n ws r a QdW fs m
theorem dR_d0_ok (r : Nat → Option Nat) : TodoOk r dR_d0 dR_d0 := TodoOk.it (by kernel_rfl)
theorem dW_d0_ok (r : Nat → Option Nat) : TodoOk r dW_d0 dW_d0 := TodoOk.it (by kernel_rfl)
theorem dR_good {A : SV → SMem → Prop} {ws : Array Value} {r : Int} {a : Int} {Q : Int → Prop} {fs : List SFr} {m : SMem} (H : ∀ i, Q i → Good Try.prog A 0 (dR_F ws r a i) (dR_M ws r a i)) (hb : dR_n ws r a Q fs m) : Good Try.prog A 0 fs m := by
  unfold dR_n at hb
  split at hb
  rotate_left
  · exact hb.elim
  split at hb
  rotate_left
  · exact hb.elim
  split at hb
  rotate_left
  · exact hb.elim
  exact Good.of_sub hb.2 (H _ hb.1)
theorem dW_good {A : SV → SMem → Prop} {ws : Array Value} {r : Int} {a : Int} {Q : Int → Prop} {fs : List SFr} {m : SMem} (H : ∀ i, Q i → Good Try.prog A 0 (dW_F ws r a i) (dW_M ws r a i)) (hb : dW_n ws r a Q fs m) : Good Try.prog A 0 fs m := by
  unfold dW_n at hb
  split at hb
  rotate_left
  · exact hb.elim
  split at hb
  rotate_left
  · exact hb.elim
  split at hb
  rotate_left
  · exact hb.elim
  exact Good.of_sub hb.2 (H _ hb.1)
theorem dr0_go {A : SV → SMem → Prop} {ws : Array Value} {r : Int} {a : Int} {QdR : Int → Prop} {fs : List SFr} {m : SMem} (hdR : ∀ i', QdR i' → Good Try.prog A 0 (dR_F ws r a i') (dR_M ws r a i')) (hb : dr0_x ws r a QdR fs m) : Good Try.prog A 0 fs m := by
  unfold dr0_x at hb
  exact dR_good hdR hb
theorem dw0_go {A : SV → SMem → Prop} {ws : Array Value} {r : Int} {a : Int} {QdW : Int → Prop} {fs : List SFr} {m : SMem} (hdW : ∀ i', QdW i' → Good Try.prog A 0 (dW_F ws r a i') (dW_M ws r a i')) (hb : dw0_x ws r a QdW fs m) : Good Try.prog A 0 fs m := by
  unfold dw0_x at hb
  exact dW_good hdW hb
end Go.Proofs.Ytnjmockpdmchcaa
/- Of token: the document's Reads, Writes, Get: states. -/
namespace Go.Proofs.Ytnjmockpdmchcaa
set_option maxRecDepth 100000
theorem dr0_vc (ws : Array Value) (r : Int) (a : Int) (QdR : Int → Prop) : (dr0_t ws r a).vc ((fun _ _ => False)) (dr0_x ws r a QdR) =
    (QdR (0 : Int) ∧ CallKind.normal = CallKind.normal ∧ TodoOk (ren 0 [(0, 0)]) dR_d0 dR_d0 ∧ r = r ∧ (0 : Int) = (0 : Int) ∧ a = a ∧ (43 : TypeId) = (43 : Nat) ∧ ws = ws ∧ True) := by kernel_rfl
theorem dw0_vc (ws : Array Value) (r : Int) (a : Int) (QdW : Int → Prop) : (dw0_t ws r a).vc ((fun _ _ => False)) (dw0_x ws r a QdW) =
    (QdW (0 : Int) ∧ CallKind.normal = CallKind.normal ∧ TodoOk (ren 0 [(0, 0)]) dW_d0 dW_d0 ∧ r = r ∧ (0 : Int) = (0 : Int) ∧ a = a ∧ (43 : TypeId) = (43 : Nat) ∧ ws = ws ∧ True) := by kernel_rfl
theorem dr1 (ws : Array Value) (r a i : Int) (b : Bool) (Q : Int → Prop) : (stepT ED.go (run ED 1000) 0 (dR_F ws r a i) (dR_M ws r a i)).vc (retOk 0 [] (sB (.o b)) e0M) (dR_n ws r a Q) =
    ((decide (i < (32 : Int)) = true → (Array.size ws = (224 : Nat) ∧ True) ∧ (((0 : Int) ≤ i ∧ i < (32 : Int)) ∧ True) ∧ (IsInt IntKind.i64 ws ((32 : Nat) + Int.toNat i * 1) ∧ True) ∧ (((intAt ws ((32 : Nat) + Int.toNat i * 1) == (1 : Int)) == true) = true → (((0 : Int) ≤ i ∧ i < (32 : Int)) ∧ True) ∧ (IsInt IntKind.i64 ws ((64 : Nat) + Int.toNat i * 5) ∧ True) ∧ (((intAt ws ((64 : Nat) + Int.toNat i * 5) == r) == true) = true → (((0 : Int) ≤ i ∧ i < (32 : Int)) ∧ True) ∧ (IsInt IntKind.i64 ws ((64 : Nat) + Int.toNat i * 5 + 4) ∧ True) ∧ (((intAt ws ((64 : Nat) + Int.toNat i * 5 + 4) == a) == true) = true → (((0 : Int) ≤ i ∧ i < (32 : Int)) ∧ True) ∧ (IsBool ws ((64 : Nat) + Int.toNat i * 5 + 3) ∧ True) ∧ (boolAt ws ((64 : Nat) + Int.toNat i * 5 + 3) = true → b = false ∧ True) ∧ (boolAt ws ((64 : Nat) + Int.toNat i * 5 + 3) = false → Q (ari BinOp.add IntKind.i64 i (1 : Int)) ∧ CallKind.normal = CallKind.normal ∧ TodoOk (ren 0 [(0, 0)]) dR_d0 dR_d0 ∧ r = r ∧ ari BinOp.add IntKind.i64 i (1 : Int) = ari BinOp.add IntKind.i64 i (1 : Int) ∧ a = a ∧ (43 : TypeId) = (43 : TypeId) ∧ ws = ws ∧ True)) ∧ (((intAt ws ((64 : Nat) + Int.toNat i * 5 + 4) == a) == true) = false → Q (ari BinOp.add IntKind.i64 i (1 : Int)) ∧ CallKind.normal = CallKind.normal ∧ TodoOk (ren 0 [(0, 0)]) dR_d0 dR_d0 ∧ r = r ∧ ari BinOp.add IntKind.i64 i (1 : Int) = ari BinOp.add IntKind.i64 i (1 : Int) ∧ a = a ∧ (43 : TypeId) = (43 : TypeId) ∧ ws = ws ∧ True)) ∧ (((intAt ws ((64 : Nat) + Int.toNat i * 5) == r) == true) = false → Q (ari BinOp.add IntKind.i64 i (1 : Int)) ∧ CallKind.normal = CallKind.normal ∧ TodoOk (ren 0 [(0, 0)]) dR_d0 dR_d0 ∧ r = r ∧ ari BinOp.add IntKind.i64 i (1 : Int) = ari BinOp.add IntKind.i64 i (1 : Int) ∧ a = a ∧ (43 : TypeId) = (43 : TypeId) ∧ ws = ws ∧ True)) ∧ (((intAt ws ((32 : Nat) + Int.toNat i * 1) == (1 : Int)) == true) = false → Q (ari BinOp.add IntKind.i64 i (1 : Int)) ∧ CallKind.normal = CallKind.normal ∧ TodoOk (ren 0 [(0, 0)]) dR_d0 dR_d0 ∧ r = r ∧ ari BinOp.add IntKind.i64 i (1 : Int) = ari BinOp.add IntKind.i64 i (1 : Int) ∧ a = a ∧ (43 : TypeId) = (43 : TypeId) ∧ ws = ws ∧ True)) ∧ (decide (i < (32 : Int)) = false → (((a == (0 : Int)) == false) = true → ((64 : Nat) ≤ Array.size ws ∧ True) ∧ (RbOk (Array.extract ws (0 : Nat) (64 : Nat)) ∧ True) ∧ b = decide (slotW (Array.extract ws (0 : Nat) (64 : Nat)) a ≥ (0 : Int)) ∧ True) ∧ (((a == (0 : Int)) == false) = false → b = true ∧ True))) := by kernel_rfl
theorem dw1 (ws : Array Value) (r a i : Int) (b : Bool) (Q : Int → Prop) : (stepT ED.go (run ED 1000) 0 (dW_F ws r a i) (dW_M ws r a i)).vc (retOk 0 [] (sB (.o b)) e0M) (dW_n ws r a Q) =
    ((decide (i < (32 : Int)) = true → (Array.size ws = (224 : Nat) ∧ True) ∧ (((0 : Int) ≤ i ∧ i < (32 : Int)) ∧ True) ∧ (IsInt IntKind.i64 ws ((32 : Nat) + Int.toNat i * 1) ∧ True) ∧ (((intAt ws ((32 : Nat) + Int.toNat i * 1) == (1 : Int)) == true) = true → (((0 : Int) ≤ i ∧ i < (32 : Int)) ∧ True) ∧ (IsInt IntKind.i64 ws ((64 : Nat) + Int.toNat i * 5) ∧ True) ∧ (((intAt ws ((64 : Nat) + Int.toNat i * 5) == r) == true) = true → (((0 : Int) ≤ i ∧ i < (32 : Int)) ∧ True) ∧ (IsInt IntKind.i64 ws ((64 : Nat) + Int.toNat i * 5 + 4) ∧ True) ∧ ((intAt ws ((64 : Nat) + Int.toNat i * 5 + 4) == a) = true → b = false ∧ True) ∧ ((intAt ws ((64 : Nat) + Int.toNat i * 5 + 4) == a) = false → Q (ari BinOp.add IntKind.i64 i (1 : Int)) ∧ CallKind.normal = CallKind.normal ∧ TodoOk (ren 0 [(0, 0)]) dW_d0 dW_d0 ∧ r = r ∧ ari BinOp.add IntKind.i64 i (1 : Int) = ari BinOp.add IntKind.i64 i (1 : Int) ∧ a = a ∧ (43 : TypeId) = (43 : TypeId) ∧ ws = ws ∧ True)) ∧ (((intAt ws ((64 : Nat) + Int.toNat i * 5) == r) == true) = false → Q (ari BinOp.add IntKind.i64 i (1 : Int)) ∧ CallKind.normal = CallKind.normal ∧ TodoOk (ren 0 [(0, 0)]) dW_d0 dW_d0 ∧ r = r ∧ ari BinOp.add IntKind.i64 i (1 : Int) = ari BinOp.add IntKind.i64 i (1 : Int) ∧ a = a ∧ (43 : TypeId) = (43 : TypeId) ∧ ws = ws ∧ True)) ∧ (((intAt ws ((32 : Nat) + Int.toNat i * 1) == (1 : Int)) == true) = false → Q (ari BinOp.add IntKind.i64 i (1 : Int)) ∧ CallKind.normal = CallKind.normal ∧ TodoOk (ren 0 [(0, 0)]) dW_d0 dW_d0 ∧ r = r ∧ ari BinOp.add IntKind.i64 i (1 : Int) = ari BinOp.add IntKind.i64 i (1 : Int) ∧ a = a ∧ (43 : TypeId) = (43 : TypeId) ∧ ws = ws ∧ True)) ∧ (decide (i < (32 : Int)) = false → (((a == (0 : Int)) == false) = true → ((64 : Nat) ≤ Array.size ws ∧ True) ∧ (RbOk (Array.extract ws (0 : Nat) (64 : Nat)) ∧ True) ∧ b = decide (slotW (Array.extract ws (0 : Nat) (64 : Nat)) a ≥ (0 : Int)) ∧ True) ∧ (((a == (0 : Int)) == false) = false → b = true ∧ True))) := by kernel_rfl
theorem dg0 (ws : Array Value) (h : Int) (c : Array Value) (e : Int) : (run ED 1000 0 [callFr 37 Try.f37.ntmps [wsS ws, i64 (.o h)] (Try.f37.body.getD .skip)] e0M).vc (retOk 0 [] (.tup [.agg (.op c), .c (.f (.int .i64 (.o e)))]) e0M) (fun _ _ => False) =
    (((64 : Nat) ≤ Array.size ws ∧ True) ∧ (RbOk (Array.extract ws (0 : Nat) (64 : Nat)) ∧ True) ∧ (decide (slotW (Array.extract ws (0 : Nat) (64 : Nat)) h < (0 : Int)) = true → c = #[Value.int IntKind.i64 (0 : Int), Value.int IntKind.i64 (0 : Int), Value.int IntKind.i64 (0 : Int), Value.bool false, Value.int IntKind.i64 (0 : Int)] ∧ e = (4 : Int) ∧ True) ∧ (decide (slotW (Array.extract ws (0 : Nat) (64 : Nat)) h < (0 : Int)) = false → (((0 : Int) ≤ slotW (Array.extract ws (0 : Nat) (64 : Nat)) h ∧ slotW (Array.extract ws (0 : Nat) (64 : Nat)) h < (32 : Int)) ∧ True) ∧ (IsInt IntKind.i64 ws ((64 : Nat) + Int.toNat (slotW (Array.extract ws (0 : Nat) (64 : Nat)) h) * 5) ∧ IsInt IntKind.i64 ws ((64 : Nat) + Int.toNat (slotW (Array.extract ws (0 : Nat) (64 : Nat)) h) * 5 + 1) ∧ IsInt IntKind.i64 ws ((64 : Nat) + Int.toNat (slotW (Array.extract ws (0 : Nat) (64 : Nat)) h) * 5 + 2) ∧ IsBool ws ((64 : Nat) + Int.toNat (slotW (Array.extract ws (0 : Nat) (64 : Nat)) h) * 5 + 3) ∧ IsInt IntKind.i64 ws ((64 : Nat) + Int.toNat (slotW (Array.extract ws (0 : Nat) (64 : Nat)) h) * 5 + 4) ∧ True) ∧ c = #[Value.int IntKind.i64 (intAt ws ((64 : Nat) + Int.toNat (slotW (Array.extract ws (0 : Nat) (64 : Nat)) h) * 5)), Value.int IntKind.i64 (intAt ws ((64 : Nat) + Int.toNat (slotW (Array.extract ws (0 : Nat) (64 : Nat)) h) * 5 + 1)), Value.int IntKind.i64 (intAt ws ((64 : Nat) + Int.toNat (slotW (Array.extract ws (0 : Nat) (64 : Nat)) h) * 5 + 2)), Value.bool (boolAt ws ((64 : Nat) + Int.toNat (slotW (Array.extract ws (0 : Nat) (64 : Nat)) h) * 5 + 3)), Value.int IntKind.i64 (intAt ws ((64 : Nat) + Int.toNat (slotW (Array.extract ws (0 : Nat) (64 : Nat)) h) * 5 + 4))] ∧ e = (0 : Int) ∧ True)) := by kernel_rfl
end Go.Proofs.Ytnjmockpdmchcaa
/- Of token: which tokens there are: its states. No condition. -/
namespace Go.Proofs.Ytnjmockpdmchcaa
set_option linter.unusedVariables false
noncomputable def EH2 : Env := ⟨Try.prog, fnOf, conH1, haltAt [27003]⟩
noncomputable def tkS (ts : Array Value) : SV := .s (.agg (.op ts))
noncomputable def aZ_d0 : List SIt := sekF Try.f27 3
noncomputable def aZ_F (ts : Array Value) (x : Int) (i : Int) : List SFr := [frOf 27 Try.f27 [(1, .s (.c (.fn (.func 39) [] [.ptr 0 (.l 0)]))), (2, ptr 3 (.l 0)), (5, .s (.c (.f (.lit (.slice none 0 0))))), (11, .s (.agg (.op (ts.extract 64 144)))), (12, i64 (.o i))] aZ_d0]
noncomputable def aZ_M (ts : Array Value) (x : Int) (i : Int) : SMem := mkM 4 [(0, ⟨.ls [.f (.int .u32 (.o x))], 30, false⟩), (3, ⟨.op ts, 35, true⟩)]
noncomputable def aZ_n (ts : Array Value) (x : Int) (Q : Int → Prop) (fs : List SFr) (m : SMem) : Prop := (match frNth fs 0 with | some f0 => (match rdI f0 12 with | some i => (match rdP f0 2 with | some p3 => Q i ∧ subOk 3 [(3, p3)] (aZ_F ts x i) (aZ_M ts x i) fs m | none => False) | none => False) | none => False)
noncomputable def aS_d0 : List SIt := sekF Try.f27 3
noncomputable def aS_F (ts : Array Value) (x : Int) (i : Int) (k : Nat) (cs : Array Value) : List SFr := [frOf 27 Try.f27 [(1, .s (.c (.fn (.func 39) [] [.ptr 0 (.l 0)]))), (2, ptr 3 (.l 0)), (5, .s (.c (.f (.slice 4 (.l 0) (.o k) (.full 1))))), (11, .s (.agg (.op (ts.extract 64 144)))), (12, i64 (.o i))] aS_d0]
noncomputable def aS_M (ts : Array Value) (x : Int) (i : Int) (k : Nat) (cs : Array Value) : SMem := mkM 5 [(0, ⟨.ls [.f (.int .u32 (.o x))], 30, false⟩), (3, ⟨.op ts, 35, true⟩), (4, ⟨.pop cs, 30, true⟩)]
noncomputable def aS_n (ts : Array Value) (x : Int) (Q : Int → Nat → Array Value → Prop) (fs : List SFr) (m : SMem) : Prop := (match frNth fs 0 with | some f0 => (match rdI f0 12 with | some i => (match rdP f0 2 with | some p3 => (match rdSI f0 5 with | some p4 => (match rdSN f0 5 with | some k => (match rdA m p4 with | some cs => Q i k cs ∧ subOk 3 [(3, p3), (4, p4)] (aS_F ts x i k cs) (aS_M ts x i k cs) fs m | none => False) | none => False) | none => False) | none => False) | none => False) | none => False)
noncomputable def aM (x : Int) : SMem := mkM 3 [(0, ⟨.ls [.f (.int .u32 (.o x))], 30, false⟩)]
noncomputable def aC : SV := .s (.c (.fn (.func 39) [] [.ptr 0 (.l 0)]))
noncomputable def aZS (ts : Array Value) (x : Int) (QZ : Int → Prop) (QS : Int → Nat → Array Value → Prop) (fs : List SFr) (m : SMem) : Prop := match fs with | f :: _ => (match f.tm.get 5 with | some (.s (.c (.f (.slice _ _ _ _)))) => aS_n ts x QS fs m | _ => aZ_n ts x QZ fs m) | [] => False
noncomputable def a0_t (ts : Array Value) (x : Int) : Tree := run EH2 1000 3 [callFr 27 Try.f27.ntmps [tkS ts, aC] (Try.f27.body.getD .skip)] (aM x)
noncomputable def a0_x (ts : Array Value) (x : Int) (QaZ : Int → Prop) (fs : List SFr) (m : SMem) : Prop := aZ_n ts x QaZ fs m
noncomputable def bZ_d0 : List SIt := sekF Try.f27 3
noncomputable def bZ_F (ts : Array Value) (x : Int) (i : Int) : List SFr := [frOf 27 Try.f27 [(1, .s (.c (.fn (.func 38) [] [.ptr 0 (.l 0)]))), (2, ptr 3 (.l 0)), (5, .s (.c (.f (.lit (.slice none 0 0))))), (11, .s (.agg (.op (ts.extract 64 144)))), (12, i64 (.o i))] bZ_d0]
noncomputable def bZ_M (ts : Array Value) (x : Int) (i : Int) : SMem := mkM 4 [(0, ⟨.ls [.f (.int .i64 (.o x))], 3, false⟩), (3, ⟨.op ts, 35, true⟩)]
noncomputable def bZ_n (ts : Array Value) (x : Int) (Q : Int → Prop) (fs : List SFr) (m : SMem) : Prop := (match frNth fs 0 with | some f0 => (match rdI f0 12 with | some i => (match rdP f0 2 with | some p3 => Q i ∧ subOk 3 [(3, p3)] (bZ_F ts x i) (bZ_M ts x i) fs m | none => False) | none => False) | none => False)
noncomputable def bS_d0 : List SIt := sekF Try.f27 3
noncomputable def bS_F (ts : Array Value) (x : Int) (i : Int) (k : Nat) (cs : Array Value) : List SFr := [frOf 27 Try.f27 [(1, .s (.c (.fn (.func 38) [] [.ptr 0 (.l 0)]))), (2, ptr 3 (.l 0)), (5, .s (.c (.f (.slice 4 (.l 0) (.o k) (.full 1))))), (11, .s (.agg (.op (ts.extract 64 144)))), (12, i64 (.o i))] bS_d0]
noncomputable def bS_M (ts : Array Value) (x : Int) (i : Int) (k : Nat) (cs : Array Value) : SMem := mkM 5 [(0, ⟨.ls [.f (.int .i64 (.o x))], 3, false⟩), (3, ⟨.op ts, 35, true⟩), (4, ⟨.pop cs, 30, true⟩)]
noncomputable def bS_n (ts : Array Value) (x : Int) (Q : Int → Nat → Array Value → Prop) (fs : List SFr) (m : SMem) : Prop := (match frNth fs 0 with | some f0 => (match rdI f0 12 with | some i => (match rdP f0 2 with | some p3 => (match rdSI f0 5 with | some p4 => (match rdSN f0 5 with | some k => (match rdA m p4 with | some cs => Q i k cs ∧ subOk 3 [(3, p3), (4, p4)] (bS_F ts x i k cs) (bS_M ts x i k cs) fs m | none => False) | none => False) | none => False) | none => False) | none => False) | none => False)
noncomputable def bM (x : Int) : SMem := mkM 3 [(0, ⟨.ls [.f (.int .i64 (.o x))], 3, false⟩)]
noncomputable def bC : SV := .s (.c (.fn (.func 38) [] [.ptr 0 (.l 0)]))
noncomputable def bZS (ts : Array Value) (x : Int) (QZ : Int → Prop) (QS : Int → Nat → Array Value → Prop) (fs : List SFr) (m : SMem) : Prop := match fs with | f :: _ => (match f.tm.get 5 with | some (.s (.c (.f (.slice _ _ _ _)))) => bS_n ts x QS fs m | _ => bZ_n ts x QZ fs m) | [] => False
noncomputable def b0_t (ts : Array Value) (x : Int) : Tree := run EH2 1000 3 [callFr 27 Try.f27.ntmps [tkS ts, bC] (Try.f27.body.getD .skip)] (bM x)
noncomputable def b0_x (ts : Array Value) (x : Int) (QbZ : Int → Prop) (fs : List SFr) (m : SMem) : Prop := bZ_n ts x QbZ fs m
noncomputable def cZ_d0 : List SIt := sekF Try.f27 3
noncomputable def cZ_F (ts : Array Value) (x : Int) (i : Int) : List SFr := [frOf 27 Try.f27 [(1, .s (.c (.fn (.func 28) [] [.ptr 0 (.l 0)]))), (2, ptr 3 (.l 0)), (5, .s (.c (.f (.lit (.slice none 0 0))))), (11, .s (.agg (.op (ts.extract 64 144)))), (12, i64 (.o i))] cZ_d0]
noncomputable def cZ_M (ts : Array Value) (x : Int) (i : Int) : SMem := mkM 4 [(0, ⟨.ls [.f (.int .u32 (.o x))], 30, false⟩), (3, ⟨.op ts, 35, true⟩)]
noncomputable def cZ_n (ts : Array Value) (x : Int) (Q : Int → Prop) (fs : List SFr) (m : SMem) : Prop := (match frNth fs 0 with | some f0 => (match rdI f0 12 with | some i => (match rdP f0 2 with | some p3 => Q i ∧ subOk 3 [(3, p3)] (cZ_F ts x i) (cZ_M ts x i) fs m | none => False) | none => False) | none => False)
noncomputable def cS_d0 : List SIt := sekF Try.f27 3
noncomputable def cS_F (ts : Array Value) (x : Int) (i : Int) (k : Nat) (cs : Array Value) : List SFr := [frOf 27 Try.f27 [(1, .s (.c (.fn (.func 28) [] [.ptr 0 (.l 0)]))), (2, ptr 3 (.l 0)), (5, .s (.c (.f (.slice 4 (.l 0) (.o k) (.full 1))))), (11, .s (.agg (.op (ts.extract 64 144)))), (12, i64 (.o i))] cS_d0]
noncomputable def cS_M (ts : Array Value) (x : Int) (i : Int) (k : Nat) (cs : Array Value) : SMem := mkM 5 [(0, ⟨.ls [.f (.int .u32 (.o x))], 30, false⟩), (3, ⟨.op ts, 35, true⟩), (4, ⟨.pop cs, 30, true⟩)]
noncomputable def cS_n (ts : Array Value) (x : Int) (Q : Int → Nat → Array Value → Prop) (fs : List SFr) (m : SMem) : Prop := (match frNth fs 0 with | some f0 => (match rdI f0 12 with | some i => (match rdP f0 2 with | some p3 => (match rdSI f0 5 with | some p4 => (match rdSN f0 5 with | some k => (match rdA m p4 with | some cs => Q i k cs ∧ subOk 3 [(3, p3), (4, p4)] (cS_F ts x i k cs) (cS_M ts x i k cs) fs m | none => False) | none => False) | none => False) | none => False) | none => False) | none => False)
noncomputable def cM (x : Int) : SMem := mkM 3 [(0, ⟨.ls [.f (.int .u32 (.o x))], 30, false⟩)]
noncomputable def cC : SV := .s (.c (.fn (.func 28) [] [.ptr 0 (.l 0)]))
noncomputable def cZS (ts : Array Value) (x : Int) (QZ : Int → Prop) (QS : Int → Nat → Array Value → Prop) (fs : List SFr) (m : SMem) : Prop := match fs with | f :: _ => (match f.tm.get 5 with | some (.s (.c (.f (.slice _ _ _ _)))) => cS_n ts x QS fs m | _ => cZ_n ts x QZ fs m) | [] => False
noncomputable def c0_t (ts : Array Value) (x : Int) : Tree := run EH2 1000 3 [callFr 27 Try.f27.ntmps [tkS ts, cC] (Try.f27.body.getD .skip)] (cM x)
noncomputable def c0_x (ts : Array Value) (x : Int) (QcZ : Int → Prop) (fs : List SFr) (m : SMem) : Prop := cZ_n ts x QcZ fs m
noncomputable def dZ_d0 : List SIt := sekF Try.f27 3
noncomputable def dZ_F (ts : Array Value) (x : Int) (y : Int) (z : Bool) (i : Int) : List SFr := [frOf 27 Try.f27 [(1, .s (.c (.fn (.func 46) [] [.ptr 0 (.l 0), .ptr 1 (.l 0), .ptr 2 (.l 0)]))), (2, ptr 3 (.l 0)), (5, .s (.c (.f (.lit (.slice none 0 0))))), (11, .s (.agg (.op (ts.extract 64 144)))), (12, i64 (.o i))] dZ_d0]
noncomputable def dZ_M (ts : Array Value) (x : Int) (y : Int) (z : Bool) (i : Int) : SMem := mkM 4 [(0, ⟨.ls [.f (.int .u32 (.o x))], 30, false⟩), (1, ⟨.ls [.f (.int .u32 (.o y))], 30, false⟩), (2, ⟨.ls [.f (.bool (.o z))], 4, false⟩), (3, ⟨.op ts, 35, true⟩)]
noncomputable def dZ_n (ts : Array Value) (x : Int) (y : Int) (z : Bool) (Q : Int → Prop) (fs : List SFr) (m : SMem) : Prop := (match frNth fs 0 with | some f0 => (match rdI f0 12 with | some i => (match rdP f0 2 with | some p3 => Q i ∧ subOk 3 [(3, p3)] (dZ_F ts x y z i) (dZ_M ts x y z i) fs m | none => False) | none => False) | none => False)
noncomputable def dS_d0 : List SIt := sekF Try.f27 3
noncomputable def dS_F (ts : Array Value) (x : Int) (y : Int) (z : Bool) (i : Int) (k : Nat) (cs : Array Value) : List SFr := [frOf 27 Try.f27 [(1, .s (.c (.fn (.func 46) [] [.ptr 0 (.l 0), .ptr 1 (.l 0), .ptr 2 (.l 0)]))), (2, ptr 3 (.l 0)), (5, .s (.c (.f (.slice 4 (.l 0) (.o k) (.full 1))))), (11, .s (.agg (.op (ts.extract 64 144)))), (12, i64 (.o i))] dS_d0]
noncomputable def dS_M (ts : Array Value) (x : Int) (y : Int) (z : Bool) (i : Int) (k : Nat) (cs : Array Value) : SMem := mkM 5 [(0, ⟨.ls [.f (.int .u32 (.o x))], 30, false⟩), (1, ⟨.ls [.f (.int .u32 (.o y))], 30, false⟩), (2, ⟨.ls [.f (.bool (.o z))], 4, false⟩), (3, ⟨.op ts, 35, true⟩), (4, ⟨.pop cs, 30, true⟩)]
noncomputable def dS_n (ts : Array Value) (x : Int) (y : Int) (z : Bool) (Q : Int → Nat → Array Value → Prop) (fs : List SFr) (m : SMem) : Prop := (match frNth fs 0 with | some f0 => (match rdI f0 12 with | some i => (match rdP f0 2 with | some p3 => (match rdSI f0 5 with | some p4 => (match rdSN f0 5 with | some k => (match rdA m p4 with | some cs => Q i k cs ∧ subOk 3 [(3, p3), (4, p4)] (dS_F ts x y z i k cs) (dS_M ts x y z i k cs) fs m | none => False) | none => False) | none => False) | none => False) | none => False) | none => False)
noncomputable def dM (x : Int) (y : Int) (z : Bool) : SMem := mkM 3 [(0, ⟨.ls [.f (.int .u32 (.o x))], 30, false⟩), (1, ⟨.ls [.f (.int .u32 (.o y))], 30, false⟩), (2, ⟨.ls [.f (.bool (.o z))], 4, false⟩)]
noncomputable def dC : SV := .s (.c (.fn (.func 46) [] [.ptr 0 (.l 0), .ptr 1 (.l 0), .ptr 2 (.l 0)]))
noncomputable def dZS (ts : Array Value) (x : Int) (y : Int) (z : Bool) (QZ : Int → Prop) (QS : Int → Nat → Array Value → Prop) (fs : List SFr) (m : SMem) : Prop := match fs with | f :: _ => (match f.tm.get 5 with | some (.s (.c (.f (.slice _ _ _ _)))) => dS_n ts x y z QS fs m | _ => dZ_n ts x y z QZ fs m) | [] => False
noncomputable def d0_t (ts : Array Value) (x : Int) (y : Int) (z : Bool) : Tree := run EH2 1000 3 [callFr 27 Try.f27.ntmps [tkS ts, dC] (Try.f27.body.getD .skip)] (dM x y z)
noncomputable def d0_x (ts : Array Value) (x : Int) (y : Int) (z : Bool) (QdZ : Int → Prop) (fs : List SFr) (m : SMem) : Prop := dZ_n ts x y z QdZ fs m
noncomputable def freshR (k : Nat) (cs : Array Value) (s : SV) (m : SMem) : Prop := match s with | .s (.c (.f (.slice id (.l 0) (.o n) (.full 1)))) => (match getB m.bl id with | some ⟨.pop ds, ty, true⟩ => Nat.ble 3 id = true ∧ n = k ∧ ds = cs ∧ ty = 30 | _ => False) | _ => False
noncomputable def nilR (s : SV) (m : SMem) : Prop := match s with | .s (.c (.f (.lit (.slice none 0 0)))) => True | _ => False
theorem aZ_d0_ok (r : Nat → Option Nat) : TodoOk r aZ_d0 aZ_d0 := TodoOk.it (by kernel_rfl)
theorem aS_d0_ok (r : Nat → Option Nat) : TodoOk r aS_d0 aS_d0 := TodoOk.it (by kernel_rfl)
theorem bZ_d0_ok (r : Nat → Option Nat) : TodoOk r bZ_d0 bZ_d0 := TodoOk.it (by kernel_rfl)
theorem bS_d0_ok (r : Nat → Option Nat) : TodoOk r bS_d0 bS_d0 := TodoOk.it (by kernel_rfl)
theorem cZ_d0_ok (r : Nat → Option Nat) : TodoOk r cZ_d0 cZ_d0 := TodoOk.it (by kernel_rfl)
theorem cS_d0_ok (r : Nat → Option Nat) : TodoOk r cS_d0 cS_d0 := TodoOk.it (by kernel_rfl)
theorem dZ_d0_ok (r : Nat → Option Nat) : TodoOk r dZ_d0 dZ_d0 := TodoOk.it (by kernel_rfl)
theorem dS_d0_ok (r : Nat → Option Nat) : TodoOk r dS_d0 dS_d0 := TodoOk.it (by kernel_rfl)
theorem aZ_good {A : SV → SMem → Prop} {ts : Array Value} {x : Int} {Q : Int → Prop} {fs : List SFr} {m : SMem} (H : ∀ i, Q i → Good Try.prog A 3 (aZ_F ts x i) (aZ_M ts x i)) (hb : aZ_n ts x Q fs m) : Good Try.prog A 3 fs m := by
  unfold aZ_n at hb
  split at hb
  rotate_left
  · exact hb.elim
  split at hb
  rotate_left
  · exact hb.elim
  split at hb
  rotate_left
  · exact hb.elim
  exact Good.of_sub hb.2 (H _ hb.1)
theorem aS_good {A : SV → SMem → Prop} {ts : Array Value} {x : Int} {Q : Int → Nat → Array Value → Prop} {fs : List SFr} {m : SMem} (H : ∀ i k cs, Q i k cs → Good Try.prog A 3 (aS_F ts x i k cs) (aS_M ts x i k cs)) (hb : aS_n ts x Q fs m) : Good Try.prog A 3 fs m := by
  unfold aS_n at hb
  split at hb
  rotate_left
  · exact hb.elim
  split at hb
  rotate_left
  · exact hb.elim
  split at hb
  rotate_left
  · exact hb.elim
  split at hb
  rotate_left
  · exact hb.elim
  split at hb
  rotate_left
  · exact hb.elim
  split at hb
  rotate_left
  · exact hb.elim
  exact Good.of_sub hb.2 (H _ _ _ hb.1)
theorem a0_go {A : SV → SMem → Prop} {ts : Array Value} {x : Int} {QaZ : Int → Prop} {fs : List SFr} {m : SMem} (haZ : ∀ i', QaZ i' → Good Try.prog A 3 (aZ_F ts x i') (aZ_M ts x i')) (hb : a0_x ts x QaZ fs m) : Good Try.prog A 3 fs m := by
  unfold a0_x at hb
  exact aZ_good haZ hb
theorem bZ_good {A : SV → SMem → Prop} {ts : Array Value} {x : Int} {Q : Int → Prop} {fs : List SFr} {m : SMem} (H : ∀ i, Q i → Good Try.prog A 3 (bZ_F ts x i) (bZ_M ts x i)) (hb : bZ_n ts x Q fs m) : Good Try.prog A 3 fs m := by
  unfold bZ_n at hb
  split at hb
  rotate_left
  · exact hb.elim
  split at hb
  rotate_left
  · exact hb.elim
  split at hb
  rotate_left
  · exact hb.elim
  exact Good.of_sub hb.2 (H _ hb.1)
theorem bS_good {A : SV → SMem → Prop} {ts : Array Value} {x : Int} {Q : Int → Nat → Array Value → Prop} {fs : List SFr} {m : SMem} (H : ∀ i k cs, Q i k cs → Good Try.prog A 3 (bS_F ts x i k cs) (bS_M ts x i k cs)) (hb : bS_n ts x Q fs m) : Good Try.prog A 3 fs m := by
  unfold bS_n at hb
  split at hb
  rotate_left
  · exact hb.elim
  split at hb
  rotate_left
  · exact hb.elim
  split at hb
  rotate_left
  · exact hb.elim
  split at hb
  rotate_left
  · exact hb.elim
  split at hb
  rotate_left
  · exact hb.elim
  split at hb
  rotate_left
  · exact hb.elim
  exact Good.of_sub hb.2 (H _ _ _ hb.1)
theorem b0_go {A : SV → SMem → Prop} {ts : Array Value} {x : Int} {QbZ : Int → Prop} {fs : List SFr} {m : SMem} (hbZ : ∀ i', QbZ i' → Good Try.prog A 3 (bZ_F ts x i') (bZ_M ts x i')) (hb : b0_x ts x QbZ fs m) : Good Try.prog A 3 fs m := by
  unfold b0_x at hb
  exact bZ_good hbZ hb
theorem cZ_good {A : SV → SMem → Prop} {ts : Array Value} {x : Int} {Q : Int → Prop} {fs : List SFr} {m : SMem} (H : ∀ i, Q i → Good Try.prog A 3 (cZ_F ts x i) (cZ_M ts x i)) (hb : cZ_n ts x Q fs m) : Good Try.prog A 3 fs m := by
  unfold cZ_n at hb
  split at hb
  rotate_left
  · exact hb.elim
  split at hb
  rotate_left
  · exact hb.elim
  split at hb
  rotate_left
  · exact hb.elim
  exact Good.of_sub hb.2 (H _ hb.1)
theorem cS_good {A : SV → SMem → Prop} {ts : Array Value} {x : Int} {Q : Int → Nat → Array Value → Prop} {fs : List SFr} {m : SMem} (H : ∀ i k cs, Q i k cs → Good Try.prog A 3 (cS_F ts x i k cs) (cS_M ts x i k cs)) (hb : cS_n ts x Q fs m) : Good Try.prog A 3 fs m := by
  unfold cS_n at hb
  split at hb
  rotate_left
  · exact hb.elim
  split at hb
  rotate_left
  · exact hb.elim
  split at hb
  rotate_left
  · exact hb.elim
  split at hb
  rotate_left
  · exact hb.elim
  split at hb
  rotate_left
  · exact hb.elim
  split at hb
  rotate_left
  · exact hb.elim
  exact Good.of_sub hb.2 (H _ _ _ hb.1)
theorem c0_go {A : SV → SMem → Prop} {ts : Array Value} {x : Int} {QcZ : Int → Prop} {fs : List SFr} {m : SMem} (hcZ : ∀ i', QcZ i' → Good Try.prog A 3 (cZ_F ts x i') (cZ_M ts x i')) (hb : c0_x ts x QcZ fs m) : Good Try.prog A 3 fs m := by
  unfold c0_x at hb
  exact cZ_good hcZ hb
theorem dZ_good {A : SV → SMem → Prop} {ts : Array Value} {x : Int} {y : Int} {z : Bool} {Q : Int → Prop} {fs : List SFr} {m : SMem} (H : ∀ i, Q i → Good Try.prog A 3 (dZ_F ts x y z i) (dZ_M ts x y z i)) (hb : dZ_n ts x y z Q fs m) : Good Try.prog A 3 fs m := by
  unfold dZ_n at hb
  split at hb
  rotate_left
  · exact hb.elim
  split at hb
  rotate_left
  · exact hb.elim
  split at hb
  rotate_left
  · exact hb.elim
  exact Good.of_sub hb.2 (H _ hb.1)
theorem dS_good {A : SV → SMem → Prop} {ts : Array Value} {x : Int} {y : Int} {z : Bool} {Q : Int → Nat → Array Value → Prop} {fs : List SFr} {m : SMem} (H : ∀ i k cs, Q i k cs → Good Try.prog A 3 (dS_F ts x y z i k cs) (dS_M ts x y z i k cs)) (hb : dS_n ts x y z Q fs m) : Good Try.prog A 3 fs m := by
  unfold dS_n at hb
  split at hb
  rotate_left
  · exact hb.elim
  split at hb
  rotate_left
  · exact hb.elim
  split at hb
  rotate_left
  · exact hb.elim
  split at hb
  rotate_left
  · exact hb.elim
  split at hb
  rotate_left
  · exact hb.elim
  split at hb
  rotate_left
  · exact hb.elim
  exact Good.of_sub hb.2 (H _ _ _ hb.1)
theorem d0_go {A : SV → SMem → Prop} {ts : Array Value} {x : Int} {y : Int} {z : Bool} {QdZ : Int → Prop} {fs : List SFr} {m : SMem} (hdZ : ∀ i', QdZ i' → Good Try.prog A 3 (dZ_F ts x y z i') (dZ_M ts x y z i')) (hb : d0_x ts x y z QdZ fs m) : Good Try.prog A 3 fs m := by
  unfold d0_x at hb
  exact dZ_good hdZ hb
end Go.Proofs.Ytnjmockpdmchcaa
/- Of token: which tokens there are: its states. -/
namespace Go.Proofs.Ytnjmockpdmchcaa
set_option maxRecDepth 100000
theorem a0_vc (ts : Array Value) (x : Int) (QaZ : Int → Prop) : (a0_t ts x).vc ((fun _ _ => False)) (a0_x ts x QaZ) =
    (((144 : Nat) ≤ Array.size ts ∧ True) ∧ QaZ (0 : Int) ∧ CallKind.normal = CallKind.normal ∧ TodoOk (ren 3 [(3, 3)]) aZ_d0 aZ_d0 ∧ Fn.func (39 : Nat) = Fn.func (39 : Nat) ∧ Array.extract ts (64 : Nat) (144 : Nat) = Array.extract ts (64 : Nat) (144 : Nat) ∧ Value.slice none (0 : Nat) (0 : Nat) = Value.slice none (0 : Nat) (0 : Nat) ∧ (0 : Int) = (0 : Int) ∧ (30 : TypeId) = (30 : TypeId) ∧ x = x ∧ (35 : TypeId) = (35 : Nat) ∧ ts = ts ∧ True) := by kernel_rfl
theorem b0_vc (ts : Array Value) (x : Int) (QbZ : Int → Prop) : (b0_t ts x).vc ((fun _ _ => False)) (b0_x ts x QbZ) =
    (((144 : Nat) ≤ Array.size ts ∧ True) ∧ QbZ (0 : Int) ∧ CallKind.normal = CallKind.normal ∧ TodoOk (ren 3 [(3, 3)]) aZ_d0 aZ_d0 ∧ Fn.func (38 : Nat) = Fn.func (38 : Nat) ∧ Array.extract ts (64 : Nat) (144 : Nat) = Array.extract ts (64 : Nat) (144 : Nat) ∧ Value.slice none (0 : Nat) (0 : Nat) = Value.slice none (0 : Nat) (0 : Nat) ∧ (0 : Int) = (0 : Int) ∧ (3 : TypeId) = (3 : TypeId) ∧ x = x ∧ (35 : TypeId) = (35 : Nat) ∧ ts = ts ∧ True) := by kernel_rfl
theorem c0_vc (ts : Array Value) (x : Int) (QcZ : Int → Prop) : (c0_t ts x).vc ((fun _ _ => False)) (c0_x ts x QcZ) =
    (((144 : Nat) ≤ Array.size ts ∧ True) ∧ QcZ (0 : Int) ∧ CallKind.normal = CallKind.normal ∧ TodoOk (ren 3 [(3, 3)]) aZ_d0 aZ_d0 ∧ Fn.func (28 : Nat) = Fn.func (28 : Nat) ∧ Array.extract ts (64 : Nat) (144 : Nat) = Array.extract ts (64 : Nat) (144 : Nat) ∧ Value.slice none (0 : Nat) (0 : Nat) = Value.slice none (0 : Nat) (0 : Nat) ∧ (0 : Int) = (0 : Int) ∧ (30 : TypeId) = (30 : TypeId) ∧ x = x ∧ (35 : TypeId) = (35 : Nat) ∧ ts = ts ∧ True) := by kernel_rfl
theorem d0_vc (ts : Array Value) (x : Int) (y : Int) (z : Bool) (QdZ : Int → Prop) : (d0_t ts x y z).vc ((fun _ _ => False)) (d0_x ts x y z QdZ) =
    (((144 : Nat) ≤ Array.size ts ∧ True) ∧ QdZ (0 : Int) ∧ CallKind.normal = CallKind.normal ∧ TodoOk (ren 3 [(3, 3)]) aZ_d0 aZ_d0 ∧ Fn.func (46 : Nat) = Fn.func (46 : Nat) ∧ Array.extract ts (64 : Nat) (144 : Nat) = Array.extract ts (64 : Nat) (144 : Nat) ∧ Value.slice none (0 : Nat) (0 : Nat) = Value.slice none (0 : Nat) (0 : Nat) ∧ (0 : Int) = (0 : Int) ∧ (30 : TypeId) = (30 : TypeId) ∧ x = x ∧ (30 : TypeId) = (30 : TypeId) ∧ y = y ∧ (35 : TypeId) = (35 : Nat) ∧ ts = ts ∧ (4 : TypeId) = (4 : TypeId) ∧ z = z ∧ True) := by kernel_rfl
theorem a1 (ts : Array Value) (x : Int) (i : Int) (QZ : Int → Prop) (QS : Int → Nat → Array Value → Prop) : (stepT EH2.go (run EH2 1000) 3 (aZ_F ts x i) (aZ_M ts x i)).vc (nilR) (aZS ts x QZ QS) =
    ((decide (i < (16 : Int)) = true → (((0 : Int) ≤ i ∧ i < (16 : Int)) ∧ Int.toNat i * 5 + 5 ≤ Array.size (Array.extract ts (64 : Nat) (144 : Nat)) ∧ True) ∧ (Array.size (Array.extract (Array.extract ts (64 : Nat) (144 : Nat)) (Int.toNat i * 5) (Int.toNat i * 5 + 5)) = (5 : Nat) ∧ Array.size (Array.extract (Array.extract ts (64 : Nat) (144 : Nat)) (Int.toNat i * 5) (Int.toNat i * 5 + 5)) = (5 : Nat) ∧ True) ∧ ((64 : Nat) ≤ Array.size ts ∧ True) ∧ (BkOk (Array.extract ts (0 : Nat) (64 : Nat)) ∧ True) ∧ ((atOk (Array.extract ts (0 : Nat) (64 : Nat)) i == true) = true → (IsInt IntKind.u32 (Array.extract (Array.extract ts (64 : Nat) (144 : Nat)) (Int.toNat i * 5) (Int.toNat i * 5 + 5)) (0 : Nat) ∧ IsInt IntKind.u8 (Array.extract (Array.extract ts (64 : Nat) (144 : Nat)) (Int.toNat i * 5) (Int.toNat i * 5 + 5)) (1 : Nat) ∧ IsInt IntKind.u8 (Array.extract (Array.extract ts (64 : Nat) (144 : Nat)) (Int.toNat i * 5) (Int.toNat i * 5 + 5)) (2 : Nat) ∧ IsBool (Array.extract (Array.extract ts (64 : Nat) (144 : Nat)) (Int.toNat i * 5) (Int.toNat i * 5 + 5)) (3 : Nat) ∧ IsInt IntKind.u32 (Array.extract (Array.extract ts (64 : Nat) (144 : Nat)) (Int.toNat i * 5) (Int.toNat i * 5 + 5)) (4 : Nat) ∧ True) ∧ ((intAt (Array.extract (Array.extract ts (64 : Nat) (144 : Nat)) (Int.toNat i * 5) (Int.toNat i * 5 + 5)) (0 : Nat) == x) = true → QS (ari BinOp.add IntKind.i64 i (1 : Int)) (1 : Nat) #[Value.int IntKind.u32 (atI (Array.extract ts (0 : Nat) (64 : Nat)) i)] ∧ CallKind.normal = CallKind.normal ∧ TodoOk (ren 3 [(3, 3), (4, 7)]) aZ_d0 aZ_d0 ∧ Fn.func (39 : Nat) = Fn.func (39 : Nat) ∧ Array.extract ts (64 : Nat) (144 : Nat) = Array.extract ts (64 : Nat) (144 : Nat) ∧ (1 : Nat) = (1 : Nat) ∧ ari BinOp.add IntKind.i64 i (1 : Int) = ari BinOp.add IntKind.i64 i (1 : Int) ∧ (30 : TypeId) = (30 : TypeId) ∧ x = x ∧ (35 : TypeId) = (35 : TypeId) ∧ ts = ts ∧ (30 : TypeId) = (30 : Nat) ∧ #[Value.int IntKind.u32 (atI (Array.extract ts (0 : Nat) (64 : Nat)) i)] = #[Value.int IntKind.u32 (atI (Array.extract ts (0 : Nat) (64 : Nat)) i)] ∧ True) ∧ ((intAt (Array.extract (Array.extract ts (64 : Nat) (144 : Nat)) (Int.toNat i * 5) (Int.toNat i * 5 + 5)) (0 : Nat) == x) = false → QZ (ari BinOp.add IntKind.i64 i (1 : Int)) ∧ CallKind.normal = CallKind.normal ∧ TodoOk (ren 3 [(3, 3)]) aZ_d0 aZ_d0 ∧ Fn.func (39 : Nat) = Fn.func (39 : Nat) ∧ Array.extract ts (64 : Nat) (144 : Nat) = Array.extract ts (64 : Nat) (144 : Nat) ∧ Value.slice none (0 : Nat) (0 : Nat) = Value.slice none (0 : Nat) (0 : Nat) ∧ ari BinOp.add IntKind.i64 i (1 : Int) = ari BinOp.add IntKind.i64 i (1 : Int) ∧ (30 : TypeId) = (30 : TypeId) ∧ x = x ∧ (35 : TypeId) = (35 : TypeId) ∧ ts = ts ∧ True)) ∧ ((atOk (Array.extract ts (0 : Nat) (64 : Nat)) i == true) = false → QZ (ari BinOp.add IntKind.i64 i (1 : Int)) ∧ CallKind.normal = CallKind.normal ∧ TodoOk (ren 3 [(3, 3)]) aZ_d0 aZ_d0 ∧ Fn.func (39 : Nat) = Fn.func (39 : Nat) ∧ Array.extract ts (64 : Nat) (144 : Nat) = Array.extract ts (64 : Nat) (144 : Nat) ∧ Value.slice none (0 : Nat) (0 : Nat) = Value.slice none (0 : Nat) (0 : Nat) ∧ ari BinOp.add IntKind.i64 i (1 : Int) = ari BinOp.add IntKind.i64 i (1 : Int) ∧ (30 : TypeId) = (30 : TypeId) ∧ x = x ∧ (35 : TypeId) = (35 : TypeId) ∧ ts = ts ∧ True)) ∧ (decide (i < (16 : Int)) = false → True)) := by kernel_rfl
theorem a2 (ts : Array Value) (x : Int) (i : Int) (kF : Nat) (csF : Array Value) (QZ : Int → Prop) (QS : Int → Nat → Array Value → Prop) : (stepT EH2.go (run EH2 1000) 3 (aZ_F ts x i) (aZ_M ts x i)).vc (freshR kF csF) (aZS ts x QZ QS) =
    ((decide (i < (16 : Int)) = true → (((0 : Int) ≤ i ∧ i < (16 : Int)) ∧ Int.toNat i * 5 + 5 ≤ Array.size (Array.extract ts (64 : Nat) (144 : Nat)) ∧ True) ∧ (Array.size (Array.extract (Array.extract ts (64 : Nat) (144 : Nat)) (Int.toNat i * 5) (Int.toNat i * 5 + 5)) = (5 : Nat) ∧ Array.size (Array.extract (Array.extract ts (64 : Nat) (144 : Nat)) (Int.toNat i * 5) (Int.toNat i * 5 + 5)) = (5 : Nat) ∧ True) ∧ ((64 : Nat) ≤ Array.size ts ∧ True) ∧ (BkOk (Array.extract ts (0 : Nat) (64 : Nat)) ∧ True) ∧ ((atOk (Array.extract ts (0 : Nat) (64 : Nat)) i == true) = true → (IsInt IntKind.u32 (Array.extract (Array.extract ts (64 : Nat) (144 : Nat)) (Int.toNat i * 5) (Int.toNat i * 5 + 5)) (0 : Nat) ∧ IsInt IntKind.u8 (Array.extract (Array.extract ts (64 : Nat) (144 : Nat)) (Int.toNat i * 5) (Int.toNat i * 5 + 5)) (1 : Nat) ∧ IsInt IntKind.u8 (Array.extract (Array.extract ts (64 : Nat) (144 : Nat)) (Int.toNat i * 5) (Int.toNat i * 5 + 5)) (2 : Nat) ∧ IsBool (Array.extract (Array.extract ts (64 : Nat) (144 : Nat)) (Int.toNat i * 5) (Int.toNat i * 5 + 5)) (3 : Nat) ∧ IsInt IntKind.u32 (Array.extract (Array.extract ts (64 : Nat) (144 : Nat)) (Int.toNat i * 5) (Int.toNat i * 5 + 5)) (4 : Nat) ∧ True) ∧ ((intAt (Array.extract (Array.extract ts (64 : Nat) (144 : Nat)) (Int.toNat i * 5) (Int.toNat i * 5 + 5)) (0 : Nat) == x) = true → QS (ari BinOp.add IntKind.i64 i (1 : Int)) (1 : Nat) #[Value.int IntKind.u32 (atI (Array.extract ts (0 : Nat) (64 : Nat)) i)] ∧ CallKind.normal = CallKind.normal ∧ TodoOk (ren 3 [(3, 3), (4, 7)]) aZ_d0 aZ_d0 ∧ Fn.func (39 : Nat) = Fn.func (39 : Nat) ∧ Array.extract ts (64 : Nat) (144 : Nat) = Array.extract ts (64 : Nat) (144 : Nat) ∧ (1 : Nat) = (1 : Nat) ∧ ari BinOp.add IntKind.i64 i (1 : Int) = ari BinOp.add IntKind.i64 i (1 : Int) ∧ (30 : TypeId) = (30 : TypeId) ∧ x = x ∧ (35 : TypeId) = (35 : TypeId) ∧ ts = ts ∧ (30 : TypeId) = (30 : Nat) ∧ #[Value.int IntKind.u32 (atI (Array.extract ts (0 : Nat) (64 : Nat)) i)] = #[Value.int IntKind.u32 (atI (Array.extract ts (0 : Nat) (64 : Nat)) i)] ∧ True) ∧ ((intAt (Array.extract (Array.extract ts (64 : Nat) (144 : Nat)) (Int.toNat i * 5) (Int.toNat i * 5 + 5)) (0 : Nat) == x) = false → QZ (ari BinOp.add IntKind.i64 i (1 : Int)) ∧ CallKind.normal = CallKind.normal ∧ TodoOk (ren 3 [(3, 3)]) aZ_d0 aZ_d0 ∧ Fn.func (39 : Nat) = Fn.func (39 : Nat) ∧ Array.extract ts (64 : Nat) (144 : Nat) = Array.extract ts (64 : Nat) (144 : Nat) ∧ Value.slice none (0 : Nat) (0 : Nat) = Value.slice none (0 : Nat) (0 : Nat) ∧ ari BinOp.add IntKind.i64 i (1 : Int) = ari BinOp.add IntKind.i64 i (1 : Int) ∧ (30 : TypeId) = (30 : TypeId) ∧ x = x ∧ (35 : TypeId) = (35 : TypeId) ∧ ts = ts ∧ True)) ∧ ((atOk (Array.extract ts (0 : Nat) (64 : Nat)) i == true) = false → QZ (ari BinOp.add IntKind.i64 i (1 : Int)) ∧ CallKind.normal = CallKind.normal ∧ TodoOk (ren 3 [(3, 3)]) aZ_d0 aZ_d0 ∧ Fn.func (39 : Nat) = Fn.func (39 : Nat) ∧ Array.extract ts (64 : Nat) (144 : Nat) = Array.extract ts (64 : Nat) (144 : Nat) ∧ Value.slice none (0 : Nat) (0 : Nat) = Value.slice none (0 : Nat) (0 : Nat) ∧ ari BinOp.add IntKind.i64 i (1 : Int) = ari BinOp.add IntKind.i64 i (1 : Int) ∧ (30 : TypeId) = (30 : TypeId) ∧ x = x ∧ (35 : TypeId) = (35 : TypeId) ∧ ts = ts ∧ True)) ∧ (decide (i < (16 : Int)) = false → False)) := by kernel_rfl
theorem a3 (ts : Array Value) (x : Int) (i : Int) (k : Nat) (cs : Array Value) (kF : Nat) (csF : Array Value) (QS : Int → Nat → Array Value → Prop) : (stepT EH2.go (run EH2 1000) 3 (aS_F ts x i k cs) (aS_M ts x i k cs)).vc (freshR kF csF) (aS_n ts x QS) =
    ((decide (i < (16 : Int)) = true → (((0 : Int) ≤ i ∧ i < (16 : Int)) ∧ Int.toNat i * 5 + 5 ≤ Array.size (Array.extract ts (64 : Nat) (144 : Nat)) ∧ True) ∧ (Array.size (Array.extract (Array.extract ts (64 : Nat) (144 : Nat)) (Int.toNat i * 5) (Int.toNat i * 5 + 5)) = (5 : Nat) ∧ Array.size (Array.extract (Array.extract ts (64 : Nat) (144 : Nat)) (Int.toNat i * 5) (Int.toNat i * 5 + 5)) = (5 : Nat) ∧ True) ∧ ((64 : Nat) ≤ Array.size ts ∧ True) ∧ (BkOk (Array.extract ts (0 : Nat) (64 : Nat)) ∧ True) ∧ ((atOk (Array.extract ts (0 : Nat) (64 : Nat)) i == true) = true → (IsInt IntKind.u32 (Array.extract (Array.extract ts (64 : Nat) (144 : Nat)) (Int.toNat i * 5) (Int.toNat i * 5 + 5)) (0 : Nat) ∧ IsInt IntKind.u8 (Array.extract (Array.extract ts (64 : Nat) (144 : Nat)) (Int.toNat i * 5) (Int.toNat i * 5 + 5)) (1 : Nat) ∧ IsInt IntKind.u8 (Array.extract (Array.extract ts (64 : Nat) (144 : Nat)) (Int.toNat i * 5) (Int.toNat i * 5 + 5)) (2 : Nat) ∧ IsBool (Array.extract (Array.extract ts (64 : Nat) (144 : Nat)) (Int.toNat i * 5) (Int.toNat i * 5 + 5)) (3 : Nat) ∧ IsInt IntKind.u32 (Array.extract (Array.extract ts (64 : Nat) (144 : Nat)) (Int.toNat i * 5) (Int.toNat i * 5 + 5)) (4 : Nat) ∧ True) ∧ ((intAt (Array.extract (Array.extract ts (64 : Nat) (144 : Nat)) (Int.toNat i * 5) (Int.toNat i * 5 + 5)) (0 : Nat) == x) = true → (((k + 1) * 4 ≤ (140737488355328 : Nat) ∧ k + 1 ≤ (140737488355328 : Nat)) ∧ k * 1 = Array.size cs ∧ True) ∧ QS (ari BinOp.add IntKind.i64 i (1 : Int)) (k + 1) (cs ++ #[Value.int IntKind.u32 (atI (Array.extract ts (0 : Nat) (64 : Nat)) i)]) ∧ CallKind.normal = CallKind.normal ∧ TodoOk (ren 3 [(3, 3), (4, 8)]) aZ_d0 aZ_d0 ∧ Fn.func (39 : Nat) = Fn.func (39 : Nat) ∧ Array.extract ts (64 : Nat) (144 : Nat) = Array.extract ts (64 : Nat) (144 : Nat) ∧ k + 1 = k + 1 ∧ ari BinOp.add IntKind.i64 i (1 : Int) = ari BinOp.add IntKind.i64 i (1 : Int) ∧ (30 : TypeId) = (30 : TypeId) ∧ x = x ∧ (35 : TypeId) = (35 : TypeId) ∧ ts = ts ∧ (30 : TypeId) = (30 : Nat) ∧ cs ++ #[Value.int IntKind.u32 (atI (Array.extract ts (0 : Nat) (64 : Nat)) i)] = cs ++ #[Value.int IntKind.u32 (atI (Array.extract ts (0 : Nat) (64 : Nat)) i)] ∧ True) ∧ ((intAt (Array.extract (Array.extract ts (64 : Nat) (144 : Nat)) (Int.toNat i * 5) (Int.toNat i * 5 + 5)) (0 : Nat) == x) = false → QS (ari BinOp.add IntKind.i64 i (1 : Int)) k cs ∧ CallKind.normal = CallKind.normal ∧ TodoOk (ren 3 [(3, 3), (4, 4)]) aZ_d0 aZ_d0 ∧ Fn.func (39 : Nat) = Fn.func (39 : Nat) ∧ Array.extract ts (64 : Nat) (144 : Nat) = Array.extract ts (64 : Nat) (144 : Nat) ∧ k = k ∧ ari BinOp.add IntKind.i64 i (1 : Int) = ari BinOp.add IntKind.i64 i (1 : Int) ∧ (30 : TypeId) = (30 : TypeId) ∧ x = x ∧ (35 : TypeId) = (35 : TypeId) ∧ ts = ts ∧ (30 : TypeId) = (30 : TypeId) ∧ cs = cs ∧ True)) ∧ ((atOk (Array.extract ts (0 : Nat) (64 : Nat)) i == true) = false → QS (ari BinOp.add IntKind.i64 i (1 : Int)) k cs ∧ CallKind.normal = CallKind.normal ∧ TodoOk (ren 3 [(3, 3), (4, 4)]) aZ_d0 aZ_d0 ∧ Fn.func (39 : Nat) = Fn.func (39 : Nat) ∧ Array.extract ts (64 : Nat) (144 : Nat) = Array.extract ts (64 : Nat) (144 : Nat) ∧ k = k ∧ ari BinOp.add IntKind.i64 i (1 : Int) = ari BinOp.add IntKind.i64 i (1 : Int) ∧ (30 : TypeId) = (30 : TypeId) ∧ x = x ∧ (35 : TypeId) = (35 : TypeId) ∧ ts = ts ∧ (30 : TypeId) = (30 : TypeId) ∧ cs = cs ∧ True)) ∧ (decide (i < (16 : Int)) = false → true = true ∧ k = kF ∧ cs = csF ∧ (30 : TypeId) = (30 : TypeId))) := by kernel_rfl
theorem b1 (ts : Array Value) (x : Int) (i : Int) (QZ : Int → Prop) (QS : Int → Nat → Array Value → Prop) : (stepT EH2.go (run EH2 1000) 3 (bZ_F ts x i) (bZ_M ts x i)).vc (nilR) (bZS ts x QZ QS) =
    ((decide (i < (16 : Int)) = true → (((0 : Int) ≤ i ∧ i < (16 : Int)) ∧ Int.toNat i * 5 + 5 ≤ Array.size (Array.extract ts (64 : Nat) (144 : Nat)) ∧ True) ∧ (Array.size (Array.extract (Array.extract ts (64 : Nat) (144 : Nat)) (Int.toNat i * 5) (Int.toNat i * 5 + 5)) = (5 : Nat) ∧ Array.size (Array.extract (Array.extract ts (64 : Nat) (144 : Nat)) (Int.toNat i * 5) (Int.toNat i * 5 + 5)) = (5 : Nat) ∧ True) ∧ ((64 : Nat) ≤ Array.size ts ∧ True) ∧ (BkOk (Array.extract ts (0 : Nat) (64 : Nat)) ∧ True) ∧ ((atOk (Array.extract ts (0 : Nat) (64 : Nat)) i == true) = true → (IsInt IntKind.u32 (Array.extract (Array.extract ts (64 : Nat) (144 : Nat)) (Int.toNat i * 5) (Int.toNat i * 5 + 5)) (0 : Nat) ∧ IsInt IntKind.u8 (Array.extract (Array.extract ts (64 : Nat) (144 : Nat)) (Int.toNat i * 5) (Int.toNat i * 5 + 5)) (1 : Nat) ∧ IsInt IntKind.u8 (Array.extract (Array.extract ts (64 : Nat) (144 : Nat)) (Int.toNat i * 5) (Int.toNat i * 5 + 5)) (2 : Nat) ∧ IsBool (Array.extract (Array.extract ts (64 : Nat) (144 : Nat)) (Int.toNat i * 5) (Int.toNat i * 5 + 5)) (3 : Nat) ∧ IsInt IntKind.u32 (Array.extract (Array.extract ts (64 : Nat) (144 : Nat)) (Int.toNat i * 5) (Int.toNat i * 5 + 5)) (4 : Nat) ∧ True) ∧ ((IntKind.wrap IntKind.i64 (intAt (Array.extract (Array.extract ts (64 : Nat) (144 : Nat)) (Int.toNat i * 5) (Int.toNat i * 5 + 5)) (2 : Nat)) == x) = true → QS (ari BinOp.add IntKind.i64 i (1 : Int)) (1 : Nat) #[Value.int IntKind.u32 (atI (Array.extract ts (0 : Nat) (64 : Nat)) i)] ∧ CallKind.normal = CallKind.normal ∧ TodoOk (ren 3 [(3, 3), (4, 7)]) aZ_d0 aZ_d0 ∧ Fn.func (38 : Nat) = Fn.func (38 : Nat) ∧ Array.extract ts (64 : Nat) (144 : Nat) = Array.extract ts (64 : Nat) (144 : Nat) ∧ (1 : Nat) = (1 : Nat) ∧ ari BinOp.add IntKind.i64 i (1 : Int) = ari BinOp.add IntKind.i64 i (1 : Int) ∧ (3 : TypeId) = (3 : TypeId) ∧ x = x ∧ (35 : TypeId) = (35 : TypeId) ∧ ts = ts ∧ (30 : TypeId) = (30 : Nat) ∧ #[Value.int IntKind.u32 (atI (Array.extract ts (0 : Nat) (64 : Nat)) i)] = #[Value.int IntKind.u32 (atI (Array.extract ts (0 : Nat) (64 : Nat)) i)] ∧ True) ∧ ((IntKind.wrap IntKind.i64 (intAt (Array.extract (Array.extract ts (64 : Nat) (144 : Nat)) (Int.toNat i * 5) (Int.toNat i * 5 + 5)) (2 : Nat)) == x) = false → QZ (ari BinOp.add IntKind.i64 i (1 : Int)) ∧ CallKind.normal = CallKind.normal ∧ TodoOk (ren 3 [(3, 3)]) aZ_d0 aZ_d0 ∧ Fn.func (38 : Nat) = Fn.func (38 : Nat) ∧ Array.extract ts (64 : Nat) (144 : Nat) = Array.extract ts (64 : Nat) (144 : Nat) ∧ Value.slice none (0 : Nat) (0 : Nat) = Value.slice none (0 : Nat) (0 : Nat) ∧ ari BinOp.add IntKind.i64 i (1 : Int) = ari BinOp.add IntKind.i64 i (1 : Int) ∧ (3 : TypeId) = (3 : TypeId) ∧ x = x ∧ (35 : TypeId) = (35 : TypeId) ∧ ts = ts ∧ True)) ∧ ((atOk (Array.extract ts (0 : Nat) (64 : Nat)) i == true) = false → QZ (ari BinOp.add IntKind.i64 i (1 : Int)) ∧ CallKind.normal = CallKind.normal ∧ TodoOk (ren 3 [(3, 3)]) aZ_d0 aZ_d0 ∧ Fn.func (38 : Nat) = Fn.func (38 : Nat) ∧ Array.extract ts (64 : Nat) (144 : Nat) = Array.extract ts (64 : Nat) (144 : Nat) ∧ Value.slice none (0 : Nat) (0 : Nat) = Value.slice none (0 : Nat) (0 : Nat) ∧ ari BinOp.add IntKind.i64 i (1 : Int) = ari BinOp.add IntKind.i64 i (1 : Int) ∧ (3 : TypeId) = (3 : TypeId) ∧ x = x ∧ (35 : TypeId) = (35 : TypeId) ∧ ts = ts ∧ True)) ∧ (decide (i < (16 : Int)) = false → True)) := by kernel_rfl
theorem b2 (ts : Array Value) (x : Int) (i : Int) (kF : Nat) (csF : Array Value) (QZ : Int → Prop) (QS : Int → Nat → Array Value → Prop) : (stepT EH2.go (run EH2 1000) 3 (bZ_F ts x i) (bZ_M ts x i)).vc (freshR kF csF) (bZS ts x QZ QS) =
    ((decide (i < (16 : Int)) = true → (((0 : Int) ≤ i ∧ i < (16 : Int)) ∧ Int.toNat i * 5 + 5 ≤ Array.size (Array.extract ts (64 : Nat) (144 : Nat)) ∧ True) ∧ (Array.size (Array.extract (Array.extract ts (64 : Nat) (144 : Nat)) (Int.toNat i * 5) (Int.toNat i * 5 + 5)) = (5 : Nat) ∧ Array.size (Array.extract (Array.extract ts (64 : Nat) (144 : Nat)) (Int.toNat i * 5) (Int.toNat i * 5 + 5)) = (5 : Nat) ∧ True) ∧ ((64 : Nat) ≤ Array.size ts ∧ True) ∧ (BkOk (Array.extract ts (0 : Nat) (64 : Nat)) ∧ True) ∧ ((atOk (Array.extract ts (0 : Nat) (64 : Nat)) i == true) = true → (IsInt IntKind.u32 (Array.extract (Array.extract ts (64 : Nat) (144 : Nat)) (Int.toNat i * 5) (Int.toNat i * 5 + 5)) (0 : Nat) ∧ IsInt IntKind.u8 (Array.extract (Array.extract ts (64 : Nat) (144 : Nat)) (Int.toNat i * 5) (Int.toNat i * 5 + 5)) (1 : Nat) ∧ IsInt IntKind.u8 (Array.extract (Array.extract ts (64 : Nat) (144 : Nat)) (Int.toNat i * 5) (Int.toNat i * 5 + 5)) (2 : Nat) ∧ IsBool (Array.extract (Array.extract ts (64 : Nat) (144 : Nat)) (Int.toNat i * 5) (Int.toNat i * 5 + 5)) (3 : Nat) ∧ IsInt IntKind.u32 (Array.extract (Array.extract ts (64 : Nat) (144 : Nat)) (Int.toNat i * 5) (Int.toNat i * 5 + 5)) (4 : Nat) ∧ True) ∧ ((IntKind.wrap IntKind.i64 (intAt (Array.extract (Array.extract ts (64 : Nat) (144 : Nat)) (Int.toNat i * 5) (Int.toNat i * 5 + 5)) (2 : Nat)) == x) = true → QS (ari BinOp.add IntKind.i64 i (1 : Int)) (1 : Nat) #[Value.int IntKind.u32 (atI (Array.extract ts (0 : Nat) (64 : Nat)) i)] ∧ CallKind.normal = CallKind.normal ∧ TodoOk (ren 3 [(3, 3), (4, 7)]) aZ_d0 aZ_d0 ∧ Fn.func (38 : Nat) = Fn.func (38 : Nat) ∧ Array.extract ts (64 : Nat) (144 : Nat) = Array.extract ts (64 : Nat) (144 : Nat) ∧ (1 : Nat) = (1 : Nat) ∧ ari BinOp.add IntKind.i64 i (1 : Int) = ari BinOp.add IntKind.i64 i (1 : Int) ∧ (3 : TypeId) = (3 : TypeId) ∧ x = x ∧ (35 : TypeId) = (35 : TypeId) ∧ ts = ts ∧ (30 : TypeId) = (30 : Nat) ∧ #[Value.int IntKind.u32 (atI (Array.extract ts (0 : Nat) (64 : Nat)) i)] = #[Value.int IntKind.u32 (atI (Array.extract ts (0 : Nat) (64 : Nat)) i)] ∧ True) ∧ ((IntKind.wrap IntKind.i64 (intAt (Array.extract (Array.extract ts (64 : Nat) (144 : Nat)) (Int.toNat i * 5) (Int.toNat i * 5 + 5)) (2 : Nat)) == x) = false → QZ (ari BinOp.add IntKind.i64 i (1 : Int)) ∧ CallKind.normal = CallKind.normal ∧ TodoOk (ren 3 [(3, 3)]) aZ_d0 aZ_d0 ∧ Fn.func (38 : Nat) = Fn.func (38 : Nat) ∧ Array.extract ts (64 : Nat) (144 : Nat) = Array.extract ts (64 : Nat) (144 : Nat) ∧ Value.slice none (0 : Nat) (0 : Nat) = Value.slice none (0 : Nat) (0 : Nat) ∧ ari BinOp.add IntKind.i64 i (1 : Int) = ari BinOp.add IntKind.i64 i (1 : Int) ∧ (3 : TypeId) = (3 : TypeId) ∧ x = x ∧ (35 : TypeId) = (35 : TypeId) ∧ ts = ts ∧ True)) ∧ ((atOk (Array.extract ts (0 : Nat) (64 : Nat)) i == true) = false → QZ (ari BinOp.add IntKind.i64 i (1 : Int)) ∧ CallKind.normal = CallKind.normal ∧ TodoOk (ren 3 [(3, 3)]) aZ_d0 aZ_d0 ∧ Fn.func (38 : Nat) = Fn.func (38 : Nat) ∧ Array.extract ts (64 : Nat) (144 : Nat) = Array.extract ts (64 : Nat) (144 : Nat) ∧ Value.slice none (0 : Nat) (0 : Nat) = Value.slice none (0 : Nat) (0 : Nat) ∧ ari BinOp.add IntKind.i64 i (1 : Int) = ari BinOp.add IntKind.i64 i (1 : Int) ∧ (3 : TypeId) = (3 : TypeId) ∧ x = x ∧ (35 : TypeId) = (35 : TypeId) ∧ ts = ts ∧ True)) ∧ (decide (i < (16 : Int)) = false → False)) := by kernel_rfl
theorem b3 (ts : Array Value) (x : Int) (i : Int) (k : Nat) (cs : Array Value) (kF : Nat) (csF : Array Value) (QS : Int → Nat → Array Value → Prop) : (stepT EH2.go (run EH2 1000) 3 (bS_F ts x i k cs) (bS_M ts x i k cs)).vc (freshR kF csF) (bS_n ts x QS) =
    ((decide (i < (16 : Int)) = true → (((0 : Int) ≤ i ∧ i < (16 : Int)) ∧ Int.toNat i * 5 + 5 ≤ Array.size (Array.extract ts (64 : Nat) (144 : Nat)) ∧ True) ∧ (Array.size (Array.extract (Array.extract ts (64 : Nat) (144 : Nat)) (Int.toNat i * 5) (Int.toNat i * 5 + 5)) = (5 : Nat) ∧ Array.size (Array.extract (Array.extract ts (64 : Nat) (144 : Nat)) (Int.toNat i * 5) (Int.toNat i * 5 + 5)) = (5 : Nat) ∧ True) ∧ ((64 : Nat) ≤ Array.size ts ∧ True) ∧ (BkOk (Array.extract ts (0 : Nat) (64 : Nat)) ∧ True) ∧ ((atOk (Array.extract ts (0 : Nat) (64 : Nat)) i == true) = true → (IsInt IntKind.u32 (Array.extract (Array.extract ts (64 : Nat) (144 : Nat)) (Int.toNat i * 5) (Int.toNat i * 5 + 5)) (0 : Nat) ∧ IsInt IntKind.u8 (Array.extract (Array.extract ts (64 : Nat) (144 : Nat)) (Int.toNat i * 5) (Int.toNat i * 5 + 5)) (1 : Nat) ∧ IsInt IntKind.u8 (Array.extract (Array.extract ts (64 : Nat) (144 : Nat)) (Int.toNat i * 5) (Int.toNat i * 5 + 5)) (2 : Nat) ∧ IsBool (Array.extract (Array.extract ts (64 : Nat) (144 : Nat)) (Int.toNat i * 5) (Int.toNat i * 5 + 5)) (3 : Nat) ∧ IsInt IntKind.u32 (Array.extract (Array.extract ts (64 : Nat) (144 : Nat)) (Int.toNat i * 5) (Int.toNat i * 5 + 5)) (4 : Nat) ∧ True) ∧ ((IntKind.wrap IntKind.i64 (intAt (Array.extract (Array.extract ts (64 : Nat) (144 : Nat)) (Int.toNat i * 5) (Int.toNat i * 5 + 5)) (2 : Nat)) == x) = true → (((k + 1) * 4 ≤ (140737488355328 : Nat) ∧ k + 1 ≤ (140737488355328 : Nat)) ∧ k * 1 = Array.size cs ∧ True) ∧ QS (ari BinOp.add IntKind.i64 i (1 : Int)) (k + 1) (cs ++ #[Value.int IntKind.u32 (atI (Array.extract ts (0 : Nat) (64 : Nat)) i)]) ∧ CallKind.normal = CallKind.normal ∧ TodoOk (ren 3 [(3, 3), (4, 8)]) aZ_d0 aZ_d0 ∧ Fn.func (38 : Nat) = Fn.func (38 : Nat) ∧ Array.extract ts (64 : Nat) (144 : Nat) = Array.extract ts (64 : Nat) (144 : Nat) ∧ k + 1 = k + 1 ∧ ari BinOp.add IntKind.i64 i (1 : Int) = ari BinOp.add IntKind.i64 i (1 : Int) ∧ (3 : TypeId) = (3 : TypeId) ∧ x = x ∧ (35 : TypeId) = (35 : TypeId) ∧ ts = ts ∧ (30 : TypeId) = (30 : Nat) ∧ cs ++ #[Value.int IntKind.u32 (atI (Array.extract ts (0 : Nat) (64 : Nat)) i)] = cs ++ #[Value.int IntKind.u32 (atI (Array.extract ts (0 : Nat) (64 : Nat)) i)] ∧ True) ∧ ((IntKind.wrap IntKind.i64 (intAt (Array.extract (Array.extract ts (64 : Nat) (144 : Nat)) (Int.toNat i * 5) (Int.toNat i * 5 + 5)) (2 : Nat)) == x) = false → QS (ari BinOp.add IntKind.i64 i (1 : Int)) k cs ∧ CallKind.normal = CallKind.normal ∧ TodoOk (ren 3 [(3, 3), (4, 4)]) aZ_d0 aZ_d0 ∧ Fn.func (38 : Nat) = Fn.func (38 : Nat) ∧ Array.extract ts (64 : Nat) (144 : Nat) = Array.extract ts (64 : Nat) (144 : Nat) ∧ k = k ∧ ari BinOp.add IntKind.i64 i (1 : Int) = ari BinOp.add IntKind.i64 i (1 : Int) ∧ (3 : TypeId) = (3 : TypeId) ∧ x = x ∧ (35 : TypeId) = (35 : TypeId) ∧ ts = ts ∧ (30 : TypeId) = (30 : TypeId) ∧ cs = cs ∧ True)) ∧ ((atOk (Array.extract ts (0 : Nat) (64 : Nat)) i == true) = false → QS (ari BinOp.add IntKind.i64 i (1 : Int)) k cs ∧ CallKind.normal = CallKind.normal ∧ TodoOk (ren 3 [(3, 3), (4, 4)]) aZ_d0 aZ_d0 ∧ Fn.func (38 : Nat) = Fn.func (38 : Nat) ∧ Array.extract ts (64 : Nat) (144 : Nat) = Array.extract ts (64 : Nat) (144 : Nat) ∧ k = k ∧ ari BinOp.add IntKind.i64 i (1 : Int) = ari BinOp.add IntKind.i64 i (1 : Int) ∧ (3 : TypeId) = (3 : TypeId) ∧ x = x ∧ (35 : TypeId) = (35 : TypeId) ∧ ts = ts ∧ (30 : TypeId) = (30 : TypeId) ∧ cs = cs ∧ True)) ∧ (decide (i < (16 : Int)) = false → true = true ∧ k = kF ∧ cs = csF ∧ (30 : TypeId) = (30 : TypeId))) := by kernel_rfl
theorem c1 (ts : Array Value) (x : Int) (i : Int) (QZ : Int → Prop) (QS : Int → Nat → Array Value → Prop) : (stepT EH2.go (run EH2 1000) 3 (cZ_F ts x i) (cZ_M ts x i)).vc (nilR) (cZS ts x QZ QS) =
    ((decide (i < (16 : Int)) = true → (((0 : Int) ≤ i ∧ i < (16 : Int)) ∧ Int.toNat i * 5 + 5 ≤ Array.size (Array.extract ts (64 : Nat) (144 : Nat)) ∧ True) ∧ (Array.size (Array.extract (Array.extract ts (64 : Nat) (144 : Nat)) (Int.toNat i * 5) (Int.toNat i * 5 + 5)) = (5 : Nat) ∧ Array.size (Array.extract (Array.extract ts (64 : Nat) (144 : Nat)) (Int.toNat i * 5) (Int.toNat i * 5 + 5)) = (5 : Nat) ∧ True) ∧ ((64 : Nat) ≤ Array.size ts ∧ True) ∧ (BkOk (Array.extract ts (0 : Nat) (64 : Nat)) ∧ True) ∧ ((atOk (Array.extract ts (0 : Nat) (64 : Nat)) i == true) = true → (IsInt IntKind.u32 (Array.extract (Array.extract ts (64 : Nat) (144 : Nat)) (Int.toNat i * 5) (Int.toNat i * 5 + 5)) (0 : Nat) ∧ IsInt IntKind.u8 (Array.extract (Array.extract ts (64 : Nat) (144 : Nat)) (Int.toNat i * 5) (Int.toNat i * 5 + 5)) (1 : Nat) ∧ IsInt IntKind.u8 (Array.extract (Array.extract ts (64 : Nat) (144 : Nat)) (Int.toNat i * 5) (Int.toNat i * 5 + 5)) (2 : Nat) ∧ IsBool (Array.extract (Array.extract ts (64 : Nat) (144 : Nat)) (Int.toNat i * 5) (Int.toNat i * 5 + 5)) (3 : Nat) ∧ IsInt IntKind.u32 (Array.extract (Array.extract ts (64 : Nat) (144 : Nat)) (Int.toNat i * 5) (Int.toNat i * 5 + 5)) (4 : Nat) ∧ True) ∧ ((intAt (Array.extract (Array.extract ts (64 : Nat) (144 : Nat)) (Int.toNat i * 5) (Int.toNat i * 5 + 5)) (4 : Nat) == x) = true → QS (ari BinOp.add IntKind.i64 i (1 : Int)) (1 : Nat) #[Value.int IntKind.u32 (atI (Array.extract ts (0 : Nat) (64 : Nat)) i)] ∧ CallKind.normal = CallKind.normal ∧ TodoOk (ren 3 [(3, 3), (4, 7)]) aZ_d0 aZ_d0 ∧ Fn.func (28 : Nat) = Fn.func (28 : Nat) ∧ Array.extract ts (64 : Nat) (144 : Nat) = Array.extract ts (64 : Nat) (144 : Nat) ∧ (1 : Nat) = (1 : Nat) ∧ ari BinOp.add IntKind.i64 i (1 : Int) = ari BinOp.add IntKind.i64 i (1 : Int) ∧ (30 : TypeId) = (30 : TypeId) ∧ x = x ∧ (35 : TypeId) = (35 : TypeId) ∧ ts = ts ∧ (30 : TypeId) = (30 : Nat) ∧ #[Value.int IntKind.u32 (atI (Array.extract ts (0 : Nat) (64 : Nat)) i)] = #[Value.int IntKind.u32 (atI (Array.extract ts (0 : Nat) (64 : Nat)) i)] ∧ True) ∧ ((intAt (Array.extract (Array.extract ts (64 : Nat) (144 : Nat)) (Int.toNat i * 5) (Int.toNat i * 5 + 5)) (4 : Nat) == x) = false → QZ (ari BinOp.add IntKind.i64 i (1 : Int)) ∧ CallKind.normal = CallKind.normal ∧ TodoOk (ren 3 [(3, 3)]) aZ_d0 aZ_d0 ∧ Fn.func (28 : Nat) = Fn.func (28 : Nat) ∧ Array.extract ts (64 : Nat) (144 : Nat) = Array.extract ts (64 : Nat) (144 : Nat) ∧ Value.slice none (0 : Nat) (0 : Nat) = Value.slice none (0 : Nat) (0 : Nat) ∧ ari BinOp.add IntKind.i64 i (1 : Int) = ari BinOp.add IntKind.i64 i (1 : Int) ∧ (30 : TypeId) = (30 : TypeId) ∧ x = x ∧ (35 : TypeId) = (35 : TypeId) ∧ ts = ts ∧ True)) ∧ ((atOk (Array.extract ts (0 : Nat) (64 : Nat)) i == true) = false → QZ (ari BinOp.add IntKind.i64 i (1 : Int)) ∧ CallKind.normal = CallKind.normal ∧ TodoOk (ren 3 [(3, 3)]) aZ_d0 aZ_d0 ∧ Fn.func (28 : Nat) = Fn.func (28 : Nat) ∧ Array.extract ts (64 : Nat) (144 : Nat) = Array.extract ts (64 : Nat) (144 : Nat) ∧ Value.slice none (0 : Nat) (0 : Nat) = Value.slice none (0 : Nat) (0 : Nat) ∧ ari BinOp.add IntKind.i64 i (1 : Int) = ari BinOp.add IntKind.i64 i (1 : Int) ∧ (30 : TypeId) = (30 : TypeId) ∧ x = x ∧ (35 : TypeId) = (35 : TypeId) ∧ ts = ts ∧ True)) ∧ (decide (i < (16 : Int)) = false → True)) := by kernel_rfl
theorem c2 (ts : Array Value) (x : Int) (i : Int) (kF : Nat) (csF : Array Value) (QZ : Int → Prop) (QS : Int → Nat → Array Value → Prop) : (stepT EH2.go (run EH2 1000) 3 (cZ_F ts x i) (cZ_M ts x i)).vc (freshR kF csF) (cZS ts x QZ QS) =
    ((decide (i < (16 : Int)) = true → (((0 : Int) ≤ i ∧ i < (16 : Int)) ∧ Int.toNat i * 5 + 5 ≤ Array.size (Array.extract ts (64 : Nat) (144 : Nat)) ∧ True) ∧ (Array.size (Array.extract (Array.extract ts (64 : Nat) (144 : Nat)) (Int.toNat i * 5) (Int.toNat i * 5 + 5)) = (5 : Nat) ∧ Array.size (Array.extract (Array.extract ts (64 : Nat) (144 : Nat)) (Int.toNat i * 5) (Int.toNat i * 5 + 5)) = (5 : Nat) ∧ True) ∧ ((64 : Nat) ≤ Array.size ts ∧ True) ∧ (BkOk (Array.extract ts (0 : Nat) (64 : Nat)) ∧ True) ∧ ((atOk (Array.extract ts (0 : Nat) (64 : Nat)) i == true) = true → (IsInt IntKind.u32 (Array.extract (Array.extract ts (64 : Nat) (144 : Nat)) (Int.toNat i * 5) (Int.toNat i * 5 + 5)) (0 : Nat) ∧ IsInt IntKind.u8 (Array.extract (Array.extract ts (64 : Nat) (144 : Nat)) (Int.toNat i * 5) (Int.toNat i * 5 + 5)) (1 : Nat) ∧ IsInt IntKind.u8 (Array.extract (Array.extract ts (64 : Nat) (144 : Nat)) (Int.toNat i * 5) (Int.toNat i * 5 + 5)) (2 : Nat) ∧ IsBool (Array.extract (Array.extract ts (64 : Nat) (144 : Nat)) (Int.toNat i * 5) (Int.toNat i * 5 + 5)) (3 : Nat) ∧ IsInt IntKind.u32 (Array.extract (Array.extract ts (64 : Nat) (144 : Nat)) (Int.toNat i * 5) (Int.toNat i * 5 + 5)) (4 : Nat) ∧ True) ∧ ((intAt (Array.extract (Array.extract ts (64 : Nat) (144 : Nat)) (Int.toNat i * 5) (Int.toNat i * 5 + 5)) (4 : Nat) == x) = true → QS (ari BinOp.add IntKind.i64 i (1 : Int)) (1 : Nat) #[Value.int IntKind.u32 (atI (Array.extract ts (0 : Nat) (64 : Nat)) i)] ∧ CallKind.normal = CallKind.normal ∧ TodoOk (ren 3 [(3, 3), (4, 7)]) aZ_d0 aZ_d0 ∧ Fn.func (28 : Nat) = Fn.func (28 : Nat) ∧ Array.extract ts (64 : Nat) (144 : Nat) = Array.extract ts (64 : Nat) (144 : Nat) ∧ (1 : Nat) = (1 : Nat) ∧ ari BinOp.add IntKind.i64 i (1 : Int) = ari BinOp.add IntKind.i64 i (1 : Int) ∧ (30 : TypeId) = (30 : TypeId) ∧ x = x ∧ (35 : TypeId) = (35 : TypeId) ∧ ts = ts ∧ (30 : TypeId) = (30 : Nat) ∧ #[Value.int IntKind.u32 (atI (Array.extract ts (0 : Nat) (64 : Nat)) i)] = #[Value.int IntKind.u32 (atI (Array.extract ts (0 : Nat) (64 : Nat)) i)] ∧ True) ∧ ((intAt (Array.extract (Array.extract ts (64 : Nat) (144 : Nat)) (Int.toNat i * 5) (Int.toNat i * 5 + 5)) (4 : Nat) == x) = false → QZ (ari BinOp.add IntKind.i64 i (1 : Int)) ∧ CallKind.normal = CallKind.normal ∧ TodoOk (ren 3 [(3, 3)]) aZ_d0 aZ_d0 ∧ Fn.func (28 : Nat) = Fn.func (28 : Nat) ∧ Array.extract ts (64 : Nat) (144 : Nat) = Array.extract ts (64 : Nat) (144 : Nat) ∧ Value.slice none (0 : Nat) (0 : Nat) = Value.slice none (0 : Nat) (0 : Nat) ∧ ari BinOp.add IntKind.i64 i (1 : Int) = ari BinOp.add IntKind.i64 i (1 : Int) ∧ (30 : TypeId) = (30 : TypeId) ∧ x = x ∧ (35 : TypeId) = (35 : TypeId) ∧ ts = ts ∧ True)) ∧ ((atOk (Array.extract ts (0 : Nat) (64 : Nat)) i == true) = false → QZ (ari BinOp.add IntKind.i64 i (1 : Int)) ∧ CallKind.normal = CallKind.normal ∧ TodoOk (ren 3 [(3, 3)]) aZ_d0 aZ_d0 ∧ Fn.func (28 : Nat) = Fn.func (28 : Nat) ∧ Array.extract ts (64 : Nat) (144 : Nat) = Array.extract ts (64 : Nat) (144 : Nat) ∧ Value.slice none (0 : Nat) (0 : Nat) = Value.slice none (0 : Nat) (0 : Nat) ∧ ari BinOp.add IntKind.i64 i (1 : Int) = ari BinOp.add IntKind.i64 i (1 : Int) ∧ (30 : TypeId) = (30 : TypeId) ∧ x = x ∧ (35 : TypeId) = (35 : TypeId) ∧ ts = ts ∧ True)) ∧ (decide (i < (16 : Int)) = false → False)) := by kernel_rfl
theorem c3 (ts : Array Value) (x : Int) (i : Int) (k : Nat) (cs : Array Value) (kF : Nat) (csF : Array Value) (QS : Int → Nat → Array Value → Prop) : (stepT EH2.go (run EH2 1000) 3 (cS_F ts x i k cs) (cS_M ts x i k cs)).vc (freshR kF csF) (cS_n ts x QS) =
    ((decide (i < (16 : Int)) = true → (((0 : Int) ≤ i ∧ i < (16 : Int)) ∧ Int.toNat i * 5 + 5 ≤ Array.size (Array.extract ts (64 : Nat) (144 : Nat)) ∧ True) ∧ (Array.size (Array.extract (Array.extract ts (64 : Nat) (144 : Nat)) (Int.toNat i * 5) (Int.toNat i * 5 + 5)) = (5 : Nat) ∧ Array.size (Array.extract (Array.extract ts (64 : Nat) (144 : Nat)) (Int.toNat i * 5) (Int.toNat i * 5 + 5)) = (5 : Nat) ∧ True) ∧ ((64 : Nat) ≤ Array.size ts ∧ True) ∧ (BkOk (Array.extract ts (0 : Nat) (64 : Nat)) ∧ True) ∧ ((atOk (Array.extract ts (0 : Nat) (64 : Nat)) i == true) = true → (IsInt IntKind.u32 (Array.extract (Array.extract ts (64 : Nat) (144 : Nat)) (Int.toNat i * 5) (Int.toNat i * 5 + 5)) (0 : Nat) ∧ IsInt IntKind.u8 (Array.extract (Array.extract ts (64 : Nat) (144 : Nat)) (Int.toNat i * 5) (Int.toNat i * 5 + 5)) (1 : Nat) ∧ IsInt IntKind.u8 (Array.extract (Array.extract ts (64 : Nat) (144 : Nat)) (Int.toNat i * 5) (Int.toNat i * 5 + 5)) (2 : Nat) ∧ IsBool (Array.extract (Array.extract ts (64 : Nat) (144 : Nat)) (Int.toNat i * 5) (Int.toNat i * 5 + 5)) (3 : Nat) ∧ IsInt IntKind.u32 (Array.extract (Array.extract ts (64 : Nat) (144 : Nat)) (Int.toNat i * 5) (Int.toNat i * 5 + 5)) (4 : Nat) ∧ True) ∧ ((intAt (Array.extract (Array.extract ts (64 : Nat) (144 : Nat)) (Int.toNat i * 5) (Int.toNat i * 5 + 5)) (4 : Nat) == x) = true → (((k + 1) * 4 ≤ (140737488355328 : Nat) ∧ k + 1 ≤ (140737488355328 : Nat)) ∧ k * 1 = Array.size cs ∧ True) ∧ QS (ari BinOp.add IntKind.i64 i (1 : Int)) (k + 1) (cs ++ #[Value.int IntKind.u32 (atI (Array.extract ts (0 : Nat) (64 : Nat)) i)]) ∧ CallKind.normal = CallKind.normal ∧ TodoOk (ren 3 [(3, 3), (4, 8)]) aZ_d0 aZ_d0 ∧ Fn.func (28 : Nat) = Fn.func (28 : Nat) ∧ Array.extract ts (64 : Nat) (144 : Nat) = Array.extract ts (64 : Nat) (144 : Nat) ∧ k + 1 = k + 1 ∧ ari BinOp.add IntKind.i64 i (1 : Int) = ari BinOp.add IntKind.i64 i (1 : Int) ∧ (30 : TypeId) = (30 : TypeId) ∧ x = x ∧ (35 : TypeId) = (35 : TypeId) ∧ ts = ts ∧ (30 : TypeId) = (30 : Nat) ∧ cs ++ #[Value.int IntKind.u32 (atI (Array.extract ts (0 : Nat) (64 : Nat)) i)] = cs ++ #[Value.int IntKind.u32 (atI (Array.extract ts (0 : Nat) (64 : Nat)) i)] ∧ True) ∧ ((intAt (Array.extract (Array.extract ts (64 : Nat) (144 : Nat)) (Int.toNat i * 5) (Int.toNat i * 5 + 5)) (4 : Nat) == x) = false → QS (ari BinOp.add IntKind.i64 i (1 : Int)) k cs ∧ CallKind.normal = CallKind.normal ∧ TodoOk (ren 3 [(3, 3), (4, 4)]) aZ_d0 aZ_d0 ∧ Fn.func (28 : Nat) = Fn.func (28 : Nat) ∧ Array.extract ts (64 : Nat) (144 : Nat) = Array.extract ts (64 : Nat) (144 : Nat) ∧ k = k ∧ ari BinOp.add IntKind.i64 i (1 : Int) = ari BinOp.add IntKind.i64 i (1 : Int) ∧ (30 : TypeId) = (30 : TypeId) ∧ x = x ∧ (35 : TypeId) = (35 : TypeId) ∧ ts = ts ∧ (30 : TypeId) = (30 : TypeId) ∧ cs = cs ∧ True)) ∧ ((atOk (Array.extract ts (0 : Nat) (64 : Nat)) i == true) = false → QS (ari BinOp.add IntKind.i64 i (1 : Int)) k cs ∧ CallKind.normal = CallKind.normal ∧ TodoOk (ren 3 [(3, 3), (4, 4)]) aZ_d0 aZ_d0 ∧ Fn.func (28 : Nat) = Fn.func (28 : Nat) ∧ Array.extract ts (64 : Nat) (144 : Nat) = Array.extract ts (64 : Nat) (144 : Nat) ∧ k = k ∧ ari BinOp.add IntKind.i64 i (1 : Int) = ari BinOp.add IntKind.i64 i (1 : Int) ∧ (30 : TypeId) = (30 : TypeId) ∧ x = x ∧ (35 : TypeId) = (35 : TypeId) ∧ ts = ts ∧ (30 : TypeId) = (30 : TypeId) ∧ cs = cs ∧ True)) ∧ (decide (i < (16 : Int)) = false → true = true ∧ k = kF ∧ cs = csF ∧ (30 : TypeId) = (30 : TypeId))) := by kernel_rfl
theorem d1 (ts : Array Value) (x : Int) (y : Int) (z : Bool) (i : Int) (QZ : Int → Prop) (QS : Int → Nat → Array Value → Prop) : (stepT EH2.go (run EH2 1000) 3 (dZ_F ts x y z i) (dZ_M ts x y z i)).vc (nilR) (dZS ts x y z QZ QS) =
    ((decide (i < (16 : Int)) = true → (((0 : Int) ≤ i ∧ i < (16 : Int)) ∧ Int.toNat i * 5 + 5 ≤ Array.size (Array.extract ts (64 : Nat) (144 : Nat)) ∧ True) ∧ (Array.size (Array.extract (Array.extract ts (64 : Nat) (144 : Nat)) (Int.toNat i * 5) (Int.toNat i * 5 + 5)) = (5 : Nat) ∧ Array.size (Array.extract (Array.extract ts (64 : Nat) (144 : Nat)) (Int.toNat i * 5) (Int.toNat i * 5 + 5)) = (5 : Nat) ∧ True) ∧ ((64 : Nat) ≤ Array.size ts ∧ True) ∧ (BkOk (Array.extract ts (0 : Nat) (64 : Nat)) ∧ True) ∧ ((atOk (Array.extract ts (0 : Nat) (64 : Nat)) i == true) = true → (IsInt IntKind.u32 (Array.extract (Array.extract ts (64 : Nat) (144 : Nat)) (Int.toNat i * 5) (Int.toNat i * 5 + 5)) (0 : Nat) ∧ IsInt IntKind.u8 (Array.extract (Array.extract ts (64 : Nat) (144 : Nat)) (Int.toNat i * 5) (Int.toNat i * 5 + 5)) (1 : Nat) ∧ IsInt IntKind.u8 (Array.extract (Array.extract ts (64 : Nat) (144 : Nat)) (Int.toNat i * 5) (Int.toNat i * 5 + 5)) (2 : Nat) ∧ IsBool (Array.extract (Array.extract ts (64 : Nat) (144 : Nat)) (Int.toNat i * 5) (Int.toNat i * 5 + 5)) (3 : Nat) ∧ IsInt IntKind.u32 (Array.extract (Array.extract ts (64 : Nat) (144 : Nat)) (Int.toNat i * 5) (Int.toNat i * 5 + 5)) (4 : Nat) ∧ True) ∧ (((intAt (Array.extract (Array.extract ts (64 : Nat) (144 : Nat)) (Int.toNat i * 5) (Int.toNat i * 5 + 5)) (0 : Nat) == x) == true) = true → (((intAt (Array.extract (Array.extract ts (64 : Nat) (144 : Nat)) (Int.toNat i * 5) (Int.toNat i * 5 + 5)) (4 : Nat) == y) == true) = true → ((boolAt (Array.extract (Array.extract ts (64 : Nat) (144 : Nat)) (Int.toNat i * 5) (Int.toNat i * 5 + 5)) (3 : Nat) == false) = true → ((!z) = true → QS (ari BinOp.add IntKind.i64 i (1 : Int)) (1 : Nat) #[Value.int IntKind.u32 (atI (Array.extract ts (0 : Nat) (64 : Nat)) i)] ∧ CallKind.normal = CallKind.normal ∧ TodoOk (ren 3 [(3, 3), (4, 7)]) aZ_d0 aZ_d0 ∧ Fn.func (46 : Nat) = Fn.func (46 : Nat) ∧ Array.extract ts (64 : Nat) (144 : Nat) = Array.extract ts (64 : Nat) (144 : Nat) ∧ (1 : Nat) = (1 : Nat) ∧ ari BinOp.add IntKind.i64 i (1 : Int) = ari BinOp.add IntKind.i64 i (1 : Int) ∧ (30 : TypeId) = (30 : TypeId) ∧ x = x ∧ (30 : TypeId) = (30 : TypeId) ∧ y = y ∧ (35 : TypeId) = (35 : TypeId) ∧ ts = ts ∧ (4 : TypeId) = (4 : TypeId) ∧ z = z ∧ (30 : TypeId) = (30 : Nat) ∧ #[Value.int IntKind.u32 (atI (Array.extract ts (0 : Nat) (64 : Nat)) i)] = #[Value.int IntKind.u32 (atI (Array.extract ts (0 : Nat) (64 : Nat)) i)] ∧ True) ∧ ((!z) = false → QZ (ari BinOp.add IntKind.i64 i (1 : Int)) ∧ CallKind.normal = CallKind.normal ∧ TodoOk (ren 3 [(3, 3)]) aZ_d0 aZ_d0 ∧ Fn.func (46 : Nat) = Fn.func (46 : Nat) ∧ Array.extract ts (64 : Nat) (144 : Nat) = Array.extract ts (64 : Nat) (144 : Nat) ∧ Value.slice none (0 : Nat) (0 : Nat) = Value.slice none (0 : Nat) (0 : Nat) ∧ ari BinOp.add IntKind.i64 i (1 : Int) = ari BinOp.add IntKind.i64 i (1 : Int) ∧ (30 : TypeId) = (30 : TypeId) ∧ x = x ∧ (30 : TypeId) = (30 : TypeId) ∧ y = y ∧ (35 : TypeId) = (35 : TypeId) ∧ ts = ts ∧ (4 : TypeId) = (4 : TypeId) ∧ z = z ∧ True)) ∧ ((boolAt (Array.extract (Array.extract ts (64 : Nat) (144 : Nat)) (Int.toNat i * 5) (Int.toNat i * 5 + 5)) (3 : Nat) == false) = false → QS (ari BinOp.add IntKind.i64 i (1 : Int)) (1 : Nat) #[Value.int IntKind.u32 (atI (Array.extract ts (0 : Nat) (64 : Nat)) i)] ∧ CallKind.normal = CallKind.normal ∧ TodoOk (ren 3 [(3, 3), (4, 7)]) aZ_d0 aZ_d0 ∧ Fn.func (46 : Nat) = Fn.func (46 : Nat) ∧ Array.extract ts (64 : Nat) (144 : Nat) = Array.extract ts (64 : Nat) (144 : Nat) ∧ (1 : Nat) = (1 : Nat) ∧ ari BinOp.add IntKind.i64 i (1 : Int) = ari BinOp.add IntKind.i64 i (1 : Int) ∧ (30 : TypeId) = (30 : TypeId) ∧ x = x ∧ (30 : TypeId) = (30 : TypeId) ∧ y = y ∧ (35 : TypeId) = (35 : TypeId) ∧ ts = ts ∧ (4 : TypeId) = (4 : TypeId) ∧ z = z ∧ (30 : TypeId) = (30 : Nat) ∧ #[Value.int IntKind.u32 (atI (Array.extract ts (0 : Nat) (64 : Nat)) i)] = #[Value.int IntKind.u32 (atI (Array.extract ts (0 : Nat) (64 : Nat)) i)] ∧ True)) ∧ (((intAt (Array.extract (Array.extract ts (64 : Nat) (144 : Nat)) (Int.toNat i * 5) (Int.toNat i * 5 + 5)) (4 : Nat) == y) == true) = false → QZ (ari BinOp.add IntKind.i64 i (1 : Int)) ∧ CallKind.normal = CallKind.normal ∧ TodoOk (ren 3 [(3, 3)]) aZ_d0 aZ_d0 ∧ Fn.func (46 : Nat) = Fn.func (46 : Nat) ∧ Array.extract ts (64 : Nat) (144 : Nat) = Array.extract ts (64 : Nat) (144 : Nat) ∧ Value.slice none (0 : Nat) (0 : Nat) = Value.slice none (0 : Nat) (0 : Nat) ∧ ari BinOp.add IntKind.i64 i (1 : Int) = ari BinOp.add IntKind.i64 i (1 : Int) ∧ (30 : TypeId) = (30 : TypeId) ∧ x = x ∧ (30 : TypeId) = (30 : TypeId) ∧ y = y ∧ (35 : TypeId) = (35 : TypeId) ∧ ts = ts ∧ (4 : TypeId) = (4 : TypeId) ∧ z = z ∧ True)) ∧ (((intAt (Array.extract (Array.extract ts (64 : Nat) (144 : Nat)) (Int.toNat i * 5) (Int.toNat i * 5 + 5)) (0 : Nat) == x) == true) = false → QZ (ari BinOp.add IntKind.i64 i (1 : Int)) ∧ CallKind.normal = CallKind.normal ∧ TodoOk (ren 3 [(3, 3)]) aZ_d0 aZ_d0 ∧ Fn.func (46 : Nat) = Fn.func (46 : Nat) ∧ Array.extract ts (64 : Nat) (144 : Nat) = Array.extract ts (64 : Nat) (144 : Nat) ∧ Value.slice none (0 : Nat) (0 : Nat) = Value.slice none (0 : Nat) (0 : Nat) ∧ ari BinOp.add IntKind.i64 i (1 : Int) = ari BinOp.add IntKind.i64 i (1 : Int) ∧ (30 : TypeId) = (30 : TypeId) ∧ x = x ∧ (30 : TypeId) = (30 : TypeId) ∧ y = y ∧ (35 : TypeId) = (35 : TypeId) ∧ ts = ts ∧ (4 : TypeId) = (4 : TypeId) ∧ z = z ∧ True)) ∧ ((atOk (Array.extract ts (0 : Nat) (64 : Nat)) i == true) = false → QZ (ari BinOp.add IntKind.i64 i (1 : Int)) ∧ CallKind.normal = CallKind.normal ∧ TodoOk (ren 3 [(3, 3)]) aZ_d0 aZ_d0 ∧ Fn.func (46 : Nat) = Fn.func (46 : Nat) ∧ Array.extract ts (64 : Nat) (144 : Nat) = Array.extract ts (64 : Nat) (144 : Nat) ∧ Value.slice none (0 : Nat) (0 : Nat) = Value.slice none (0 : Nat) (0 : Nat) ∧ ari BinOp.add IntKind.i64 i (1 : Int) = ari BinOp.add IntKind.i64 i (1 : Int) ∧ (30 : TypeId) = (30 : TypeId) ∧ x = x ∧ (30 : TypeId) = (30 : TypeId) ∧ y = y ∧ (35 : TypeId) = (35 : TypeId) ∧ ts = ts ∧ (4 : TypeId) = (4 : TypeId) ∧ z = z ∧ True)) ∧ (decide (i < (16 : Int)) = false → True)) := by kernel_rfl
theorem d2 (ts : Array Value) (x : Int) (y : Int) (z : Bool) (i : Int) (kF : Nat) (csF : Array Value) (QZ : Int → Prop) (QS : Int → Nat → Array Value → Prop) : (stepT EH2.go (run EH2 1000) 3 (dZ_F ts x y z i) (dZ_M ts x y z i)).vc (freshR kF csF) (dZS ts x y z QZ QS) =
    ((decide (i < (16 : Int)) = true → (((0 : Int) ≤ i ∧ i < (16 : Int)) ∧ Int.toNat i * 5 + 5 ≤ Array.size (Array.extract ts (64 : Nat) (144 : Nat)) ∧ True) ∧ (Array.size (Array.extract (Array.extract ts (64 : Nat) (144 : Nat)) (Int.toNat i * 5) (Int.toNat i * 5 + 5)) = (5 : Nat) ∧ Array.size (Array.extract (Array.extract ts (64 : Nat) (144 : Nat)) (Int.toNat i * 5) (Int.toNat i * 5 + 5)) = (5 : Nat) ∧ True) ∧ ((64 : Nat) ≤ Array.size ts ∧ True) ∧ (BkOk (Array.extract ts (0 : Nat) (64 : Nat)) ∧ True) ∧ ((atOk (Array.extract ts (0 : Nat) (64 : Nat)) i == true) = true → (IsInt IntKind.u32 (Array.extract (Array.extract ts (64 : Nat) (144 : Nat)) (Int.toNat i * 5) (Int.toNat i * 5 + 5)) (0 : Nat) ∧ IsInt IntKind.u8 (Array.extract (Array.extract ts (64 : Nat) (144 : Nat)) (Int.toNat i * 5) (Int.toNat i * 5 + 5)) (1 : Nat) ∧ IsInt IntKind.u8 (Array.extract (Array.extract ts (64 : Nat) (144 : Nat)) (Int.toNat i * 5) (Int.toNat i * 5 + 5)) (2 : Nat) ∧ IsBool (Array.extract (Array.extract ts (64 : Nat) (144 : Nat)) (Int.toNat i * 5) (Int.toNat i * 5 + 5)) (3 : Nat) ∧ IsInt IntKind.u32 (Array.extract (Array.extract ts (64 : Nat) (144 : Nat)) (Int.toNat i * 5) (Int.toNat i * 5 + 5)) (4 : Nat) ∧ True) ∧ (((intAt (Array.extract (Array.extract ts (64 : Nat) (144 : Nat)) (Int.toNat i * 5) (Int.toNat i * 5 + 5)) (0 : Nat) == x) == true) = true → (((intAt (Array.extract (Array.extract ts (64 : Nat) (144 : Nat)) (Int.toNat i * 5) (Int.toNat i * 5 + 5)) (4 : Nat) == y) == true) = true → ((boolAt (Array.extract (Array.extract ts (64 : Nat) (144 : Nat)) (Int.toNat i * 5) (Int.toNat i * 5 + 5)) (3 : Nat) == false) = true → ((!z) = true → QS (ari BinOp.add IntKind.i64 i (1 : Int)) (1 : Nat) #[Value.int IntKind.u32 (atI (Array.extract ts (0 : Nat) (64 : Nat)) i)] ∧ CallKind.normal = CallKind.normal ∧ TodoOk (ren 3 [(3, 3), (4, 7)]) aZ_d0 aZ_d0 ∧ Fn.func (46 : Nat) = Fn.func (46 : Nat) ∧ Array.extract ts (64 : Nat) (144 : Nat) = Array.extract ts (64 : Nat) (144 : Nat) ∧ (1 : Nat) = (1 : Nat) ∧ ari BinOp.add IntKind.i64 i (1 : Int) = ari BinOp.add IntKind.i64 i (1 : Int) ∧ (30 : TypeId) = (30 : TypeId) ∧ x = x ∧ (30 : TypeId) = (30 : TypeId) ∧ y = y ∧ (35 : TypeId) = (35 : TypeId) ∧ ts = ts ∧ (4 : TypeId) = (4 : TypeId) ∧ z = z ∧ (30 : TypeId) = (30 : Nat) ∧ #[Value.int IntKind.u32 (atI (Array.extract ts (0 : Nat) (64 : Nat)) i)] = #[Value.int IntKind.u32 (atI (Array.extract ts (0 : Nat) (64 : Nat)) i)] ∧ True) ∧ ((!z) = false → QZ (ari BinOp.add IntKind.i64 i (1 : Int)) ∧ CallKind.normal = CallKind.normal ∧ TodoOk (ren 3 [(3, 3)]) aZ_d0 aZ_d0 ∧ Fn.func (46 : Nat) = Fn.func (46 : Nat) ∧ Array.extract ts (64 : Nat) (144 : Nat) = Array.extract ts (64 : Nat) (144 : Nat) ∧ Value.slice none (0 : Nat) (0 : Nat) = Value.slice none (0 : Nat) (0 : Nat) ∧ ari BinOp.add IntKind.i64 i (1 : Int) = ari BinOp.add IntKind.i64 i (1 : Int) ∧ (30 : TypeId) = (30 : TypeId) ∧ x = x ∧ (30 : TypeId) = (30 : TypeId) ∧ y = y ∧ (35 : TypeId) = (35 : TypeId) ∧ ts = ts ∧ (4 : TypeId) = (4 : TypeId) ∧ z = z ∧ True)) ∧ ((boolAt (Array.extract (Array.extract ts (64 : Nat) (144 : Nat)) (Int.toNat i * 5) (Int.toNat i * 5 + 5)) (3 : Nat) == false) = false → QS (ari BinOp.add IntKind.i64 i (1 : Int)) (1 : Nat) #[Value.int IntKind.u32 (atI (Array.extract ts (0 : Nat) (64 : Nat)) i)] ∧ CallKind.normal = CallKind.normal ∧ TodoOk (ren 3 [(3, 3), (4, 7)]) aZ_d0 aZ_d0 ∧ Fn.func (46 : Nat) = Fn.func (46 : Nat) ∧ Array.extract ts (64 : Nat) (144 : Nat) = Array.extract ts (64 : Nat) (144 : Nat) ∧ (1 : Nat) = (1 : Nat) ∧ ari BinOp.add IntKind.i64 i (1 : Int) = ari BinOp.add IntKind.i64 i (1 : Int) ∧ (30 : TypeId) = (30 : TypeId) ∧ x = x ∧ (30 : TypeId) = (30 : TypeId) ∧ y = y ∧ (35 : TypeId) = (35 : TypeId) ∧ ts = ts ∧ (4 : TypeId) = (4 : TypeId) ∧ z = z ∧ (30 : TypeId) = (30 : Nat) ∧ #[Value.int IntKind.u32 (atI (Array.extract ts (0 : Nat) (64 : Nat)) i)] = #[Value.int IntKind.u32 (atI (Array.extract ts (0 : Nat) (64 : Nat)) i)] ∧ True)) ∧ (((intAt (Array.extract (Array.extract ts (64 : Nat) (144 : Nat)) (Int.toNat i * 5) (Int.toNat i * 5 + 5)) (4 : Nat) == y) == true) = false → QZ (ari BinOp.add IntKind.i64 i (1 : Int)) ∧ CallKind.normal = CallKind.normal ∧ TodoOk (ren 3 [(3, 3)]) aZ_d0 aZ_d0 ∧ Fn.func (46 : Nat) = Fn.func (46 : Nat) ∧ Array.extract ts (64 : Nat) (144 : Nat) = Array.extract ts (64 : Nat) (144 : Nat) ∧ Value.slice none (0 : Nat) (0 : Nat) = Value.slice none (0 : Nat) (0 : Nat) ∧ ari BinOp.add IntKind.i64 i (1 : Int) = ari BinOp.add IntKind.i64 i (1 : Int) ∧ (30 : TypeId) = (30 : TypeId) ∧ x = x ∧ (30 : TypeId) = (30 : TypeId) ∧ y = y ∧ (35 : TypeId) = (35 : TypeId) ∧ ts = ts ∧ (4 : TypeId) = (4 : TypeId) ∧ z = z ∧ True)) ∧ (((intAt (Array.extract (Array.extract ts (64 : Nat) (144 : Nat)) (Int.toNat i * 5) (Int.toNat i * 5 + 5)) (0 : Nat) == x) == true) = false → QZ (ari BinOp.add IntKind.i64 i (1 : Int)) ∧ CallKind.normal = CallKind.normal ∧ TodoOk (ren 3 [(3, 3)]) aZ_d0 aZ_d0 ∧ Fn.func (46 : Nat) = Fn.func (46 : Nat) ∧ Array.extract ts (64 : Nat) (144 : Nat) = Array.extract ts (64 : Nat) (144 : Nat) ∧ Value.slice none (0 : Nat) (0 : Nat) = Value.slice none (0 : Nat) (0 : Nat) ∧ ari BinOp.add IntKind.i64 i (1 : Int) = ari BinOp.add IntKind.i64 i (1 : Int) ∧ (30 : TypeId) = (30 : TypeId) ∧ x = x ∧ (30 : TypeId) = (30 : TypeId) ∧ y = y ∧ (35 : TypeId) = (35 : TypeId) ∧ ts = ts ∧ (4 : TypeId) = (4 : TypeId) ∧ z = z ∧ True)) ∧ ((atOk (Array.extract ts (0 : Nat) (64 : Nat)) i == true) = false → QZ (ari BinOp.add IntKind.i64 i (1 : Int)) ∧ CallKind.normal = CallKind.normal ∧ TodoOk (ren 3 [(3, 3)]) aZ_d0 aZ_d0 ∧ Fn.func (46 : Nat) = Fn.func (46 : Nat) ∧ Array.extract ts (64 : Nat) (144 : Nat) = Array.extract ts (64 : Nat) (144 : Nat) ∧ Value.slice none (0 : Nat) (0 : Nat) = Value.slice none (0 : Nat) (0 : Nat) ∧ ari BinOp.add IntKind.i64 i (1 : Int) = ari BinOp.add IntKind.i64 i (1 : Int) ∧ (30 : TypeId) = (30 : TypeId) ∧ x = x ∧ (30 : TypeId) = (30 : TypeId) ∧ y = y ∧ (35 : TypeId) = (35 : TypeId) ∧ ts = ts ∧ (4 : TypeId) = (4 : TypeId) ∧ z = z ∧ True)) ∧ (decide (i < (16 : Int)) = false → False)) := by kernel_rfl
theorem d3 (ts : Array Value) (x : Int) (y : Int) (z : Bool) (i : Int) (k : Nat) (cs : Array Value) (kF : Nat) (csF : Array Value) (QS : Int → Nat → Array Value → Prop) : (stepT EH2.go (run EH2 1000) 3 (dS_F ts x y z i k cs) (dS_M ts x y z i k cs)).vc (freshR kF csF) (dS_n ts x y z QS) =
    ((decide (i < (16 : Int)) = true → (((0 : Int) ≤ i ∧ i < (16 : Int)) ∧ Int.toNat i * 5 + 5 ≤ Array.size (Array.extract ts (64 : Nat) (144 : Nat)) ∧ True) ∧ (Array.size (Array.extract (Array.extract ts (64 : Nat) (144 : Nat)) (Int.toNat i * 5) (Int.toNat i * 5 + 5)) = (5 : Nat) ∧ Array.size (Array.extract (Array.extract ts (64 : Nat) (144 : Nat)) (Int.toNat i * 5) (Int.toNat i * 5 + 5)) = (5 : Nat) ∧ True) ∧ ((64 : Nat) ≤ Array.size ts ∧ True) ∧ (BkOk (Array.extract ts (0 : Nat) (64 : Nat)) ∧ True) ∧ ((atOk (Array.extract ts (0 : Nat) (64 : Nat)) i == true) = true → (IsInt IntKind.u32 (Array.extract (Array.extract ts (64 : Nat) (144 : Nat)) (Int.toNat i * 5) (Int.toNat i * 5 + 5)) (0 : Nat) ∧ IsInt IntKind.u8 (Array.extract (Array.extract ts (64 : Nat) (144 : Nat)) (Int.toNat i * 5) (Int.toNat i * 5 + 5)) (1 : Nat) ∧ IsInt IntKind.u8 (Array.extract (Array.extract ts (64 : Nat) (144 : Nat)) (Int.toNat i * 5) (Int.toNat i * 5 + 5)) (2 : Nat) ∧ IsBool (Array.extract (Array.extract ts (64 : Nat) (144 : Nat)) (Int.toNat i * 5) (Int.toNat i * 5 + 5)) (3 : Nat) ∧ IsInt IntKind.u32 (Array.extract (Array.extract ts (64 : Nat) (144 : Nat)) (Int.toNat i * 5) (Int.toNat i * 5 + 5)) (4 : Nat) ∧ True) ∧ (((intAt (Array.extract (Array.extract ts (64 : Nat) (144 : Nat)) (Int.toNat i * 5) (Int.toNat i * 5 + 5)) (0 : Nat) == x) == true) = true → (((intAt (Array.extract (Array.extract ts (64 : Nat) (144 : Nat)) (Int.toNat i * 5) (Int.toNat i * 5 + 5)) (4 : Nat) == y) == true) = true → ((boolAt (Array.extract (Array.extract ts (64 : Nat) (144 : Nat)) (Int.toNat i * 5) (Int.toNat i * 5 + 5)) (3 : Nat) == false) = true → ((!z) = true → (((k + 1) * 4 ≤ (140737488355328 : Nat) ∧ k + 1 ≤ (140737488355328 : Nat)) ∧ k * 1 = Array.size cs ∧ True) ∧ QS (ari BinOp.add IntKind.i64 i (1 : Int)) (k + 1) (cs ++ #[Value.int IntKind.u32 (atI (Array.extract ts (0 : Nat) (64 : Nat)) i)]) ∧ CallKind.normal = CallKind.normal ∧ TodoOk (ren 3 [(3, 3), (4, 8)]) aZ_d0 aZ_d0 ∧ Fn.func (46 : Nat) = Fn.func (46 : Nat) ∧ Array.extract ts (64 : Nat) (144 : Nat) = Array.extract ts (64 : Nat) (144 : Nat) ∧ k + 1 = k + 1 ∧ ari BinOp.add IntKind.i64 i (1 : Int) = ari BinOp.add IntKind.i64 i (1 : Int) ∧ (30 : TypeId) = (30 : TypeId) ∧ x = x ∧ (30 : TypeId) = (30 : TypeId) ∧ y = y ∧ (35 : TypeId) = (35 : TypeId) ∧ ts = ts ∧ (4 : TypeId) = (4 : TypeId) ∧ z = z ∧ (30 : TypeId) = (30 : Nat) ∧ cs ++ #[Value.int IntKind.u32 (atI (Array.extract ts (0 : Nat) (64 : Nat)) i)] = cs ++ #[Value.int IntKind.u32 (atI (Array.extract ts (0 : Nat) (64 : Nat)) i)] ∧ True) ∧ ((!z) = false → QS (ari BinOp.add IntKind.i64 i (1 : Int)) k cs ∧ CallKind.normal = CallKind.normal ∧ TodoOk (ren 3 [(3, 3), (4, 4)]) aZ_d0 aZ_d0 ∧ Fn.func (46 : Nat) = Fn.func (46 : Nat) ∧ Array.extract ts (64 : Nat) (144 : Nat) = Array.extract ts (64 : Nat) (144 : Nat) ∧ k = k ∧ ari BinOp.add IntKind.i64 i (1 : Int) = ari BinOp.add IntKind.i64 i (1 : Int) ∧ (30 : TypeId) = (30 : TypeId) ∧ x = x ∧ (30 : TypeId) = (30 : TypeId) ∧ y = y ∧ (35 : TypeId) = (35 : TypeId) ∧ ts = ts ∧ (4 : TypeId) = (4 : TypeId) ∧ z = z ∧ (30 : TypeId) = (30 : TypeId) ∧ cs = cs ∧ True)) ∧ ((boolAt (Array.extract (Array.extract ts (64 : Nat) (144 : Nat)) (Int.toNat i * 5) (Int.toNat i * 5 + 5)) (3 : Nat) == false) = false → (((k + 1) * 4 ≤ (140737488355328 : Nat) ∧ k + 1 ≤ (140737488355328 : Nat)) ∧ k * 1 = Array.size cs ∧ True) ∧ QS (ari BinOp.add IntKind.i64 i (1 : Int)) (k + 1) (cs ++ #[Value.int IntKind.u32 (atI (Array.extract ts (0 : Nat) (64 : Nat)) i)]) ∧ CallKind.normal = CallKind.normal ∧ TodoOk (ren 3 [(3, 3), (4, 8)]) aZ_d0 aZ_d0 ∧ Fn.func (46 : Nat) = Fn.func (46 : Nat) ∧ Array.extract ts (64 : Nat) (144 : Nat) = Array.extract ts (64 : Nat) (144 : Nat) ∧ k + 1 = k + 1 ∧ ari BinOp.add IntKind.i64 i (1 : Int) = ari BinOp.add IntKind.i64 i (1 : Int) ∧ (30 : TypeId) = (30 : TypeId) ∧ x = x ∧ (30 : TypeId) = (30 : TypeId) ∧ y = y ∧ (35 : TypeId) = (35 : TypeId) ∧ ts = ts ∧ (4 : TypeId) = (4 : TypeId) ∧ z = z ∧ (30 : TypeId) = (30 : Nat) ∧ cs ++ #[Value.int IntKind.u32 (atI (Array.extract ts (0 : Nat) (64 : Nat)) i)] = cs ++ #[Value.int IntKind.u32 (atI (Array.extract ts (0 : Nat) (64 : Nat)) i)] ∧ True)) ∧ (((intAt (Array.extract (Array.extract ts (64 : Nat) (144 : Nat)) (Int.toNat i * 5) (Int.toNat i * 5 + 5)) (4 : Nat) == y) == true) = false → QS (ari BinOp.add IntKind.i64 i (1 : Int)) k cs ∧ CallKind.normal = CallKind.normal ∧ TodoOk (ren 3 [(3, 3), (4, 4)]) aZ_d0 aZ_d0 ∧ Fn.func (46 : Nat) = Fn.func (46 : Nat) ∧ Array.extract ts (64 : Nat) (144 : Nat) = Array.extract ts (64 : Nat) (144 : Nat) ∧ k = k ∧ ari BinOp.add IntKind.i64 i (1 : Int) = ari BinOp.add IntKind.i64 i (1 : Int) ∧ (30 : TypeId) = (30 : TypeId) ∧ x = x ∧ (30 : TypeId) = (30 : TypeId) ∧ y = y ∧ (35 : TypeId) = (35 : TypeId) ∧ ts = ts ∧ (4 : TypeId) = (4 : TypeId) ∧ z = z ∧ (30 : TypeId) = (30 : TypeId) ∧ cs = cs ∧ True)) ∧ (((intAt (Array.extract (Array.extract ts (64 : Nat) (144 : Nat)) (Int.toNat i * 5) (Int.toNat i * 5 + 5)) (0 : Nat) == x) == true) = false → QS (ari BinOp.add IntKind.i64 i (1 : Int)) k cs ∧ CallKind.normal = CallKind.normal ∧ TodoOk (ren 3 [(3, 3), (4, 4)]) aZ_d0 aZ_d0 ∧ Fn.func (46 : Nat) = Fn.func (46 : Nat) ∧ Array.extract ts (64 : Nat) (144 : Nat) = Array.extract ts (64 : Nat) (144 : Nat) ∧ k = k ∧ ari BinOp.add IntKind.i64 i (1 : Int) = ari BinOp.add IntKind.i64 i (1 : Int) ∧ (30 : TypeId) = (30 : TypeId) ∧ x = x ∧ (30 : TypeId) = (30 : TypeId) ∧ y = y ∧ (35 : TypeId) = (35 : TypeId) ∧ ts = ts ∧ (4 : TypeId) = (4 : TypeId) ∧ z = z ∧ (30 : TypeId) = (30 : TypeId) ∧ cs = cs ∧ True)) ∧ ((atOk (Array.extract ts (0 : Nat) (64 : Nat)) i == true) = false → QS (ari BinOp.add IntKind.i64 i (1 : Int)) k cs ∧ CallKind.normal = CallKind.normal ∧ TodoOk (ren 3 [(3, 3), (4, 4)]) aZ_d0 aZ_d0 ∧ Fn.func (46 : Nat) = Fn.func (46 : Nat) ∧ Array.extract ts (64 : Nat) (144 : Nat) = Array.extract ts (64 : Nat) (144 : Nat) ∧ k = k ∧ ari BinOp.add IntKind.i64 i (1 : Int) = ari BinOp.add IntKind.i64 i (1 : Int) ∧ (30 : TypeId) = (30 : TypeId) ∧ x = x ∧ (30 : TypeId) = (30 : TypeId) ∧ y = y ∧ (35 : TypeId) = (35 : TypeId) ∧ ts = ts ∧ (4 : TypeId) = (4 : TypeId) ∧ z = z ∧ (30 : TypeId) = (30 : TypeId) ∧ cs = cs ∧ True)) ∧ (decide (i < (16 : Int)) = false → true = true ∧ k = kF ∧ cs = csF ∧ (30 : TypeId) = (30 : TypeId))) := by kernel_rfl
end Go.Proofs.Ytnjmockpdmchcaa
