/- The document's book (layer 3): Of, Slot, Issue, Void: states. No condition. -/
import Derived.Test.YtjjeahnbppmigaaDoorMB
set_option linter.unusedVariables false
set_option linter.unusedSimpArgs false
namespace Go.Proofs.YtjjeahnbppmigaaDoor
set_option linter.unusedSectionVars false
variable [Gh]
set_option linter.unusedVariables false
omit [Gh] in
def gnW (ws : Array Value) (i : Nat) : Int := intAt ws i
omit [Gh] in
def knW (ws : Array Value) (i : Nat) : Int := intAt ws (32 + i)
omit [Gh] in
structure WB (ws : Array Value) : Prop where
  sz : ws.size = 64
  g : ∀ i, i < 32 → IsInt .i64 ws i
  s : ∀ i, i < 32 → IsInt .i64 ws (32 + i)
  rg : ∀ i, i < 32 → 0 ≤ gnW ws i ∧ gnW ws i ≤ 8388607
  rs : ∀ i, i < 32 → 0 ≤ knW ws i ∧ knW ws i ≤ 2
omit [Gh] in
noncomputable def wbS (ws : Array Value) : SV := .s (.agg (.op ws))
omit [Gh] in
def slFrom (ws : Array Value) (h : Int) : Nat → Nat → Int | 0, _ => -1 | k + 1, i => if knW ws i = 1 ∧ nameI i (gnW ws i) = h then (i : Int) else slFrom ws h k (i + 1)
omit [Gh] in
def slW (ws : Array Value) (h : Int) : Int := slFrom ws h 32 0
noncomputable def conI0 (g : FuncId) (l : List SV) (m : SMem) : Option Tree := match g, l with
  | 40, [.s (.agg (.op ws)), .s (.c (.f (.int .i64 i)))] => some (.need [WB ws, 0 ≤ i.den ∧ i.den < 32] (.ret (i64 (.o (nameI i.den.toNat (gnW ws i.den.toNat)))) m))
  | g, l => conTg g l m
noncomputable def EI0 : Env := ⟨Tryd.prog, fnOf, conTg, haltAt []⟩
noncomputable def EIs : Env := ⟨Tryd.prog, fnOf, conI0, haltAt [33 * 1000 + 2, 44 * 1000 + 2]⟩
omit [Gh] in
noncomputable def rS_d0 : List SIt := sekF Tryd.f33 2
omit [Gh] in
noncomputable def rS_F (ws : Array Value) (h : Int) (i : Int) : List SFr := [frOf 33 Tryd.f33 [(1, i64 (.o h)), (2, ptr 0 (.l 0)), (5, i64 (.o i))] rS_d0]
omit [Gh] in
noncomputable def rS_M (ws : Array Value) (h : Int) (i : Int) : SMem := mkM 1 [(0, ⟨.op ws, 45, true⟩)]
omit [Gh] in
noncomputable def rS_n (ws : Array Value) (h : Int) (Q : Int → Prop) (fs : List SFr) (m : SMem) : Prop := (match frNth fs 0 with | some f0 => (match rdI f0 5 with | some i => (match rdP f0 2 with | some p0 => Q i ∧ subOk 0 [(0, p0)] (rS_F ws h i) (rS_M ws h i) fs m | none => False) | none => False) | none => False)
omit [Gh] in
noncomputable def rI_d0 : List SIt := sekF Tryd.f44 2
omit [Gh] in
noncomputable def rI_F (ws : Array Value) (i : Int) (zz : Array Value) : List SFr := [frOf 44 Tryd.f44 [(1, ptr 0 (.l 0)), (2, ptr 1 (.l 0)), (4, i64 (.o i))] rI_d0]
omit [Gh] in
noncomputable def rI_M (ws : Array Value) (i : Int) (zz : Array Value) : SMem := mkM 2 [(0, ⟨.op ws, 45, true⟩), (1, ⟨.op zz, 45, true⟩)]
omit [Gh] in
noncomputable def rI_n (ws : Array Value) (Q : Int → Array Value → Prop) (fs : List SFr) (m : SMem) : Prop := (match frNth fs 0 with | some f0 => (match rdI f0 4 with | some i => (match rdP f0 1 with | some p0 => (match rdP f0 2 with | some p1 => (match rdA m p1 with | some zz => Q i zz ∧ subOk 0 [(0, p0), (1, p1)] (rI_F ws i zz) (rI_M ws i zz) fs m | none => False) | none => False) | none => False) | none => False) | none => False)
noncomputable def rs0_t (ws : Array Value) (h : Int) : Tree := run EIs 1000 0 [callFr 33 Tryd.f33.ntmps [wbS ws, i64 (.o h)] (Tryd.f33.body.getD .skip)] e0M
omit [Gh] in
noncomputable def rs0_x (ws : Array Value) (h : Int) (QrS : Int → Prop) (fs : List SFr) (m : SMem) : Prop := rS_n ws h QrS fs m
noncomputable def rs1_t (ws : Array Value) (h : Int) (i : Int) : Tree := stepT EIs.go (run EIs 1000) 0 (rS_F ws h i) (rS_M ws h i)
omit [Gh] in
noncomputable def rs1_x (ws : Array Value) (h : Int) (i : Int) (QrS : Int → Prop) (fs : List SFr) (m : SMem) : Prop := rS_n ws h QrS fs m
noncomputable def ri0_t (ws : Array Value) : Tree := run EIs 1000 0 [callFr 44 Tryd.f44.ntmps [wbS ws] (Tryd.f44.body.getD .skip)] e0M
omit [Gh] in
noncomputable def ri0_x (ws : Array Value) (QrI : Int → Array Value → Prop) (fs : List SFr) (m : SMem) : Prop := rI_n ws QrI fs m
noncomputable def ri1_t (ws : Array Value) (i : Int) (zz : Array Value) : Tree := stepT EIs.go (run EIs 1000) 0 (rI_F ws i zz) (rI_M ws i zz)
omit [Gh] in
noncomputable def ri1_x (ws : Array Value) (i : Int) (zz : Array Value) (QrI : Int → Array Value → Prop) (fs : List SFr) (m : SMem) : Prop := rI_n ws QrI fs m
omit [Gh] in
theorem rS_d0_ok (r : Nat → Option Nat) : TodoOk r rS_d0 rS_d0 := TodoOk.it (by kernel_rfl)
omit [Gh] in
theorem rI_d0_ok (r : Nat → Option Nat) : TodoOk r rI_d0 rI_d0 := TodoOk.it (by kernel_rfl)
theorem rS_good {A : SV → SMem → Prop} {ws : Array Value} {h : Int} {Q : Int → Prop} {fs : List SFr} {m : SMem} (H : ∀ i, Q i → Good Tryd.prog A 0 (rS_F ws h i) (rS_M ws h i)) (hb : rS_n ws h Q fs m) : Good Tryd.prog A 0 fs m := by
  unfold rS_n at hb
  split at hb
  rotate_left
  · exact hb.elim
  split at hb
  rotate_left
  · exact hb.elim
  split at hb
  rotate_left
  · exact hb.elim
  exact Good.of_sub hb.2 (H _ hb.1)
theorem rI_good {A : SV → SMem → Prop} {ws : Array Value} {Q : Int → Array Value → Prop} {fs : List SFr} {m : SMem} (H : ∀ i zz, Q i zz → Good Tryd.prog A 0 (rI_F ws i zz) (rI_M ws i zz)) (hb : rI_n ws Q fs m) : Good Tryd.prog A 0 fs m := by
  unfold rI_n at hb
  split at hb
  rotate_left
  · exact hb.elim
  split at hb
  rotate_left
  · exact hb.elim
  split at hb
  rotate_left
  · exact hb.elim
  split at hb
  rotate_left
  · exact hb.elim
  split at hb
  rotate_left
  · exact hb.elim
  exact Good.of_sub hb.2 (H _ _ hb.1)
theorem rs0_go {A : SV → SMem → Prop} {ws : Array Value} {h : Int} {QrS : Int → Prop} {fs : List SFr} {m : SMem} (hrS : ∀ i', QrS i' → Good Tryd.prog A 0 (rS_F ws h i') (rS_M ws h i')) (hb : rs0_x ws h QrS fs m) : Good Tryd.prog A 0 fs m := by
  unfold rs0_x at hb
  exact rS_good hrS hb
theorem rs1_go {A : SV → SMem → Prop} {ws : Array Value} {h : Int} {i : Int} {QrS : Int → Prop} {fs : List SFr} {m : SMem} (hrS : ∀ i', QrS i' → Good Tryd.prog A 0 (rS_F ws h i') (rS_M ws h i')) (hb : rs1_x ws h i QrS fs m) : Good Tryd.prog A 0 fs m := by
  unfold rs1_x at hb
  exact rS_good hrS hb
theorem ri0_go {A : SV → SMem → Prop} {ws : Array Value} {QrI : Int → Array Value → Prop} {fs : List SFr} {m : SMem} (hrI : ∀ i' zz', QrI i' zz' → Good Tryd.prog A 0 (rI_F ws i' zz') (rI_M ws i' zz')) (hb : ri0_x ws QrI fs m) : Good Tryd.prog A 0 fs m := by
  unfold ri0_x at hb
  exact rI_good hrI hb
theorem ri1_go {A : SV → SMem → Prop} {ws : Array Value} {i : Int} {zz : Array Value} {QrI : Int → Array Value → Prop} {fs : List SFr} {m : SMem} (hrI : ∀ i' zz', QrI i' zz' → Good Tryd.prog A 0 (rI_F ws i' zz') (rI_M ws i' zz')) (hb : ri1_x ws i zz QrI fs m) : Good Tryd.prog A 0 fs m := by
  unfold ri1_x at hb
  exact rI_good hrI hb
end Go.Proofs.YtjjeahnbppmigaaDoor
/- The document's book (layer 3): Of, Slot, Issue, Void: states. -/
namespace Go.Proofs.YtjjeahnbppmigaaDoor
set_option linter.unusedSectionVars false
variable [Gh]
set_option maxRecDepth 100000
theorem of0 (ws : Array Value) (i : Int) (o : Int) : (run EI0 1000 0 [callFr 40 Tryd.f40.ntmps [wbS ws, i64 (.o i)] (Tryd.f40.body.getD .skip)] e0M).vc (retOk 0 [] (i64 (.o o)) e0M) (fun _ _ => False) =
    ((((0 : Int) ≤ i ∧ i < (32 : Int)) ∧ True) ∧ (IsInt IntKind.i64 ws ((0 : Nat) + Int.toNat i * 1) ∧ True) ∧ o = ari BinOp.add IntKind.i64 (ari BinOp.add IntKind.i64 i (ari BinOp.mul IntKind.i64 (256 : Int) (intAt ws ((0 : Nat) + Int.toNat i * 1)))) (1 : Int) ∧ True) := by kernel_rfl
theorem rs0F (ws : Array Value) (h o : Int) (Q : Int → Prop) : (rs0_t ws h).vc (retOk 0 [] (i64 (.o o)) e0M) (rs0_x ws h Q) =
    (Q (0 : Int) ∧ CallKind.normal = CallKind.normal ∧ TodoOk (ren 0 [(0, 0)]) rS_d0 rS_d0 ∧ h = h ∧ (0 : Int) = (0 : Int) ∧ (45 : TypeId) = (45 : Nat) ∧ ws = ws ∧ True) := by kernel_rfl
theorem rs1F (ws : Array Value) (h i o : Int) (Q : Int → Prop) : (rs1_t ws h i).vc (retOk 0 [] (i64 (.o o)) e0M) (rs1_x ws h i Q) =
    ((decide (i < (32 : Int)) = true → (((0 : Int) ≤ i ∧ i < (32 : Int)) ∧ True) ∧ (IsInt IntKind.i64 ws ((32 : Nat) + Int.toNat i * 1) ∧ True) ∧ (((intAt ws ((32 : Nat) + Int.toNat i * 1) == (1 : Int)) == true) = true → (Array.size ws = (64 : Nat) ∧ True) ∧ (WB ws ∧ ((0 : Int) ≤ i ∧ i < (32 : Int)) ∧ True) ∧ ((nameI (Int.toNat i) (gnW ws (Int.toNat i)) == h) = true → o = i ∧ True) ∧ ((nameI (Int.toNat i) (gnW ws (Int.toNat i)) == h) = false → Q (ari BinOp.add IntKind.i64 i (1 : Int)) ∧ CallKind.normal = CallKind.normal ∧ TodoOk (ren 0 [(0, 0)]) rS_d0 rS_d0 ∧ h = h ∧ ari BinOp.add IntKind.i64 i (1 : Int) = ari BinOp.add IntKind.i64 i (1 : Int) ∧ (45 : TypeId) = (45 : TypeId) ∧ ws = ws ∧ True)) ∧ (((intAt ws ((32 : Nat) + Int.toNat i * 1) == (1 : Int)) == true) = false → Q (ari BinOp.add IntKind.i64 i (1 : Int)) ∧ CallKind.normal = CallKind.normal ∧ TodoOk (ren 0 [(0, 0)]) rS_d0 rS_d0 ∧ h = h ∧ ari BinOp.add IntKind.i64 i (1 : Int) = ari BinOp.add IntKind.i64 i (1 : Int) ∧ (45 : TypeId) = (45 : TypeId) ∧ ws = ws ∧ True)) ∧ (decide (i < (32 : Int)) = false → o = (-1 : Int) ∧ True)) := by kernel_rfl
theorem ri0F (ws : Array Value) (o : Array Value) (h : Int) (Q : Int → Array Value → Prop) : (ri0_t ws).vc (retOk 0 [] (.tup [.agg (.op o), .c (.f (.int .i64 (.o h)))]) e0M) (ri0_x ws Q) =
    (Q (0 : Int) #[Value.int IntKind.i64 (0 : Int), Value.int IntKind.i64 (0 : Int), Value.int IntKind.i64 (0 : Int), Value.int IntKind.i64 (0 : Int), Value.int IntKind.i64 (0 : Int), Value.int IntKind.i64 (0 : Int), Value.int IntKind.i64 (0 : Int), Value.int IntKind.i64 (0 : Int), Value.int IntKind.i64 (0 : Int), Value.int IntKind.i64 (0 : Int), Value.int IntKind.i64 (0 : Int), Value.int IntKind.i64 (0 : Int), Value.int IntKind.i64 (0 : Int), Value.int IntKind.i64 (0 : Int), Value.int IntKind.i64 (0 : Int), Value.int IntKind.i64 (0 : Int), Value.int IntKind.i64 (0 : Int), Value.int IntKind.i64 (0 : Int), Value.int IntKind.i64 (0 : Int), Value.int IntKind.i64 (0 : Int), Value.int IntKind.i64 (0 : Int), Value.int IntKind.i64 (0 : Int), Value.int IntKind.i64 (0 : Int), Value.int IntKind.i64 (0 : Int), Value.int IntKind.i64 (0 : Int), Value.int IntKind.i64 (0 : Int), Value.int IntKind.i64 (0 : Int), Value.int IntKind.i64 (0 : Int), Value.int IntKind.i64 (0 : Int), Value.int IntKind.i64 (0 : Int), Value.int IntKind.i64 (0 : Int), Value.int IntKind.i64 (0 : Int), Value.int IntKind.i64 (0 : Int), Value.int IntKind.i64 (0 : Int), Value.int IntKind.i64 (0 : Int), Value.int IntKind.i64 (0 : Int), Value.int IntKind.i64 (0 : Int), Value.int IntKind.i64 (0 : Int), Value.int IntKind.i64 (0 : Int), Value.int IntKind.i64 (0 : Int), Value.int IntKind.i64 (0 : Int), Value.int IntKind.i64 (0 : Int), Value.int IntKind.i64 (0 : Int), Value.int IntKind.i64 (0 : Int), Value.int IntKind.i64 (0 : Int), Value.int IntKind.i64 (0 : Int), Value.int IntKind.i64 (0 : Int), Value.int IntKind.i64 (0 : Int), Value.int IntKind.i64 (0 : Int), Value.int IntKind.i64 (0 : Int), Value.int IntKind.i64 (0 : Int), Value.int IntKind.i64 (0 : Int), Value.int IntKind.i64 (0 : Int), Value.int IntKind.i64 (0 : Int), Value.int IntKind.i64 (0 : Int), Value.int IntKind.i64 (0 : Int), Value.int IntKind.i64 (0 : Int), Value.int IntKind.i64 (0 : Int), Value.int IntKind.i64 (0 : Int), Value.int IntKind.i64 (0 : Int), Value.int IntKind.i64 (0 : Int), Value.int IntKind.i64 (0 : Int), Value.int IntKind.i64 (0 : Int), Value.int IntKind.i64 (0 : Int)] ∧ CallKind.normal = CallKind.normal ∧ TodoOk (ren 0 [(0, 0), (1, 1)]) rI_d0 rI_d0 ∧ (0 : Int) = (0 : Int) ∧ (45 : TypeId) = (45 : Nat) ∧ ws = ws ∧ (45 : TypeId) = (45 : Nat) ∧ #[Value.int IntKind.i64 (0 : Int), Value.int IntKind.i64 (0 : Int), Value.int IntKind.i64 (0 : Int), Value.int IntKind.i64 (0 : Int), Value.int IntKind.i64 (0 : Int), Value.int IntKind.i64 (0 : Int), Value.int IntKind.i64 (0 : Int), Value.int IntKind.i64 (0 : Int), Value.int IntKind.i64 (0 : Int), Value.int IntKind.i64 (0 : Int), Value.int IntKind.i64 (0 : Int), Value.int IntKind.i64 (0 : Int), Value.int IntKind.i64 (0 : Int), Value.int IntKind.i64 (0 : Int), Value.int IntKind.i64 (0 : Int), Value.int IntKind.i64 (0 : Int), Value.int IntKind.i64 (0 : Int), Value.int IntKind.i64 (0 : Int), Value.int IntKind.i64 (0 : Int), Value.int IntKind.i64 (0 : Int), Value.int IntKind.i64 (0 : Int), Value.int IntKind.i64 (0 : Int), Value.int IntKind.i64 (0 : Int), Value.int IntKind.i64 (0 : Int), Value.int IntKind.i64 (0 : Int), Value.int IntKind.i64 (0 : Int), Value.int IntKind.i64 (0 : Int), Value.int IntKind.i64 (0 : Int), Value.int IntKind.i64 (0 : Int), Value.int IntKind.i64 (0 : Int), Value.int IntKind.i64 (0 : Int), Value.int IntKind.i64 (0 : Int), Value.int IntKind.i64 (0 : Int), Value.int IntKind.i64 (0 : Int), Value.int IntKind.i64 (0 : Int), Value.int IntKind.i64 (0 : Int), Value.int IntKind.i64 (0 : Int), Value.int IntKind.i64 (0 : Int), Value.int IntKind.i64 (0 : Int), Value.int IntKind.i64 (0 : Int), Value.int IntKind.i64 (0 : Int), Value.int IntKind.i64 (0 : Int), Value.int IntKind.i64 (0 : Int), Value.int IntKind.i64 (0 : Int), Value.int IntKind.i64 (0 : Int), Value.int IntKind.i64 (0 : Int), Value.int IntKind.i64 (0 : Int), Value.int IntKind.i64 (0 : Int), Value.int IntKind.i64 (0 : Int), Value.int IntKind.i64 (0 : Int), Value.int IntKind.i64 (0 : Int), Value.int IntKind.i64 (0 : Int), Value.int IntKind.i64 (0 : Int), Value.int IntKind.i64 (0 : Int), Value.int IntKind.i64 (0 : Int), Value.int IntKind.i64 (0 : Int), Value.int IntKind.i64 (0 : Int), Value.int IntKind.i64 (0 : Int), Value.int IntKind.i64 (0 : Int), Value.int IntKind.i64 (0 : Int), Value.int IntKind.i64 (0 : Int), Value.int IntKind.i64 (0 : Int), Value.int IntKind.i64 (0 : Int), Value.int IntKind.i64 (0 : Int)] = #[Value.int IntKind.i64 (0 : Int), Value.int IntKind.i64 (0 : Int), Value.int IntKind.i64 (0 : Int), Value.int IntKind.i64 (0 : Int), Value.int IntKind.i64 (0 : Int), Value.int IntKind.i64 (0 : Int), Value.int IntKind.i64 (0 : Int), Value.int IntKind.i64 (0 : Int), Value.int IntKind.i64 (0 : Int), Value.int IntKind.i64 (0 : Int), Value.int IntKind.i64 (0 : Int), Value.int IntKind.i64 (0 : Int), Value.int IntKind.i64 (0 : Int), Value.int IntKind.i64 (0 : Int), Value.int IntKind.i64 (0 : Int), Value.int IntKind.i64 (0 : Int), Value.int IntKind.i64 (0 : Int), Value.int IntKind.i64 (0 : Int), Value.int IntKind.i64 (0 : Int), Value.int IntKind.i64 (0 : Int), Value.int IntKind.i64 (0 : Int), Value.int IntKind.i64 (0 : Int), Value.int IntKind.i64 (0 : Int), Value.int IntKind.i64 (0 : Int), Value.int IntKind.i64 (0 : Int), Value.int IntKind.i64 (0 : Int), Value.int IntKind.i64 (0 : Int), Value.int IntKind.i64 (0 : Int), Value.int IntKind.i64 (0 : Int), Value.int IntKind.i64 (0 : Int), Value.int IntKind.i64 (0 : Int), Value.int IntKind.i64 (0 : Int), Value.int IntKind.i64 (0 : Int), Value.int IntKind.i64 (0 : Int), Value.int IntKind.i64 (0 : Int), Value.int IntKind.i64 (0 : Int), Value.int IntKind.i64 (0 : Int), Value.int IntKind.i64 (0 : Int), Value.int IntKind.i64 (0 : Int), Value.int IntKind.i64 (0 : Int), Value.int IntKind.i64 (0 : Int), Value.int IntKind.i64 (0 : Int), Value.int IntKind.i64 (0 : Int), Value.int IntKind.i64 (0 : Int), Value.int IntKind.i64 (0 : Int), Value.int IntKind.i64 (0 : Int), Value.int IntKind.i64 (0 : Int), Value.int IntKind.i64 (0 : Int), Value.int IntKind.i64 (0 : Int), Value.int IntKind.i64 (0 : Int), Value.int IntKind.i64 (0 : Int), Value.int IntKind.i64 (0 : Int), Value.int IntKind.i64 (0 : Int), Value.int IntKind.i64 (0 : Int), Value.int IntKind.i64 (0 : Int), Value.int IntKind.i64 (0 : Int), Value.int IntKind.i64 (0 : Int), Value.int IntKind.i64 (0 : Int), Value.int IntKind.i64 (0 : Int), Value.int IntKind.i64 (0 : Int), Value.int IntKind.i64 (0 : Int), Value.int IntKind.i64 (0 : Int), Value.int IntKind.i64 (0 : Int), Value.int IntKind.i64 (0 : Int)] ∧ True) := by kernel_rfl
theorem ri1F (ws : Array Value) (i : Int) (zz : Array Value) (o : Array Value) (h : Int) (Q : Int → Array Value → Prop) : (ri1_t ws i zz).vc (retOk 0 [] (.tup [.agg (.op o), .c (.f (.int .i64 (.o h)))]) e0M) (ri1_x ws i zz Q) =
    ((decide (i < (32 : Int)) = true → (((0 : Int) ≤ i ∧ i < (32 : Int)) ∧ True) ∧ (IsInt IntKind.i64 ws ((32 : Nat) + Int.toNat i * 1) ∧ True) ∧ ((intAt ws ((32 : Nat) + Int.toNat i * 1) == (0 : Int)) = true → (((0 : Int) ≤ i ∧ i < (32 : Int)) ∧ True) ∧ ((32 : Nat) + Int.toNat i * 1 < Array.size ws ∧ True) ∧ (Array.size (Array.setIfInBounds ws ((32 : Nat) + Int.toNat i * 1) (Value.int IntKind.i64 (1 : Int))) = (64 : Nat) ∧ True) ∧ (Array.size (Array.setIfInBounds ws ((32 : Nat) + Int.toNat i * 1) (Value.int IntKind.i64 (1 : Int))) = (64 : Nat) ∧ True) ∧ (WB (Array.setIfInBounds ws ((32 : Nat) + Int.toNat i * 1) (Value.int IntKind.i64 (1 : Int))) ∧ ((0 : Int) ≤ i ∧ i < (32 : Int)) ∧ True) ∧ (Array.size (Array.setIfInBounds ws ((32 : Nat) + Int.toNat i * 1) (Value.int IntKind.i64 (1 : Int))) = (64 : Nat) ∧ Array.size (Array.setIfInBounds ws ((32 : Nat) + Int.toNat i * 1) (Value.int IntKind.i64 (1 : Int))) = Array.size zz ∧ True) ∧ (Array.size (Array.setIfInBounds ws ((32 : Nat) + Int.toNat i * 1) (Value.int IntKind.i64 (1 : Int))) = (64 : Nat) ∧ True) ∧ o = Array.setIfInBounds ws ((32 : Nat) + Int.toNat i * 1) (Value.int IntKind.i64 (1 : Int)) ∧ h = nameI (Int.toNat i) (gnW (Array.setIfInBounds ws ((32 : Nat) + Int.toNat i * 1) (Value.int IntKind.i64 (1 : Int))) (Int.toNat i)) ∧ True) ∧ ((intAt ws ((32 : Nat) + Int.toNat i * 1) == (0 : Int)) = false → Q (ari BinOp.add IntKind.i64 i (1 : Int)) zz ∧ CallKind.normal = CallKind.normal ∧ TodoOk (ren 0 [(0, 0), (1, 1)]) rI_d0 rI_d0 ∧ ari BinOp.add IntKind.i64 i (1 : Int) = ari BinOp.add IntKind.i64 i (1 : Int) ∧ (45 : TypeId) = (45 : TypeId) ∧ ws = ws ∧ (45 : TypeId) = (45 : TypeId) ∧ zz = zz ∧ True)) ∧ (decide (i < (32 : Int)) = false → (Array.size ws = (64 : Nat) ∧ True) ∧ (Array.size ws = (64 : Nat) ∧ Array.size ws = Array.size zz ∧ True) ∧ (Array.size ws = (64 : Nat) ∧ True) ∧ o = ws ∧ h = (0 : Int) ∧ True)) := by kernel_rfl
end Go.Proofs.YtjjeahnbppmigaaDoor
/- The document's book (layer 3): Of, Slot, Issue: contracts. No condition. -/
namespace Go.Proofs.YtjjeahnbppmigaaDoor
set_option linter.unusedSectionVars false
variable [Gh]
set_option maxRecDepth 100000
set_option linter.unusedSimpArgs false
set_option linter.unusedVariables false
theorem EI0_ok : EnvOk EI0 := EnvOk.with E0_ok _ _ conTg_ok
section
variable {ws : Array Value}
omit [Gh] in
theorem of_i64 {i : Nat} (hi : i < 32) {g : Int} (hg : 0 ≤ g ∧ g ≤ 8388607) : ari .add .i64 (ari .add .i64 (i : Int) (ari .mul .i64 256 g)) 1 = nameI i g := by
  have e1 : ari .mul .i64 256 g = 256 * g := by rw [ari_mul, i64_in' (by omega) (by omega)]
  have e2 : ari .add .i64 (i : Int) (256 * g) = (i : Int) + 256 * g := by rw [ari_add, i64_in' (by omega) (by omega)]
  rw [e1, e2, ari_add, i64_in' (by omega) (by omega)]
  unfold nameI
  omega
theorem rof_con (i : Int) (m : SMem) : Con E0 40 [wbS ws, i64 (.o i)] m (needs [WB ws, 0 ≤ i ∧ i < 32] (.ret (i64 (.o (nameI i.toNat (gnW ws i.toNat)))) m)) := by
  refine Con.pure E0_ok (by kernel_rfl : E0.fn 40 = some Tryd.f40) (by kernel_rfl : Tryd.f40.body = some (Tryd.f40.body.getD .skip)) (by kernel_rfl) (by kernel_rfl) fun hq => ?_
  have hw : WB ws := hq _ (by simp)
  have hi : 0 ≤ i ∧ i < 32 := hq _ (by simp)
  refine (Good.ret [] (run_vc EI0_ok 1000 (of0 ws i (nameI i.toNat (gnW ws i.toNat))) ?_ (fun s m h => h) fun _ _ h => h.elim)).mono fun _ _ h => h.1
  obtain ⟨j, rfl⟩ : ∃ j : Nat, i = (j : Int) := ⟨i.toNat, by omega⟩
  have hj : j < 32 := by omega
  have e := of_i64 hj (hw.rg j hj)
  have g := hw.g j hj
  unfold gnW at e ⊢
  simp only [Int.toNat_natCast, Nat.mul_one, Nat.zero_add, hi, g, e, and_true, true_and]
theorem conI0_ok : ∀ g l m t, conI0 g l m = some t → Con E0 g l m t := by
  intro g l m t h
  unfold conI0 at h
  split at h
  · rename_i ws i; cases h
    refine Con.asked fun hq => Con.args (l' := [wbS ws, i64 (.o i.den)]) (fun R vs ha => by
      match vs, ha with
      | [v, w], ha => exact ⟨ha.1, ha.2.1, trivial⟩) ?_
    intro A hs
    exact rof_con i.den m A ⟨fun p hp => hq p hp, hs⟩
  · exact conTg_ok _ _ _ _ h
theorem EIs_ok : EnvOk EIs := EnvOk.with E0_ok _ _ conI0_ok
theorem rS_ok (hw : WB ws) (h : Int) : ∀ (n i : Nat), i + n = 32 → Good Tryd.prog (retOk 0 [] (i64 (.o (slFrom ws h n i))) e0M) 0 (rS_F ws h (i : Int)) (rS_M ws h (i : Int)) := by
  intro n
  induction n with
  | zero =>
    intro i hi
    obtain rfl : i = 32 := by omega
    refine past_vc EIs_ok 1000 (rs1F ws h _ _ (fun _ => False)) ?_ (fun _ _ h => h) (fun fs m hb => rs1_go (fun _ h => h.elim) hb)
    have d : decide (((32 : Nat) : Int) < 32) = false := rfl
    simp only [d, decide_true, true_implies, Bool.true_eq_false, Bool.false_eq_true, false_implies, and_true, true_and]
    rfl
  | succ n ih =>
    intro i hi
    have hi' : i < 32 := by omega
    have y0 : 0 ≤ (i : Int) := by omega
    have y1 : (i : Int) < 32 := by omega
    have d : decide ((i : Int) < 32) = true := decide_eq_true y1
    have ei : ari .add .i64 (i : Int) 1 = ((i + 1 : Nat) : Int) := by rw [ari_add, i64_in' (by omega) (by omega)]; omega
    have g := hw.s i hi'
    have hs := hw.sz
    have ek : intAt ws (32 + i) = knW ws i := rfl
    have eF : slFrom ws h (n + 1) i = if knW ws i = 1 ∧ nameI i (gnW ws i) = h then (i : Int) else slFrom ws h n (i + 1) := rfl
    by_cases c : knW ws i = 1 ∧ nameI i (gnW ws i) = h
    · rw [eF, if_pos c]
      refine past_vc EIs_ok 1000 (rs1F ws h (i : Int) (i : Int) (fun _ => False)) ?_ (fun _ _ h => h) (fun fs m hb => rs1_go (fun _ h => h.elim) hb)
      have c1 : (knW ws i == 1) = true := beq_iff_eq.2 c.1
      have c2 : (nameI i (gnW ws i) == h) = true := beq_iff_eq.2 c.2
      simp only [Int.toNat_natCast, Nat.mul_one, Nat.zero_add, d, y0, y1, g, hs, hw, ek, c1, c2, beqT, beqF, decide_true, true_implies, Bool.true_eq_false, Bool.false_eq_true, false_implies, and_true, true_and]
    · rw [eF, if_neg c]
      refine past_vc EIs_ok 1000 (rs1F ws h (i : Int) (slFrom ws h n (i + 1)) (fun i' => i' = ((i + 1 : Nat) : Int))) ?_ (fun _ _ h => h) (fun fs m hb => rs1_go (fun i' e => by rw [e]; exact ih (i + 1) (by omega)) hb)
      by_cases k : knW ws i = 1
      · have c1 : (knW ws i == 1) = true := beq_iff_eq.2 k
        have c2 : (nameI i (gnW ws i) == h) = false := beq_eq_false_iff_ne.2 fun e => c ⟨k, e⟩
        simp only [Int.toNat_natCast, Nat.mul_one, Nat.zero_add, d, ei, y0, y1, g, hs, hw, ek, c1, c2, beqT, beqF, decide_true, true_implies, Bool.true_eq_false, Bool.false_eq_true, false_implies, and_true, true_and, rS_d0_ok]
      · have c1 : (knW ws i == 1) = false := beq_eq_false_iff_ne.2 k
        simp only [Int.toNat_natCast, Nat.mul_one, Nat.zero_add, d, ei, y0, y1, g, hs, hw, ek, c1, beqT, beqF, decide_true, true_implies, Bool.true_eq_false, Bool.false_eq_true, false_implies, and_true, true_and, rS_d0_ok]
theorem rslot_con (h : Int) (m : SMem) : Con E0 33 [wbS ws, i64 (.o h)] m (needs [WB ws] (.ret (i64 (.o (slW ws h))) m)) := by
  refine Con.pure E0_ok (by kernel_rfl : E0.fn 33 = some Tryd.f33) (by kernel_rfl : Tryd.f33.body = some (Tryd.f33.body.getD .skip)) (by kernel_rfl) (by kernel_rfl) fun hq => ?_
  have hw : WB ws := hq _ (by simp)
  refine (Good.ret [] (run_vc EIs_ok 1000 (rs0F ws h (slW ws h) (fun i => i = ((0 : Nat) : Int))) ?_ (fun s m h => h) fun fs m hb => rs0_go (fun i e => by rw [e]; exact rS_ok hw h 32 0 rfl) hb)).mono fun _ _ h => h.1
  simp only [and_true, true_and, rS_d0_ok]
  rfl
/-! Issue. -/
omit [Gh] in
def frW (ws : Array Value) : Nat → Nat → Option Nat
  | 0, _ => none
  | k + 1, i => if knW ws i = 0 then some i else frW ws k (i + 1)
omit [Gh] in
def isO (ws : Array Value) : Option Nat → Array Value
  | some i => ws.setIfInBounds (32 + i) (.int .i64 1)
  | none => ws
omit [Gh] in
def iiO (ws : Array Value) : Option Nat → Int
  | some i => nameI i (gnW ws i)
  | none => 0
omit [Gh] in
def isW (ws : Array Value) : Array Value := isO ws (frW ws 32 0)
omit [Gh] in
def iiW (ws : Array Value) : Int := iiO ws (frW ws 32 0)
omit [Gh] in
theorem setI {i v : Nat} {x : Int} (hi : i < ws.size) {j : Nat} : (ws.setIfInBounds i (.int .i64 x))[j]? = if i = j then some (.int .i64 x) else ws[j]? := by
  rw [Array.getElem?_setIfInBounds]
  split
  · first | rfl | rw [if_pos hi]
  · rfl
omit [Gh] in
theorem set_kn {i : Nat} {x : Int} (hw : WB ws) (hi : i < 32) (hx : 0 ≤ x ∧ x ≤ 2) : WB (ws.setIfInBounds (32 + i) (.int .i64 x)) ∧ (∀ j, j < 32 → gnW (ws.setIfInBounds (32 + i) (.int .i64 x)) j = gnW ws j) ∧ ∀ j, j < 32 → knW (ws.setIfInBounds (32 + i) (.int .i64 x)) j = if j = i then x else knW ws j := by
  have hz := hw.sz
  have a : ∀ j, j < 32 → (ws.setIfInBounds (32 + i) (.int .i64 x))[j]? = ws[j]? := fun j hj => by
    rw [setI (v := 0) (by omega), if_neg (by omega)]
  have b : ∀ j, j < 32 → (ws.setIfInBounds (32 + i) (.int .i64 x))[32 + j]? = if j = i then some (.int .i64 x) else ws[32 + j]? := fun j hj => by
    rw [setI (v := 0) (by omega)]
    by_cases e : j = i
    · rw [if_pos (by omega), if_pos e]
    · rw [if_neg (by omega), if_neg e]
  have g : ∀ j, j < 32 → gnW (ws.setIfInBounds (32 + i) (.int .i64 x)) j = gnW ws j := fun j hj => by unfold gnW intAt; rw [a j hj]
  have k : ∀ j, j < 32 → knW (ws.setIfInBounds (32 + i) (.int .i64 x)) j = if j = i then x else knW ws j := fun j hj => by
    unfold knW
    by_cases e : j = i
    · rw [if_pos e]; exact intAt_of (by rw [b j hj, if_pos e])
    · rw [if_neg e]; unfold intAt; rw [b j hj, if_neg e]
  refine ⟨⟨by rw [Array.size_setIfInBounds]; exact hz, fun j hj => ?_, fun j hj => ?_, fun j hj => ?_, fun j hj => ?_⟩, g, k⟩
  · have := hw.g j hj
    have e := g j hj
    unfold gnW at e
    unfold IsInt at *
    rw [e, a j hj]; exact this
  · by_cases e : j = i
    · exact isI_of (by rw [b j hj, if_pos e])
    · have := hw.s j hj
      have e2 := k j hj
      rw [if_neg e] at e2
      unfold knW at e2
      unfold IsInt at *
      rw [e2, b j hj, if_neg e]; exact this
  · rw [g j hj]; exact hw.rg j hj
  · rw [k j hj]
    split
    · exact hx
    · exact hw.rs j hj
theorem rI_ok (hw : WB ws) : ∀ (n i : Nat) {zz : Array Value}, zz.size = 64 → i + n = 32 → Good Tryd.prog (retOk 0 [] (.tup [.agg (.op (isO ws (frW ws n i))), .c (.f (.int .i64 (.o (iiO ws (frW ws n i)))))]) e0M) 0 (rI_F ws (i : Int) zz) (rI_M ws (i : Int) zz) := by
  intro n
  induction n with
  | zero =>
    intro i zz hz hi
    obtain rfl : i = 32 := by omega
    refine past_vc EIs_ok 1000 (ri1F ws _ zz _ _ (fun _ _ => False)) ?_ (fun _ _ h => h) (fun fs m hb => ri1_go (fun _ _ h => h.elim) hb)
    have d : decide (((32 : Nat) : Int) < 32) = false := rfl
    have hs := hw.sz
    simp only [d, hs, hz, decide_true, true_implies, Bool.true_eq_false, Bool.false_eq_true, false_implies, and_true, true_and]
    exact ⟨rfl, rfl⟩
  | succ n ih =>
    intro i zz hz hi
    have hi' : i < 32 := by omega
    have y0 : 0 ≤ (i : Int) := by omega
    have y1 : (i : Int) < 32 := by omega
    have d : decide ((i : Int) < 32) = true := decide_eq_true y1
    have ei : ari .add .i64 (i : Int) 1 = ((i + 1 : Nat) : Int) := by rw [ari_add, i64_in' (by omega) (by omega)]; omega
    have g := hw.s i hi'
    have hs := hw.sz
    have ek : intAt ws (32 + i) = knW ws i := rfl
    have eF : frW ws (n + 1) i = if knW ws i = 0 then some i else frW ws n (i + 1) := rfl
    by_cases c : knW ws i = 0
    · rw [eF, if_pos c]
      refine past_vc EIs_ok 1000 (ri1F ws (i : Int) zz _ _ (fun _ _ => False)) ?_ (fun _ _ h => h) (fun fs m hb => ri1_go (fun _ _ h => h.elim) hb)
      have c1 : (knW ws i == 0) = true := beq_iff_eq.2 c
      obtain ⟨s1, s2, _⟩ := set_kn (x := 1) hw hi' ⟨by decide, by decide⟩
      have s3 := s1.sz
      have y3 : 32 + i < 64 := by omega
      have s4 := s2 i hi'
      simp only [Int.toNat_natCast, Nat.mul_one, Nat.zero_add, d, y0, y1, y3, g, hs, hz, hw, ek, c1, s1, s3, s4, decide_true, true_implies, Bool.true_eq_false, Bool.false_eq_true, false_implies, and_true, true_and]
      exact ⟨rfl, rfl⟩
    · rw [eF, if_neg c]
      refine past_vc EIs_ok 1000 (ri1F ws (i : Int) zz _ _ (fun i' z => i' = ((i + 1 : Nat) : Int) ∧ z = zz)) ?_ (fun _ _ h => h) (fun fs m hb => ri1_go (fun i' z ⟨e1, e2⟩ => by rw [e1, e2]; exact ih (i + 1) hz (by omega)) hb)
      have c1 : (knW ws i == 0) = false := beq_eq_false_iff_ne.2 c
      simp only [Int.toNat_natCast, Nat.mul_one, Nat.zero_add, d, ei, y0, y1, g, hs, hz, hw, ek, c1, decide_true, true_implies, Bool.true_eq_false, Bool.false_eq_true, false_implies, and_true, true_and, rI_d0_ok]
theorem rissue_con (m : SMem) : Con E0 44 [wbS ws] m (needs [WB ws] (.ret (.tup [.agg (.op (isW ws)), .c (.f (.int .i64 (.o (iiW ws))))]) m)) := by
  refine Con.pure E0_ok (by kernel_rfl : E0.fn 44 = some Tryd.f44) (by kernel_rfl : Tryd.f44.body = some (Tryd.f44.body.getD .skip)) (by kernel_rfl) (by kernel_rfl) fun hq => ?_
  have hw : WB ws := hq _ (by simp)
  refine (Good.ret [] (run_vc EIs_ok 1000 (ri0F ws (isW ws) (iiW ws) (fun i z => i = ((0 : Nat) : Int) ∧ z.size = 64)) ?_ (fun s m h => h) fun fs m hb => ri0_go (fun i z ⟨e, e2⟩ => by rw [e]; exact rI_ok hw 32 0 e2 rfl) hb)).mono fun _ _ h => h.1
  simp only [and_true, true_and, rI_d0_ok]
  exact ⟨rfl, rfl⟩
end
end Go.Proofs.YtjjeahnbppmigaaDoor
/- Of extent: the document's May: its loops' states. No condition. -/
namespace Go.Proofs.YtjjeahnbppmigaaDoor
noncomputable section
def lid : List SFr → Nat
  | f :: _ => match f.todo with
    | x :: _ => loopId x
    | [] => 0
  | [] => 0
def mrC (off n : Nat) (len : Int) : List SFr := [callFr 42 Tryd.f42.ntmps [extS off n len] (Tryd.f42.body.getD .skip)]
def mrR (off n : Nat) (len : Int) (cs : Array Value) (ty : TypeId) : Tree := run EX 1000 1 (mrC off n len) (rwM true cs ty)
def mrF (s i : Int) : List SFr := reTm [tmOf Tryd.f42.ntmps [(1, ptr 1 (.l 0)), (3, ptr 2 (.l 0)), (4, i64 (.o s)), (5, i64 (.o i))]] ((mrR 0 0 0 #[] 0).fsAt 4)
def mrM (off n : Nat) (len : Int) (cs : Array Value) (ty : TypeId) (bs : Array Value) : SMem :=
  ⟨3, (((Tr.nil : Tr SBlk).set 0 (some ⟨.raw cs, ty, false⟩)).set 1 (some ⟨.ls [.f (sl0 off n), .f (.int .i64 (.o len))], 49, true⟩)).set 2 (some ⟨.op bs, 120, true⟩), []⟩
def mrS (off n : Nat) (len : Int) (cs : Array Value) (ty : TypeId) (s i : Int) (bs : Array Value) : Tree := stepT EX.go (run EX 1000) 1 (headF (mrF s i)) (mrM off n len cs ty bs)
def mqF (s i a k p : Int) : List SFr := reTm [tmOf Tryd.f42.ntmps [(1, ptr 1 (.l 0)), (3, ptr 2 (.l 0)), (4, i64 (.o s)), (5, i64 (.o i)), (6, i64 (.o a)), (7, i64 (.o k)), (8, i64 (.o p))]] ((mrS 0 0 0 #[] 0 0 0 #[]).fsAt 10)
def mqS (off n : Nat) (len : Int) (cs : Array Value) (ty : TypeId) (s i a k p : Int) (bs : Array Value) : Tree := stepT EX.go (run EX 1000) 1 (headF (mqF s i a k p)) (mrM off n len cs ty bs)
def mrN (h : Bool) (off n : Nat) (len : Int) (cs : Array Value) (ty : TypeId) (Q : Int → Int → Array Value → Prop) (fs : List SFr) (m : SMem) : Prop := match fs with
  | f :: _ => match rdI f 4, rdI f 5, rdP f 1, rdP f 3 with
    | some s, some i, some p, some q => match rdA m q with
      | some bs => Q s i bs ∧ subOk 1 [(1, p), (2, q)] (hF h (mrF s i)) (mrM off n len cs ty bs) fs m
      | none => False
    | _, _, _, _ => False
  | [] => False
def mqN (h : Bool) (off n : Nat) (len : Int) (cs : Array Value) (ty : TypeId) (Q : Int → Int → Int → Int → Int → Array Value → Prop) (fs : List SFr) (m : SMem) : Prop := match fs with
  | f :: _ => match rdI f 4, rdI f 5, rdI f 6, rdI f 7, rdI f 8 with
    | some s, some i, some a, some k, some p => match rdP f 1, rdP f 3 with
      | some x, some q => match rdA m q with
        | some bs => Q s i a k p bs ∧ subOk 1 [(1, x), (2, q)] (hF h (mqF s i a k p)) (mrM off n len cs ty bs) fs m
        | none => False
      | _, _ => False
    | _, _, _, _, _ => False
  | [] => False
def mrA (h : Bool) (off n : Nat) (len : Int) (cs : Array Value) (ty : TypeId) (Q : Int → Int → Array Value → Prop) (Q2 : Int → Int → Int → Int → Int → Array Value → Prop) (fs : List SFr) (m : SMem) : Prop := match Nat.beq (lid fs) 10 with
  | true => mqN h off n len cs ty Q2 fs m
  | false => mrN true off n len cs ty Q fs m
def mrT : List SIt := headTd (mrF 0 0)
def mrH : List SIt := headTd (headF (mrF 0 0))
def mqT : List SIt := headTd (mqF 0 0 0 0 0)
def mqH : List SIt := headTd (headF (mqF 0 0 0 0 0))
end
end Go.Proofs.YtjjeahnbppmigaaDoor
/- Of extent: the document's May: its loops' rounds, as propositions. No condition. -/
namespace Go.Proofs.YtjjeahnbppmigaaDoor
set_option maxRecDepth 100000
theorem mr_start (off n : Nat) (len : Int) (cs : Array Value) (ty : TypeId) (r : Bool) (Q : Int → Int → Array Value → Prop) : (mrR off n len cs ty).vc (boolR r) (mrN false off n len cs ty Q) =
    (Q (0 : Int) (0 : Int) #[Value.bool false, Value.bool false, Value.bool false, Value.bool false, Value.bool false, Value.bool false, Value.bool false, Value.bool false, Value.bool false, Value.bool false, Value.bool false, Value.bool false, Value.bool false, Value.bool false, Value.bool false, Value.bool false, Value.bool false, Value.bool false, Value.bool false, Value.bool false, Value.bool false, Value.bool false, Value.bool false, Value.bool false, Value.bool false, Value.bool false, Value.bool false, Value.bool false, Value.bool false, Value.bool false, Value.bool false, Value.bool false, Value.bool false, Value.bool false, Value.bool false, Value.bool false, Value.bool false, Value.bool false, Value.bool false, Value.bool false, Value.bool false, Value.bool false, Value.bool false, Value.bool false, Value.bool false, Value.bool false, Value.bool false, Value.bool false, Value.bool false, Value.bool false, Value.bool false, Value.bool false, Value.bool false, Value.bool false, Value.bool false, Value.bool false, Value.bool false, Value.bool false, Value.bool false, Value.bool false, Value.bool false, Value.bool false, Value.bool false, Value.bool false] ∧ CallKind.normal = CallKind.normal ∧ TodoOk (ren 1 [(1, 1), (2, 2)]) mrT mrT ∧ (0 : Int) = (0 : Int) ∧ (0 : Int) = (0 : Int) ∧ ty = ty ∧ cs = cs ∧ (49 : TypeId) = (49 : Nat) ∧ off = off ∧ n = n ∧ len = len ∧ (120 : TypeId) = (120 : Nat) ∧ #[Value.bool false, Value.bool false, Value.bool false, Value.bool false, Value.bool false, Value.bool false, Value.bool false, Value.bool false, Value.bool false, Value.bool false, Value.bool false, Value.bool false, Value.bool false, Value.bool false, Value.bool false, Value.bool false, Value.bool false, Value.bool false, Value.bool false, Value.bool false, Value.bool false, Value.bool false, Value.bool false, Value.bool false, Value.bool false, Value.bool false, Value.bool false, Value.bool false, Value.bool false, Value.bool false, Value.bool false, Value.bool false, Value.bool false, Value.bool false, Value.bool false, Value.bool false, Value.bool false, Value.bool false, Value.bool false, Value.bool false, Value.bool false, Value.bool false, Value.bool false, Value.bool false, Value.bool false, Value.bool false, Value.bool false, Value.bool false, Value.bool false, Value.bool false, Value.bool false, Value.bool false, Value.bool false, Value.bool false, Value.bool false, Value.bool false, Value.bool false, Value.bool false, Value.bool false, Value.bool false, Value.bool false, Value.bool false, Value.bool false, Value.bool false] = #[Value.bool false, Value.bool false, Value.bool false, Value.bool false, Value.bool false, Value.bool false, Value.bool false, Value.bool false, Value.bool false, Value.bool false, Value.bool false, Value.bool false, Value.bool false, Value.bool false, Value.bool false, Value.bool false, Value.bool false, Value.bool false, Value.bool false, Value.bool false, Value.bool false, Value.bool false, Value.bool false, Value.bool false, Value.bool false, Value.bool false, Value.bool false, Value.bool false, Value.bool false, Value.bool false, Value.bool false, Value.bool false, Value.bool false, Value.bool false, Value.bool false, Value.bool false, Value.bool false, Value.bool false, Value.bool false, Value.bool false, Value.bool false, Value.bool false, Value.bool false, Value.bool false, Value.bool false, Value.bool false, Value.bool false, Value.bool false, Value.bool false, Value.bool false, Value.bool false, Value.bool false, Value.bool false, Value.bool false, Value.bool false, Value.bool false, Value.bool false, Value.bool false, Value.bool false, Value.bool false, Value.bool false, Value.bool false, Value.bool false, Value.bool false] ∧ True) := by kernel_rfl
theorem mr_step (off n : Nat) (len : Int) (cs : Array Value) (ty : TypeId) (s i : Int) (bs : Array Value) (r : Bool) (Q : Int → Int → Array Value → Prop) (Q2 : Int → Int → Int → Int → Int → Array Value → Prop) : (mrS off n len cs ty s i bs).vc (boolR r) (mrA false off n len cs ty Q Q2) =
    ((decide (i < (↑n : Int)) = true → (((0 : Int) ≤ i ∧ i < (↑n : Int)) ∧ True) ∧ (IsInt IntKind.i64 cs (off + Int.toNat i * 2) ∧ True) ∧ (((0 : Int) ≤ i ∧ i < (↑n : Int)) ∧ True) ∧ (IsInt IntKind.i64 cs (off + Int.toNat i * 2 + 1) ∧ True) ∧ ((decide (intAt cs (off + Int.toNat i * 2 + 1) < (1 : Int)) == false) = true → ((decide (intAt cs (off + Int.toNat i * 2 + 1) > (64 : Int)) == false) = true → ((decide (intAt cs (off + Int.toNat i * 2) < (0 : Int)) == false) = true → ((decide (intAt cs (off + Int.toNat i * 2) > (63 : Int)) == false) = true → (decide (ari BinOp.add IntKind.i64 (intAt cs (off + Int.toNat i * 2)) (intAt cs (off + Int.toNat i * 2 + 1)) > (64 : Int)) = true → false = r) ∧ (decide (ari BinOp.add IntKind.i64 (intAt cs (off + Int.toNat i * 2)) (intAt cs (off + Int.toNat i * 2 + 1)) > (64 : Int)) = false → Q2 s i (intAt cs (off + Int.toNat i * 2)) (intAt cs (off + Int.toNat i * 2 + 1)) (intAt cs (off + Int.toNat i * 2)) bs ∧ CallKind.normal = CallKind.normal ∧ TodoOk (ren 1 [(1, 1), (2, 2)]) mqT mqT ∧ intAt cs (off + Int.toNat i * 2 + 1) = intAt cs (off + Int.toNat i * 2 + 1) ∧ i = i ∧ s = s ∧ intAt cs (off + Int.toNat i * 2) = intAt cs (off + Int.toNat i * 2) ∧ intAt cs (off + Int.toNat i * 2) = intAt cs (off + Int.toNat i * 2) ∧ ty = ty ∧ cs = cs ∧ (49 : TypeId) = (49 : TypeId) ∧ off = off ∧ n = n ∧ len = len ∧ (120 : TypeId) = (120 : TypeId) ∧ bs = bs ∧ True)) ∧ ((decide (intAt cs (off + Int.toNat i * 2) > (63 : Int)) == false) = false → false = r)) ∧ ((decide (intAt cs (off + Int.toNat i * 2) < (0 : Int)) == false) = false → false = r)) ∧ ((decide (intAt cs (off + Int.toNat i * 2 + 1) > (64 : Int)) == false) = false → false = r)) ∧ ((decide (intAt cs (off + Int.toNat i * 2 + 1) < (1 : Int)) == false) = false → false = r)) ∧ (decide (i < (↑n : Int)) = false → ((decide (len ≥ (0 : Int)) == true) = true → decide (len ≤ ari BinOp.mul IntKind.i64 (32 : Int) s) = r) ∧ ((decide (len ≥ (0 : Int)) == true) = false → false = r))) := by kernel_rfl
theorem mq_step (off n : Nat) (len : Int) (cs : Array Value) (ty : TypeId) (s i a k p : Int) (bs : Array Value) (r : Bool) (Q : Int → Int → Array Value → Prop) (Q2 : Int → Int → Int → Int → Int → Array Value → Prop) : (mqS off n len cs ty s i a k p bs).vc (boolR r) (mrA true off n len cs ty Q Q2) =
    ((decide (p < ari BinOp.add IntKind.i64 a k) = true → (((0 : Int) ≤ p ∧ p < (64 : Int)) ∧ True) ∧ (IsBool bs ((0 : Nat) + Int.toNat p * 1) ∧ True) ∧ (boolAt bs ((0 : Nat) + Int.toNat p * 1) = true → false = r) ∧ (boolAt bs ((0 : Nat) + Int.toNat p * 1) = false → (((0 : Int) ≤ p ∧ p < (64 : Int)) ∧ True) ∧ ((0 : Nat) + Int.toNat p * 1 < Array.size bs ∧ True) ∧ Q2 s i a k (ari BinOp.add IntKind.i64 p (1 : Int)) (Array.setIfInBounds bs ((0 : Nat) + Int.toNat p * 1) (Value.bool true)) ∧ CallKind.normal = CallKind.normal ∧ TodoOk (ren 1 [(1, 1), (2, 2)]) mqH mqH ∧ k = k ∧ i = i ∧ s = s ∧ ari BinOp.add IntKind.i64 p (1 : Int) = ari BinOp.add IntKind.i64 p (1 : Int) ∧ a = a ∧ ty = ty ∧ cs = cs ∧ (49 : TypeId) = (49 : TypeId) ∧ off = off ∧ n = n ∧ len = len ∧ (120 : TypeId) = (120 : TypeId) ∧ Array.setIfInBounds bs ((0 : Nat) + Int.toNat p * 1) (Value.bool true) = Array.setIfInBounds bs ((0 : Nat) + Int.toNat p * 1) (Value.bool true) ∧ True)) ∧ (decide (p < ari BinOp.add IntKind.i64 a k) = false → Q (ari BinOp.add IntKind.i64 s k) (ari BinOp.add IntKind.i64 i (1 : Int)) bs ∧ CallKind.normal = CallKind.normal ∧ TodoOk (ren 1 [(1, 1), (2, 2)]) mrH mrH ∧ ari BinOp.add IntKind.i64 i (1 : Int) = ari BinOp.add IntKind.i64 i (1 : Int) ∧ ari BinOp.add IntKind.i64 s k = ari BinOp.add IntKind.i64 s k ∧ ty = ty ∧ cs = cs ∧ (49 : TypeId) = (49 : TypeId) ∧ off = off ∧ n = n ∧ len = len ∧ (120 : TypeId) = (120 : TypeId) ∧ bs = bs ∧ True)) := by kernel_rfl
end Go.Proofs.YtjjeahnbppmigaaDoor
/- Of extent: the document's May: what it answers. No condition. -/
namespace Go.Proofs.YtjjeahnbppmigaaDoor
set_option linter.unusedSectionVars false
variable [Gh]
set_option maxRecDepth 100000
omit [Gh] in
theorem mrT_ok : TodoOk (ren 1 [(1, 1), (2, 2)]) mrT mrT := TodoOk.same (by kernel_rfl)
omit [Gh] in
theorem mrH_ok : TodoOk (ren 1 [(1, 1), (2, 2)]) mrH mrH := TodoOk.same (by kernel_rfl)
omit [Gh] in
theorem mqT_ok : TodoOk (ren 1 [(1, 1), (2, 2)]) mqT mqT := TodoOk.same (by kernel_rfl)
omit [Gh] in
theorem mqH_ok : TodoOk (ren 1 [(1, 1), (2, 2)]) mqH mqH := TodoOk.same (by kernel_rfl)
section
variable {h : Bool} {off n : Nat} {len : Int} {cs : Array Value} {ty : TypeId} {A : SV → SMem → Prop} {fs : List SFr} {m : SMem}
theorem mrN_good {Q : Int → Int → Array Value → Prop} (H : ∀ s i bs, Q s i bs → Good Tryd.prog A 1 (headF (mrF s i)) (mrM off n len cs ty bs)) (hb : mrN h off n len cs ty Q fs m) : Good Tryd.prog A 1 fs m := by
  unfold mrN at hb
  split at hb
  · split at hb
    · split at hb
      · exact hF_good hb.2 (H _ _ _ hb.1)
      · exact hb.elim
    · exact hb.elim
  · exact hb.elim
theorem mqN_good {Q : Int → Int → Int → Int → Int → Array Value → Prop} (H : ∀ s i a k p bs, Q s i a k p bs → Good Tryd.prog A 1 (headF (mqF s i a k p)) (mrM off n len cs ty bs)) (hb : mqN h off n len cs ty Q fs m) : Good Tryd.prog A 1 fs m := by
  unfold mqN at hb
  split at hb
  · split at hb
    · split at hb
      · split at hb
        · exact hF_good hb.2 (H _ _ _ _ _ _ hb.1)
        · exact hb.elim
      · exact hb.elim
    · exact hb.elim
  · exact hb.elim
theorem mrA_good {Q : Int → Int → Array Value → Prop} {Q2 : Int → Int → Int → Int → Int → Array Value → Prop} (H : ∀ s i bs, Q s i bs → Good Tryd.prog A 1 (headF (mrF s i)) (mrM off n len cs ty bs))
    (H2 : ∀ s i a k p bs, Q2 s i a k p bs → Good Tryd.prog A 1 (headF (mqF s i a k p)) (mrM off n len cs ty bs)) (hb : mrA h off n len cs ty Q Q2 fs m) : Good Tryd.prog A 1 fs m := by
  unfold mrA at hb
  split at hb
  · exact mqN_good H2 hb
  · exact mrN_good H hb
end
omit [Gh] in
def TkB (bs : Array Value) (X : BitVec 64) (a p : Nat) : Prop := bs.size = 64 ∧ ∀ q, q < 64 → bs[q]? = some (.bool (!X.getLsbD q || decide (a ≤ q ∧ q < p)))
omit [Gh] in
theorem bool_at {bs : Array Value} {q : Nat} {b : Bool} (h : bs[q]? = some (.bool b)) : boolAt bs q = b ∧ IsBool bs q := by
  have e : boolAt bs q = b := by unfold boolAt; rw [h]
  refine ⟨e, ?_⟩
  unfold IsBool
  rw [e]
  exact h
omit [Gh] in
theorem tkB_start {bs : Array Value} {X : BitVec 64} (a : Nat) (h : TkB bs X 0 0) : TkB bs X a a := ⟨h.1, fun q hq => by
  rw [h.2 q hq, decide_eq_false (by omega), decide_eq_false (by omega)]⟩
omit [Gh] in
theorem tkB_step {bs : Array Value} {X : BitVec 64} {a p : Nat} (h : TkB bs X a p) (ha : a ≤ p) (hp : p < 64) : TkB (bs.setIfInBounds p (.bool true)) X a (p + 1) := ⟨by rw [Array.size_setIfInBounds]; exact h.1, fun q hq => by
  have hs := h.1
  by_cases e : p = q
  · subst e
    rw [Array.getElem?_setIfInBounds_self_of_lt (by omega), decide_eq_true (by omega), Bool.or_true]
  · rw [Array.getElem?_setIfInBounds_ne e, h.2 q hq]
    rw [show decide (a ≤ q ∧ q < p + 1) = decide (a ≤ q ∧ q < p) from decide_eq_decide.2 (by omega)]⟩
omit [Gh] in
theorem takeW_bit {X : BitVec 64} {p n : Int} (h : takeOk X p n = true) (q : Nat) (hq : q < 64) : (takeW X p n).getLsbD q = (X.getLsbD q && !decide (p.toNat ≤ q ∧ q < p.toNat + n.toNat)) := by
  have hm := takeOk_may h
  unfold takeW
  rw [if_pos h, BitVec.getLsbD_and, BitVec.getLsbD_not, spanW_bit _ _ _ (by omega), decide_eq_true hq, Bool.true_and]
omit [Gh] in
theorem tkB_done {bs : Array Value} {X : BitVec 64} {p n : Int} (h : TkB bs X p.toNat (p.toNat + n.toNat)) (hk : takeOk X p n = true) : TkB bs (takeW X p n) 0 0 := ⟨h.1, fun q hq => by
  rw [h.2 q hq, takeW_bit hk q hq, decide_eq_false (show ¬ (0 ≤ q ∧ q < 0) by omega), Bool.or_false]
  cases X.getLsbD q <;> simp⟩
section
variable {off n : Nat} {cs : Array Value} (ty : TypeId) (len : Int) (h : PrOk cs off n)
include h
theorem mq_round {i : Nat} (hi : i < n) (hk : tkOk cs off i = true) (hm : mayB (at0 cs off i) (nn0 cs off i) = true)
    (ih : ∀ bs, tkOk cs off (i + 1) = true → TkB bs (tkW cs off (i + 1)) 0 0 → Good Tryd.prog (boolR (mayE cs off n len)) 1 (headF (mrF (sumN cs off (i + 1)) ((i + 1 : Nat) : Int))) (mrM off n len cs ty bs)) :
    ∀ (k p : Nat) (bs : Array Value), p + k = (at0 cs off i).toNat + (nn0 cs off i).toNat → (at0 cs off i).toNat ≤ p → TkB bs (tkW cs off i) (at0 cs off i).toNat p → (∀ q, (at0 cs off i).toNat ≤ q → q < p → (tkW cs off i).getLsbD q = true) →
      Good Tryd.prog (boolR (mayE cs off n len)) 1 (headF (mqF (sumN cs off i) i (at0 cs off i) (nn0 cs off i) p)) (mrM off n len cs ty bs) := by
  have hm' := mayB_iff.1 hm
  have hsm := tkOk_small hk
  have hsum := sumN_le hsm i (Nat.le_refl _)
  have hle := h.le
  have hN := next80 hi hle
  have eA : ari .add .i64 (at0 cs off i) (nn0 cs off i) = at0 cs off i + nn0 cs off i := by rw [ari_add, i64w (by omega)]
  have eS : ari .add .i64 (sumN cs off i) (nn0 cs off i) = sumN cs off (i + 1) := by rw [ari_add, i64w (by omega)]; rfl
  intro k
  induction k with
  | zero =>
    intro p bs hp hap hT hb
    have hok : takeOk (tkW cs off i) (at0 cs off i) (nn0 cs off i) = true := by
      unfold takeOk
      rw [hm, Bool.true_and, allIn_iff (by omega)]
      exact fun q h1 h2 => hb q h1 (by omega)
    have hk' : tkOk cs off (i + 1) = true := by unfold tkOk; rw [hk, hok]; rfl
    have hT' : TkB bs (tkW cs off (i + 1)) 0 0 := tkB_done (by rw [show (at0 cs off i).toNat + (nn0 cs off i).toNat = p by omega]; exact hT) hok
    refine past_vc EX_ok 1000 (mq_step off n len cs ty (sumN cs off i) i (at0 cs off i) (nn0 cs off i) p bs (mayE cs off n len) (fun s' i' bs' => s' = sumN cs off (i + 1) ∧ i' = ((i + 1 : Nat) : Int) ∧ bs' = bs) (fun _ _ _ _ _ _ => False)) ?_ (fun _ _ h => h)
      (fun fs m hb => mrA_good (fun s' i' bs' ⟨e1, e2, e3⟩ => by rw [e1, e2, e3]; exact ih bs hk' hT') (fun _ _ _ _ _ _ h => h.elim) hb)
    refine ⟨fun hd => ?_, fun _ => ?_⟩
    · have := of_decide_eq_true hd
      rw [eA] at this
      omega
    · rw [eS, hN]
      repeat' first | exact trivial | exact mrH_ok | exact rfl | apply And.intro
  | succ k ihk =>
    intro p bs hp hap hT hb
    have hp64 : p < 64 := by omega
    have hbit := bool_at (hT.2 p hp64)
    rw [decide_eq_false (by omega), Bool.or_false] at hbit
    have eP : ari .add .i64 (p : Int) 1 = ((p + 1 : Nat) : Int) := by rw [ari_add, i64w (by omega)]; omega
    refine past_vc EX_ok 1000 (mq_step off n len cs ty (sumN cs off i) i (at0 cs off i) (nn0 cs off i) p bs (mayE cs off n len) (fun _ _ _ => False)
      (fun s' i' a' k' p' bs' => s' = sumN cs off i ∧ i' = (i : Int) ∧ a' = at0 cs off i ∧ k' = nn0 cs off i ∧ p' = ((p + 1 : Nat) : Int) ∧ bs' = bs.setIfInBounds p (.bool true) ∧ (tkW cs off i).getLsbD p = true)) ?_ (fun _ _ h => h)
      (fun fs m hb' => mrA_good (fun _ _ _ h => h.elim) (fun s' i' a' k' p' bs' ⟨e1, e2, e3, e4, e5, e6, e7⟩ => by
        rw [e1, e2, e3, e4, e5, e6]
        exact ihk (p + 1) _ (by omega) (by omega) (tkB_step hT hap hp64) fun q h1 h2 => by
          by_cases e : q = p
          · rw [e]; exact e7
          · exact hb q h1 (by omega)) hb')
    have hs := hT.1
    refine ⟨fun _ => ?_, fun hd => ?_⟩
    · simp only [Int.toNat_natCast, Nat.zero_add, Nat.mul_one, eP, hbit.1]
      refine ⟨⟨⟨by omega, by omega⟩, trivial⟩, ⟨hbit.2, trivial⟩, fun hf => ?_, fun ht => ⟨⟨⟨by omega, by omega⟩, trivial⟩, ⟨by omega, trivial⟩, ?_⟩⟩
      · have hf : (tkW cs off i).getLsbD p = false := by simpa using hf
        cases e : mayE cs off n len with
        | false => rfl
        | true =>
          have := tkOk_one (mayE_iff.1 e).1 hi
          unfold takeOk at this
          rw [hm, Bool.true_and, allIn_iff (by omega)] at this
          have := this p hap (by omega)
          rw [hf] at this
          cases this
      · have ht : (tkW cs off i).getLsbD p = true := by simpa using ht
        repeat' first | exact trivial | exact ht | exact mqH_ok | exact rfl | apply And.intro
    · have := of_decide_eq_false hd
      rw [eA] at this
      omega
theorem mr_round : ∀ (k i : Nat) (bs : Array Value), i + k = n → tkOk cs off i = true → TkB bs (tkW cs off i) 0 0 → Good Tryd.prog (boolR (mayE cs off n len)) 1 (headF (mrF (sumN cs off i) i)) (mrM off n len cs ty bs) := by
  intro k
  induction k with
  | zero =>
    intro i bs hi hk hT
    obtain rfl : i = n := by omega
    have hs := tkOk_small hk
    have hsum := sumN_le hs i (Nat.le_refl _)
    have hle := h.le
    refine past_vc EX_ok 1000 (mr_step off i len cs ty (sumN cs off i) i bs (mayE cs off i len) (fun _ _ _ => False) (fun _ _ _ _ _ _ => False)) ?_ (fun _ _ h => h)
      (fun fs m hb => mrA_good (fun _ _ _ h => h.elim) (fun _ _ _ _ _ _ h => h.elim) hb)
    refine ⟨fun hd => ?_, fun _ => ⟨fun hl => ?_, fun hl => ?_⟩⟩
    · have := of_decide_eq_true hd
      omega
    · have hl : 0 ≤ len := by simpa using hl
      rw [ari_mul, i64w (by omega)]
      unfold mayE
      rw [hk, Bool.true_and, decide_eq_true hl, Bool.true_and]
    · have hl : ¬ 0 ≤ len := by simpa using hl
      unfold mayE
      rw [decide_eq_false hl, Bool.false_and, Bool.and_false]
  | succ k ih =>
    intro i bs hi hk hT
    have hi' : i < n := by omega
    have hno : mayB (at0 cs off i) (nn0 cs off i) = false → false = mayE cs off n len := fun hf => by
      cases e : mayE cs off n len with
      | false => rfl
      | true =>
        have := tkOk_one (mayE_iff.1 e).1 hi'
        unfold takeOk at this
        rw [hf] at this
        cases this
    refine past_vc EX_ok 1000 (mr_step off n len cs ty (sumN cs off i) i bs (mayE cs off n len) (fun _ _ _ => False)
      (fun s' i' a' k' p' bs' => s' = sumN cs off i ∧ i' = (i : Int) ∧ a' = at0 cs off i ∧ k' = nn0 cs off i ∧ p' = (((at0 cs off i).toNat : Nat) : Int) ∧ bs' = bs ∧ mayB (at0 cs off i) (nn0 cs off i) = true)) ?_ (fun _ _ h => h)
      (fun fs m hb' => mrA_good (fun _ _ _ h => h.elim) (fun s' i' a' k' p' bs' ⟨e1, e2, e3, e4, e5, e6, e7⟩ => by
        rw [e1, e2, e3, e4, e5, e6]
        exact mq_round ty len h hi' hk e7 (fun bs h1 h2 => ih (i + 1) bs (by omega) h1 h2) (nn0 cs off i).toNat _ bs rfl (Nat.le_refl _) (tkB_start _ hT) fun q h1 h2 => by omega) hb')
    have hij : ((0 : Int) ≤ (i : Int) ∧ (i : Int) < (n : Int)) ∧ True := ⟨⟨by omega, by omega⟩, trivial⟩
    refine ⟨fun _ => ?_, fun hd => ?_⟩
    · have ea : intAt cs (off + i * 2) = at0 cs off i := rfl
      have eb : intAt cs (off + i * 2 + 1) = nn0 cs off i := rfl
      simp only [Int.toNat_natCast, ea, eb]
      refine ⟨hij, ⟨h.a i hi', trivial⟩, hij, ⟨h.b i hi', trivial⟩, fun c1 => ⟨fun c2 => ⟨fun c3 => ⟨fun c4 => ⟨fun c5 => ?_, fun c5 => ?_⟩, fun c4 => ?_⟩, fun c3 => ?_⟩, fun c2 => ?_⟩, fun c1 => ?_⟩
      all_goals simp only [beq_eq_false_iff_ne, beq_iff_eq, decide_eq_true_eq, decide_eq_false_iff_not, ne_eq, Bool.not_eq_true, Bool.not_eq_false, decide_eq_true_eq] at *
      · refine hno ?_
        rw [ari_add, i64w (by omega)] at c5
        cases e : mayB (at0 cs off i) (nn0 cs off i) with
        | false => rfl
        | true => have := mayB_iff.1 e; omega
      · rw [ari_add, i64w (by omega)] at c5
        have hm : mayB (at0 cs off i) (nn0 cs off i) = true := mayB_iff.2 (by omega)
        have e0 : at0 cs off i = (((at0 cs off i).toNat : Nat) : Int) := by omega
        repeat' first | exact trivial | exact hm | exact e0 | exact mqT_ok | exact rfl | apply And.intro
      all_goals
        refine hno ?_
        cases e : mayB (at0 cs off i) (nn0 cs off i) with
        | false => rfl
        | true => have := mayB_iff.1 e; omega
    · have := of_decide_eq_false hd
      omega
theorem mr_good : Good Tryd.prog (boolR (mayE cs off n len)) 1 (mrC off n len) (rwM true cs ty) := by
  refine run_vc EX_ok 1000 (mr_start off n len cs ty (mayE cs off n len) (fun s i bs => s = sumN cs off 0 ∧ i = ((0 : Nat) : Int) ∧ TkB bs (tkW cs off 0) 0 0)) ?_ (fun _ _ h => h)
    (fun fs m hb => mrN_good (fun s i bs ⟨e1, e2, e3⟩ => by rw [e1, e2]; exact mr_round ty len h n 0 bs (by omega) rfl e3) hb)
  have hT : TkB #[Value.bool false, Value.bool false, Value.bool false, Value.bool false, Value.bool false, Value.bool false, Value.bool false, Value.bool false, Value.bool false, Value.bool false, Value.bool false, Value.bool false, Value.bool false, Value.bool false, Value.bool false, Value.bool false, Value.bool false, Value.bool false, Value.bool false, Value.bool false, Value.bool false, Value.bool false, Value.bool false, Value.bool false, Value.bool false, Value.bool false, Value.bool false, Value.bool false, Value.bool false, Value.bool false, Value.bool false, Value.bool false, Value.bool false, Value.bool false, Value.bool false, Value.bool false, Value.bool false, Value.bool false, Value.bool false, Value.bool false, Value.bool false, Value.bool false, Value.bool false, Value.bool false, Value.bool false, Value.bool false, Value.bool false, Value.bool false, Value.bool false, Value.bool false, Value.bool false, Value.bool false, Value.bool false, Value.bool false, Value.bool false, Value.bool false, Value.bool false, Value.bool false, Value.bool false, Value.bool false, Value.bool false, Value.bool false, Value.bool false, Value.bool false] (tkW cs off 0) 0 0 := by
    refine ⟨rfl, fun q hq => ?_⟩
    have e : (tkW cs off 0).getLsbD q = true := by
      unfold tkW
      rw [BitVec.getLsbD_allOnes, decide_eq_true hq]
    rw [e, decide_eq_false (by omega)]
    exact (show ∀ q : Fin 64, (Array.replicate 64 (Value.bool false))[q.val]? = some (Value.bool (!true || false)) from fun q => by simp) ⟨q, hq⟩
  repeat' first | exact trivial | exact hT | exact mrT_ok | exact rfl | apply And.intro
end
theorem mr_con {m : SMem} {i : Nat} {o n : SN} {cap : SK} {x : SI} {cs : Array Value} (hr : rowV m i = some (true, cs)) :
    Con E0 42 [.s (.agg (.ls [.f (.slice i o n cap), .f (.int .i64 x)]))] m (needs [PrOk cs o.den n.den] (.ret (sB (.o (mayE cs o.den n.den x.den))) m)) :=
  Con.ext (r' := []) (by kernel_rfl : E0.fn 42 = some Tryd.f42) (by kernel_rfl : Tryd.f42.body = some (Tryd.f42.body.getD .skip)) hr (fun _ _ vs h => match vs, h with | [], _ => trivial) (A := boolR (mayE cs o.den n.den x.den))
    (fun ty hq => mr_good ty x.den (hq _ (by simp))) (fun _ _ _ _ _ => boolR_ok)
end Go.Proofs.YtjjeahnbppmigaaDoor
/- Of extent: Same: its loop's states. No condition. -/
namespace Go.Proofs.YtjjeahnbppmigaaDoor
noncomputable section
def sl1 (off n : Nat) : SF := .slice 1 (.o off) (.o n) .any
def ex1S (off n : Nat) (len : Int) : SV := .s (.agg (.ls [.f (sl1 off n), .f (.int .i64 (.o len))]))
def smM0 (v : Bool) (cs ds : Array Value) (ty tz : TypeId) : SMem := ⟨2, ((Tr.nil : Tr SBlk).set 0 (some ⟨.pop cs, ty, false⟩)).set 1 (some ⟨rwA v ds, tz, false⟩), []⟩
def smC (off n : Nat) (L : Int) (off' n' : Nat) (L' : Int) : List SFr := [callFr 31 Tryd.f31.ntmps [extS off n L, ex1S off' n' L'] (Tryd.f31.body.getD .skip)]
def smR (v : Bool) (off n : Nat) (L : Int) (off' n' : Nat) (L' : Int) (cs ds : Array Value) (ty tz : TypeId) : Tree := run EX 1000 2 (smC off n L off' n' L') (smM0 v cs ds ty tz)
def smF (i : Int) : List SFr := reTm [tmOf Tryd.f31.ntmps [(2, ptr 2 (.l 0)), (3, ptr 3 (.l 0)), (5, i64 (.o i))]] ((smR true 0 0 0 0 0 0 #[] #[] 0 0).fsAt 4)
def smM (v : Bool) (off n : Nat) (L : Int) (off' n' : Nat) (L' : Int) (cs ds : Array Value) (ty tz : TypeId) : SMem :=
  ⟨4, ((((Tr.nil : Tr SBlk).set 0 (some ⟨.pop cs, ty, false⟩)).set 1 (some ⟨rwA v ds, tz, false⟩)).set 2 (some ⟨.ls [.f (sl0 off n), .f (.int .i64 (.o L))], 35, true⟩)).set 3 (some ⟨.ls [.f (sl1 off' n'), .f (.int .i64 (.o L'))], 49, true⟩), []⟩
def smS (v : Bool) (off n : Nat) (L : Int) (off' n' : Nat) (L' : Int) (cs ds : Array Value) (ty tz : TypeId) (i : Int) : Tree := stepT EX.go (run EX 1000) 2 (headF (smF i)) (smM v off n L off' n' L' cs ds ty tz)
def smN (h v : Bool) (off n : Nat) (L : Int) (off' n' : Nat) (L' : Int) (cs ds : Array Value) (ty tz : TypeId) (Q : Int → Prop) (fs : List SFr) (m : SMem) : Prop := match fs with
  | f :: _ => match rdI f 5, rdP f 2, rdP f 3 with
    | some i, some p, some q => Q i ∧ subOk 2 [(2, p), (3, q)] (hF h (smF i)) (smM v off n L off' n' L' cs ds ty tz) fs m
    | _, _, _ => False
  | [] => False
def smT : List SIt := headTd (smF 0)
def smH : List SIt := headTd (headF (smF 0))
end
end Go.Proofs.YtjjeahnbppmigaaDoor
/- Of extent: Same: its loop's rounds, as propositions. No condition. -/
namespace Go.Proofs.YtjjeahnbppmigaaDoor
set_option maxRecDepth 100000
theorem sm_start_r (off n : Nat) (L : Int) (off' n' : Nat) (L' : Int) (cs ds : Array Value) (ty tz : TypeId) (Q : Int → Prop) : (smR true off n L off' n' L' cs ds ty tz).vc (boolR true) (smN false true off n L off' n' L' cs ds ty tz Q) =
    (((((↑n : Int) != (↑n' : Int)) == false) = true → ((L != L') = true → false = true) ∧ ((L != L') = false → Q (0 : Int) ∧ CallKind.normal = CallKind.normal ∧ TodoOk (ren 2 [(2, 2), (3, 3)]) smT smT ∧ (0 : Int) = (0 : Int) ∧ ty = ty ∧ cs = cs ∧ tz = tz ∧ ds = ds ∧ (49 : TypeId) = (49 : Nat) ∧ off' = off' ∧ n' = n' ∧ L' = L' ∧ (35 : TypeId) = (35 : Nat) ∧ off = off ∧ n = n ∧ L = L ∧ True)) ∧ ((((↑n : Int) != (↑n' : Int)) == false) = false → false = true)) := by kernel_rfl
theorem sm_start_p (off n : Nat) (L : Int) (off' n' : Nat) (L' : Int) (cs ds : Array Value) (ty tz : TypeId) (Q : Int → Prop) : (smR false off n L off' n' L' cs ds ty tz).vc (boolR true) (smN false false off n L off' n' L' cs ds ty tz Q) =
    (((((↑n : Int) != (↑n' : Int)) == false) = true → ((L != L') = true → false = true) ∧ ((L != L') = false → Q (0 : Int) ∧ CallKind.normal = CallKind.normal ∧ TodoOk (ren 2 [(2, 2), (3, 3)]) smT smT ∧ (0 : Int) = (0 : Int) ∧ ty = ty ∧ cs = cs ∧ tz = tz ∧ ds = ds ∧ (49 : TypeId) = (49 : Nat) ∧ off' = off' ∧ n' = n' ∧ L' = L' ∧ (35 : TypeId) = (35 : Nat) ∧ off = off ∧ n = n ∧ L = L ∧ True)) ∧ ((((↑n : Int) != (↑n' : Int)) == false) = false → false = true)) := by kernel_rfl
theorem sm_step_r (off n : Nat) (L : Int) (off' n' : Nat) (L' : Int) (cs ds : Array Value) (ty tz : TypeId) (i : Int) (Q : Int → Prop) : (smS true off n L off' n' L' cs ds ty tz i).vc (boolR true) (smN true true off n L off' n' L' cs ds ty tz Q) =
    ((decide (i < (↑n : Int)) = true → (((0 : Int) ≤ i ∧ i < (↑n : Int)) ∧ True) ∧ (IsInt IntKind.i64 cs (off + Int.toNat i * 2) ∧ True) ∧ (((0 : Int) ≤ i ∧ i < (↑n' : Int)) ∧ True) ∧ (IsInt IntKind.i64 ds (off' + Int.toNat i * 2) ∧ True) ∧ (((intAt cs (off + Int.toNat i * 2) != intAt ds (off' + Int.toNat i * 2)) == false) = true → (((0 : Int) ≤ i ∧ i < (↑n : Int)) ∧ True) ∧ (IsInt IntKind.i64 cs (off + Int.toNat i * 2 + 1) ∧ True) ∧ (((0 : Int) ≤ i ∧ i < (↑n' : Int)) ∧ True) ∧ (IsInt IntKind.i64 ds (off' + Int.toNat i * 2 + 1) ∧ True) ∧ ((intAt cs (off + Int.toNat i * 2 + 1) != intAt ds (off' + Int.toNat i * 2 + 1)) = true → false = true) ∧ ((intAt cs (off + Int.toNat i * 2 + 1) != intAt ds (off' + Int.toNat i * 2 + 1)) = false → Q (ari BinOp.add IntKind.i64 i (1 : Int)) ∧ CallKind.normal = CallKind.normal ∧ TodoOk (ren 2 [(2, 2), (3, 3)]) smH smH ∧ ari BinOp.add IntKind.i64 i (1 : Int) = ari BinOp.add IntKind.i64 i (1 : Int) ∧ ty = ty ∧ cs = cs ∧ tz = tz ∧ ds = ds ∧ (49 : TypeId) = (49 : TypeId) ∧ off' = off' ∧ n' = n' ∧ L' = L' ∧ (35 : TypeId) = (35 : TypeId) ∧ off = off ∧ n = n ∧ L = L ∧ True)) ∧ (((intAt cs (off + Int.toNat i * 2) != intAt ds (off' + Int.toNat i * 2)) == false) = false → false = true)) ∧ (decide (i < (↑n : Int)) = false → true = true)) := by kernel_rfl
theorem sm_step_p (off n : Nat) (L : Int) (off' n' : Nat) (L' : Int) (cs ds : Array Value) (ty tz : TypeId) (i : Int) (Q : Int → Prop) : (smS false off n L off' n' L' cs ds ty tz i).vc (boolR true) (smN true false off n L off' n' L' cs ds ty tz Q) =
    ((decide (i < (↑n : Int)) = true → (((0 : Int) ≤ i ∧ i < (↑n : Int)) ∧ True) ∧ (IsInt IntKind.i64 cs (off + Int.toNat i * 2) ∧ True) ∧ (((0 : Int) ≤ i ∧ i < (↑n' : Int)) ∧ True) ∧ (IsInt IntKind.i64 ds (off' + Int.toNat i * 2) ∧ True) ∧ (((intAt cs (off + Int.toNat i * 2) != intAt ds (off' + Int.toNat i * 2)) == false) = true → (((0 : Int) ≤ i ∧ i < (↑n : Int)) ∧ True) ∧ (IsInt IntKind.i64 cs (off + Int.toNat i * 2 + 1) ∧ True) ∧ (((0 : Int) ≤ i ∧ i < (↑n' : Int)) ∧ True) ∧ (IsInt IntKind.i64 ds (off' + Int.toNat i * 2 + 1) ∧ True) ∧ ((intAt cs (off + Int.toNat i * 2 + 1) != intAt ds (off' + Int.toNat i * 2 + 1)) = true → false = true) ∧ ((intAt cs (off + Int.toNat i * 2 + 1) != intAt ds (off' + Int.toNat i * 2 + 1)) = false → Q (ari BinOp.add IntKind.i64 i (1 : Int)) ∧ CallKind.normal = CallKind.normal ∧ TodoOk (ren 2 [(2, 2), (3, 3)]) smH smH ∧ ari BinOp.add IntKind.i64 i (1 : Int) = ari BinOp.add IntKind.i64 i (1 : Int) ∧ ty = ty ∧ cs = cs ∧ tz = tz ∧ ds = ds ∧ (49 : TypeId) = (49 : TypeId) ∧ off' = off' ∧ n' = n' ∧ L' = L' ∧ (35 : TypeId) = (35 : TypeId) ∧ off = off ∧ n = n ∧ L = L ∧ True)) ∧ (((intAt cs (off + Int.toNat i * 2) != intAt ds (off' + Int.toNat i * 2)) == false) = false → false = true)) ∧ (decide (i < (↑n : Int)) = false → true = true)) := by kernel_rfl
end Go.Proofs.YtjjeahnbppmigaaDoor
/- Of extent: Same: extents that are alike. No condition. -/
namespace Go.Proofs.YtjjeahnbppmigaaDoor
set_option linter.unusedSectionVars false
variable [Gh]
set_option maxRecDepth 100000
omit [Gh] in
def EqR (cs : Array Value) (off : Nat) (ds : Array Value) (off' n : Nat) : Prop := n ≤ 81 ∧ ∀ i, i < n →
  IsInt .i64 cs (off + i * 2) ∧ IsInt .i64 cs (off + i * 2 + 1) ∧ IsInt .i64 ds (off' + i * 2) ∧ IsInt .i64 ds (off' + i * 2 + 1) ∧ intAt cs (off + i * 2) = intAt ds (off' + i * 2) ∧ intAt cs (off + i * 2 + 1) = intAt ds (off' + i * 2 + 1)
omit [Gh] in
theorem smT_ok : TodoOk (ren 2 [(2, 2), (3, 3)]) smT smT := TodoOk.same (by kernel_rfl)
omit [Gh] in
theorem smH_ok : TodoOk (ren 2 [(2, 2), (3, 3)]) smH smH := TodoOk.same (by kernel_rfl)
section
variable {v : Bool} {off n : Nat} {L : Int} {off' n' : Nat} {L' : Int} {cs ds : Array Value} {ty tz : TypeId}
omit [Gh] in
theorem sm_start_v (Q : Int → Prop) : (smR v off n L off' n' L' cs ds ty tz).vc (boolR true) (smN false v off n L off' n' L' cs ds ty tz Q) = (smR true off n L off' n' L' cs ds ty tz).vc (boolR true) (smN false true off n L off' n' L' cs ds ty tz Q) := by
  cases v with
  | true => rfl
  | false => exact (sm_start_p off n L off' n' L' cs ds ty tz Q).trans (sm_start_r off n L off' n' L' cs ds ty tz Q).symm
omit [Gh] in
theorem sm_step_v (i : Int) (Q : Int → Prop) : (smS v off n L off' n' L' cs ds ty tz i).vc (boolR true) (smN true v off n L off' n' L' cs ds ty tz Q) = (smS true off n L off' n' L' cs ds ty tz i).vc (boolR true) (smN true true off n L off' n' L' cs ds ty tz Q) := by
  cases v with
  | true => rfl
  | false => exact (sm_step_p off n L off' n' L' cs ds ty tz i Q).trans (sm_step_r off n L off' n' L' cs ds ty tz i Q).symm
theorem smN_good {h : Bool} {A : SV → SMem → Prop} {Q : Int → Prop} {fs : List SFr} {m : SMem} (H : ∀ i, Q i → Good Tryd.prog A 2 (headF (smF i)) (smM v off n L off' n' L' cs ds ty tz)) (hb : smN h v off n L off' n' L' cs ds ty tz Q fs m) : Good Tryd.prog A 2 fs m := by
  unfold smN at hb
  split at hb
  · split at hb
    · exact hF_good hb.2 (H _ hb.1)
    · exact hb.elim
  · exact hb.elim
end
omit [Gh] in
theorem next81 {i n : Nat} (h : i < n) (hn : n ≤ 81) : ari .add .i64 (i : Int) 1 = ((i + 1 : Nat) : Int) := by
  rw [ari_add, i64w (by omega)]
  omega
section
variable (v : Bool) {off n : Nat} (L : Int) {off' : Nat} {cs ds : Array Value} (ty tz : TypeId) (h : EqR cs off ds off' n)
include h
theorem sm_round : ∀ k i : Nat, i + k = n → Good Tryd.prog (boolR true) 2 (headF (smF i)) (smM v off n L off' n L cs ds ty tz) := by
  intro k
  induction k with
  | zero =>
    intro i hi
    obtain rfl : i = n := by omega
    refine past_vc EX_ok 1000 ((sm_step_v i (fun _ => False)).trans (sm_step_r off i L off' i L cs ds ty tz i _)) ?_ (fun _ _ h => h) (fun fs m hb => smN_good (fun _ h => h.elim) hb)
    refine ⟨fun hd => ?_, fun _ => rfl⟩
    have := of_decide_eq_true hd
    omega
  | succ k ih =>
    intro i hi
    have hi' : i < n := by omega
    obtain ⟨h1, h2, h3, h4, h5, h6⟩ := h.2 i hi'
    refine past_vc EX_ok 1000 ((sm_step_v i (fun i' => i' = ((i + 1 : Nat) : Int))).trans (sm_step_r off n L off' n L cs ds ty tz i _)) ?_ (fun _ _ h => h) (fun fs m hb => smN_good (fun i' e => by rw [e]; exact ih (i + 1) (by omega)) hb)
    have hN := next81 hi' h.1
    have hij : ((0 : Int) ≤ (i : Int) ∧ (i : Int) < (n : Int)) ∧ True := ⟨⟨by omega, by omega⟩, trivial⟩
    refine ⟨fun _ => ?_, fun hd => ?_⟩
    · simp only [Int.toNat_natCast, hN, h5, h6]
      have hTH := smH_ok
      refine ⟨hij, ⟨h1, trivial⟩, hij, ⟨h3, trivial⟩, fun _ => ⟨hij, ⟨h2, trivial⟩, hij, ⟨h4, trivial⟩, fun hd => ?_, fun _ => ?_⟩, fun hd => ?_⟩
      · simp at hd
      · repeat' first | exact hTH | exact trivial | exact rfl | apply And.intro
      · simp at hd
    · have := of_decide_eq_false hd
      omega
theorem sm_good : Good Tryd.prog (boolR true) 2 (smC off n L off' n L) (smM0 v cs ds ty tz) := by
  refine run_vc EX_ok 1000 ((sm_start_v (fun i => i = ((0 : Nat) : Int))).trans (sm_start_r off n L off' n L cs ds ty tz _)) ?_ (fun _ _ h => h)
    (fun fs m hb => smN_good (fun i e => by rw [e]; exact sm_round v L ty tz h n 0 (by omega)) hb)
  have hT := smT_ok
  refine ⟨fun _ => ⟨fun hd => ?_, fun _ => ?_⟩, fun hd => ?_⟩
  · simp at hd
  · repeat' first | exact hT | exact trivial | exact rfl | apply And.intro
  · simp at hd
end
omit [Gh] in
theorem smM0_get {v : Bool} {cs ds : Array Value} {ty tz : TypeId} {i : Nat} {b : SBlk} (h : getB (smM0 v cs ds ty tz).bl i = some b) : (i = 0 ∧ b = ⟨.pop cs, ty, false⟩) ∨ (i = 1 ∧ b = ⟨rwA v ds, tz, false⟩) := by
  have h : (((Tr.nil : Tr SBlk).set 0 (some ⟨.pop cs, ty, false⟩)).set 1 (some ⟨rwA v ds, tz, false⟩)).get i = some b := h
  rw [Tr.get_set] at h
  split at h
  · rename_i e; cases h; exact .inr ⟨e, rfl⟩
  · rw [Tr.get_set] at h
    split at h
    · rename_i e; cases h; exact .inl ⟨e, rfl⟩
    · rw [Tr.get_nil] at h; cases h
theorem sm_con {m : SMem} {i j : Nat} {v : Bool} {o n o' n' : SN} {c c' : SK} {x y : SI} {cs ds : Array Value} (hr : rowV m i = some (false, cs)) (hr' : rowV m j = some (v, ds)) :
    Con E0 31 [.s (.agg (.ls [.f (.slice i o n c), .f (.int .i64 x)])), .s (.agg (.ls [.f (.slice j o' n' c'), .f (.int .i64 y)]))] m (needs [n'.den = n.den, y.den = x.den, EqR cs o.den ds o'.den n.den] (.ret (sB (.l true)) m)) := by
  obtain ⟨ty, wr, hb⟩ := rowV_of hr
  obtain ⟨tz, wr', hb'⟩ := rowV_of hr'
  refine Con.ro E0_ok (l' := [extS o.den n.den x.den, ex1S o'.den n'.den y.den]) (ms := smM0 v cs ds ty tz) (A := boolR true) (by kernel_rfl : E0.fn 31 = some Tryd.f31) (by kernel_rfl : Tryd.f31.body = some (Tryd.f31.body.getD .skip)) rfl (fun k => if k = 0 then i else j) ?_ ?_ (fun hq => ?_) ?_
  · intro k b hk
    rcases smM0_get hk with ⟨rfl, rfl⟩ | ⟨rfl, rfl⟩
    · exact ⟨(show (0 : Nat) < 2 by decide), rfl, _, hb, rfl, fun R cs' h => h⟩
    · refine ⟨(show (1 : Nat) < 2 by decide), rfl, _, hb', rfl, fun R cs' h => ?_⟩
      cases v <;> exact h
  · intro R vs ha
    match vs, ha with
    | [u, w], ha =>
      obtain ⟨⟨ds, e, hd⟩, ⟨es, e', hd'⟩, _⟩ := ha
      refine ⟨⟨ds, e, ?_⟩, ⟨es, e', ?_⟩, trivial⟩
      · have hd : All2 (SC.ok R) [.f (.slice i o n c), .f (.int .i64 x)] ds.toList := hd
        show All2 (SC.ok _) [.f (sl0 o.den n.den), .f (.int .i64 (.o x.den))] ds.toList
        generalize ds.toList = L at hd ⊢
        match L, hd with
        | [a, b], hd =>
          obtain ⟨⟨gl, cp, e1, e2, e3, e4⟩, hb2, _⟩ := hd
          exact ⟨⟨gl, cp, by unfold pull; exact e1, e2, trivial, e4⟩, hb2, trivial⟩
      · have hd' : All2 (SC.ok R) [.f (.slice j o' n' c'), .f (.int .i64 y)] es.toList := hd'
        show All2 (SC.ok _) [.f (sl1 o'.den n'.den), .f (.int .i64 (.o y.den))] es.toList
        generalize es.toList = L at hd' ⊢
        match L, hd' with
        | [a, b], hd' =>
          obtain ⟨⟨gl, cp, e1, e2, e3, e4⟩, hb2, _⟩ := hd'
          exact ⟨⟨gl, cp, by unfold pull; exact e1, e2, trivial, e4⟩, hb2, trivial⟩
  · have e1 : n'.den = n.den := hq _ (by simp)
    have e2 : y.den = x.den := hq _ (by simp)
    have e3 : EqR cs o.den ds o'.den n.den := hq _ (by simp)
    rw [e1, e2]
    exact sm_good v x.den ty tz e3
  · intro s m' R R' u h hv
    unfold boolR at h
    split at h
    · have hv : u = .bool _ := hv
      rw [hv, h]; rfl
    · exact h.elim
end Go.Proofs.YtjjeahnbppmigaaDoor
/- Of extents: the document's May and Same, of slices that are empty. -/
namespace Go.Proofs.YtjjeahnbppmigaaDoor
set_option maxRecDepth 100000
theorem mr0_vc (L : Int) (r : Bool) : (run E0 1000 0 [callFr 42 Tryd.f42.ntmps [.s (.agg (.ls [.f .e0, .f (.int .i64 (.o L))]))] (Tryd.f42.body.getD .skip)] e0M).vc (boolR r) (fun _ _ => False) =
    (((decide (L ≥ (0 : Int)) == true) = true → decide (L ≤ (0 : Int)) = r) ∧ ((decide (L ≥ (0 : Int)) == true) = false → false = r)) := by kernel_rfl
theorem sm0_vc (L : Int) : (run E0 1000 0 [callFr 31 Tryd.f31.ntmps [.s (.agg (.ls [.f (.lit (.slice none 0 0)), .f (.int .i64 (.o L))])), .s (.agg (.ls [.f .e0, .f (.int .i64 (.o L))]))] (Tryd.f31.body.getD .skip)] e0M).vc (boolR true) (fun _ _ => False) =
    (((L != L) = true → false = true) ∧ ((L != L) = false → true = true)) := by kernel_rfl
end Go.Proofs.YtjjeahnbppmigaaDoor
/- Of tables: the document's May and Same as contracts of slices in cells. No condition. -/
namespace Go.Proofs.YtjjeahnbppmigaaDoor
set_option linter.unusedSectionVars false
variable [Gh]
set_option maxRecDepth 100000
set_option linter.unusedVariables false
omit [Gh] in
theorem may_ext {cs : Array Value} {off n : Nat} (h : PrOk cs off n) (L : Int) : mayE (cs.extract off (off + n * 2)) 0 n L = mayE cs off n L := by
  rw [← prs_ext h]
  exact prsA_may L
omit [Gh] in
theorem may_zero (cs : Array Value) (off : Nat) (L : Int) : mayE cs off 0 L = decide (L = 0) := by
  unfold mayE tkOk sumN
  rw [Bool.true_and]
  by_cases h : L = 0
  · rw [h]; rfl
  · rw [decide_eq_false h]
    by_cases h1 : 0 ≤ L
    · rw [decide_eq_true h1, Bool.true_and]
      exact decide_eq_false (by omega)
    · rw [decide_eq_false h1]; rfl
theorem rmay_val (v : Value) (L : SI) (m : SMem) : Con E0 42 [.s (.agg (.ls [.f (.opq v), .f (.int .i64 L)]))] m (.need [SlX v] (.ret (sB (.o (mayE (rowK v) 0 (nV v) L.den))) m)) := by
  refine Con.asked fun hq => ?_
  have hx := (hq _ (List.mem_singleton.2 rfl) : SlX v)
  have f1 : E0.fn 42 = some Tryd.f42 := by kernel_rfl
  have f2 : Tryd.f42.body = some (Tryd.f42.body.getD .skip) := by kernel_rfl
  by_cases hn : nV v = 0
  · obtain ⟨a0, k0, e⟩ := hx.nil hn
    rw [hn, may_zero]
    have key : Con E0 42 [.s (.agg (.ls [.f (.opq v), .f (.int .i64 L)]))] m (needs [] (.ret (sB (.o (decide (L.den = 0)))) m)) := by
      refine Con.seeV E0_ok (l' := [exS e0C L.den]) (ms := fun _ => ⟨0, .nil, []⟩) (A := boolR (decide (L.den = 0))) f1 f2 (fun _ => Looks.flat fun R vs ha => ?_) (fun _ _ => ?_) (fun _ _ _ _ _ => boolR_ok)
      · match vs, ha with
        | [u], ha =>
          rw [e] at ha
          obtain ⟨⟨ds, e, hd⟩, _⟩ := ha
          refine ⟨⟨ds, e, ?_⟩, trivial⟩
          have hd : All2 (SC.ok R) [.f (.opq (.slice a0 0 k0)), .f (.int .i64 L)] ds.toList := hd
          show All2 (SC.ok _) [e0C, .f (.int .i64 (.o L.den))] ds.toList
          generalize ds.toList = T at hd ⊢
          match T, hd with
          | [a, b], hd => exact ⟨⟨a0, k0, hd.1.1⟩, hd.2.1, trivial⟩
      · generalize L.den = L
        refine run_vc E0_ok 1000 (mr0_vc L (decide (L = 0))) ⟨fun h => ?_, fun h => ?_⟩ (fun _ _ h => h) (fun _ _ h => h.elim)
        · have h : 0 ≤ L := by simpa using h
          exact decide_eq_decide.2 (by omega)
        · have h : ¬ 0 ≤ L := by simpa using h
          exact (decide_eq_false (by omega)).symm
    intro A hA
    exact key A hA
  · have hv := rowK_ok (hx.row hn)
    rcases hv with ⟨rfl, _⟩ | ⟨b, off, n, c, cs, rfl, h1, h3, h4, h5, h6⟩
    · exact absurd rfl hn
    · have key : Con E0 42 [.s (.agg (.ls [.f (.opq (.slice (some ⟨b, off, none⟩) n c)), .f (.int .i64 L)]))] m (needs [] (.ret (sB (.o (mayE cs.toArray off n L.den))) m)) := by
        refine Con.seeV E0_ok (l' := [extS off n L.den]) (A := boolR (mayE cs.toArray off n L.den)) f1 f2 (fun _ => Looks.known h1 fun R R' vs h0 ha => ?_) (fun _ ty => mr_good ty L.den h3) (fun _ _ _ _ _ => boolR_ok)
        match vs, ha with
        | [u], ha =>
          obtain ⟨⟨ds, e, hd⟩, _⟩ := ha
          refine ⟨⟨ds, e, ?_⟩, trivial⟩
          have hd : All2 (SC.ok R) [.f (.opq (.slice (some ⟨b, off, none⟩) n c)), .f (.int .i64 L)] ds.toList := hd
          show All2 (SC.ok R') [.f (sl0 off n), .f (.int .i64 (.o L.den))] ds.toList
          generalize ds.toList = T at hd ⊢
          match T, hd with
          | [x, y], hd =>
            obtain ⟨⟨rfl, _⟩, hd⟩ := hd
            exact ⟨⟨_, c, h0, rfl, trivial, h5⟩, hd.1, trivial⟩
      intro A hA
      refine key A ?_
      have e : mayE (rowK (.slice (some ⟨b, off, none⟩) n c)) 0 (nV (.slice (some ⟨b, off, none⟩) n c)) L.den = mayE cs.toArray off n L.den := by
        rw [h6]
        exact may_ext h3 L.den
      rw [e] at hA
      exact hA
theorem Looks.two [Gh] {l l' : List SV} {m : SMem} {i b : Nat} {cs : Array Value} {ty : TypeId} {wr : Bool} {cells : List Value} (hb : getB m.bl i = some ⟨.pop cs, ty, wr⟩) (hg : GlP b cells) (h : ∀ (R R' : Ren) vs, (∀ g, R i = some g → R' 0 = some g) → R' 1 = some ⟨b, cells.length⟩ → All2 (SV.ok R) l vs → All2 (SV.ok R') l' vs) : Looks l l' m (fun tz => smM0 true cs cells.toArray ty tz) := by
  intro n0 F w0 w R vs hR hv
  obtain ⟨h1, tz, fz, h2⟩ := hR.there hg
  obtain ⟨gi, ci, fi, k1, k2, k3, k4, _⟩ := hR.blk i _ hb
  have lt := hR.lt _ _ k1
  refine ⟨tz, fun j => if j = 0 then some gi else if j = 1 then some ⟨b, cells.length⟩ else none, h R _ vs (fun g e => by rw [k1] at e; cases e; rfl) rfl hv, hR.sees rfl (fun j g e => ?_) fun j d hj => ?_⟩
  · split at e
    · rename_i e0; cases e; exact ⟨by rw [e0]; exact (by decide : 0 < 2), lt⟩
    · split at e
      · rename_i e1; cases e; exact ⟨by rw [e1]; exact (by decide : 1 < 2), h1⟩
      · cases e
  · rcases smM0_get hj with ⟨rfl, rfl⟩ | ⟨rfl, rfl⟩
    · exact ⟨rfl, gi, ci, fi, rfl, k2, k3, k4⟩
    · exact ⟨rfl, ⟨b, cells.length⟩, cells.toArray, fz, rfl, h2, by simp, rfl⟩
omit [Gh] in
theorem ls2_ok {R R' : Ren} {c c' : SC} {x : SI} {v : Value} (hc : ∀ u, c.ok R u → c'.ok R' u) (h : (SV.s (.agg (.ls [c, .f (.int .i64 x)]))).ok R v) : (SV.s (.agg (.ls [c', .f (.int .i64 (.o x.den))]))).ok R' v := by
  obtain ⟨ds, e, hd⟩ := h
  refine ⟨ds, e, ?_⟩
  have hd : All2 (SC.ok R) [c, .f (.int .i64 x)] ds.toList := hd
  show All2 (SC.ok R') [c', .f (.int .i64 (.o x.den))] ds.toList
  generalize ds.toList = T at hd ⊢
  match T, hd with
  | [a, b], hd => exact ⟨hc _ hd.1, hd.2.1, trivial⟩
theorem same_row {m : SMem} {i : Nat} {o n : SN} {cap : SK} {x y : SI} {cs : Array Value} {ty : TypeId} {wr : Bool} {v : Value} (hi : getB m.bl i = some ⟨.pop cs, ty, wr⟩) :
    Con E0 31 [.s (.agg (.ls [.f (.slice i o n cap), .f (.int .i64 x)])), .s (.agg (.ls [.f (.opq v), .f (.int .i64 y)]))] m (.need [SlX v, PrOk cs o.den n.den, n.den = nV v, n.den ≠ 0, y.den = x.den, cs.extract o.den (o.den + n.den * 2) = rowK v] (.ret (sB (.l true)) m)) := by
  refine Con.asked fun hq => ?_
  have hx : SlX v := hq _ (by simp)
  have hp : PrOk cs o.den n.den := hq _ (by simp)
  have en : n.den = nV v := hq (n.den = nV v) (by simp)
  have hn : n.den ≠ 0 := hq (n.den ≠ 0) (by simp)
  have exy : y.den = x.den := hq (y.den = x.den) (by simp)
  have er : cs.extract o.den (o.den + n.den * 2) = rowK v := hq (cs.extract o.den (o.den + n.den * 2) = rowK v) (by simp)
  have hv := rowK_ok (hx.row (by rw [← en]; exact hn))
  have key : Con E0 31 [.s (.agg (.ls [.f (.slice i o n cap), .f (.int .i64 x)])), .s (.agg (.ls [.f (.opq v), .f (.int .i64 y)]))] m (needs [] (.ret (sB (.o true)) m)) := by
    rcases hv with ⟨rfl, _⟩ | ⟨b, off, n', c, cells, rfl, h1, h3, h4, h5, h6⟩
    · exact absurd en hn
    · have en : n.den = n' := en
      subst en
      have eq : EqR cs o.den cells.toArray off n.den := by
        refine ⟨by have := hp.le; omega, fun j hj => ?_⟩
        have hs := hp.sz
        have hs' := h3.sz
        have ea : ∀ k, k < n.den * 2 → cs[o.den + k]? = cells.toArray[off + k]? := fun k hk => by
          have e1 := ext_get (cs := cs) (a := o.den) (b := o.den + n.den * 2) (k := k) hs (by omega)
          have e2 := ext_get (cs := cells.toArray) (a := off) (b := off + n.den * 2) (k := k) hs' (by omega)
          rw [er, h6] at e1
          exact e1.symm.trans e2
        have a1 := ea (j * 2) (by omega)
        have a2 := ea (j * 2 + 1) (by omega)
        refine ⟨hp.a j hj, hp.b j hj, h3.a j hj, h3.b j hj, ?_, ?_⟩
        · unfold intAt; rw [a1]
        · unfold intAt; rw [Nat.add_assoc, Nat.add_assoc, a2]
      refine Con.seeV E0_ok (l' := [extS o.den n.den x.den, ex1S off n.den x.den]) (A := boolR true) (by kernel_rfl : E0.fn 31 = some Tryd.f31) (by kernel_rfl : Tryd.f31.body = some (Tryd.f31.body.getD .skip)) (fun _ => Looks.two hi h1 fun R R' vs h0 h1' ha => ?_) (fun _ tz => sm_good (v := true) (L := x.den) (ty := ty) (tz := tz) eq) (fun _ _ _ _ _ => boolR_ok)
      match vs, ha with
      | [u, w], ha =>
        obtain ⟨k1, k2, _⟩ := ha
        refine ⟨ls2_ok (fun u hu => ?_) k1, ?_, trivial⟩
        · obtain ⟨g, cp, e1, e2, e3, e4⟩ := hu
          exact ⟨g, cp, h0 g e1, e2, trivial, e4⟩
        · rw [← exy]
          refine ls2_ok (fun u hu => ?_) k2
          obtain ⟨rfl, _⟩ := hu
          exact ⟨_, c, h1', rfl, trivial, h5⟩
  intro A hA
  exact Con.args (t := .ret (sB (.l true)) m) (fun R vs h => h) (fun A hA => by
    obtain ⟨fn, f1, f2, f3⟩ := key (fun s m' => A (sB (.l true)) m' ∧ s = sB (.o true)) ⟨hA, rfl⟩
    exact ⟨fn, f1, f2, fun n0 F w0 w R args hl hR => (f3 n0 F w0 w R args hl hR).mono fun u w' ⟨s, m', R', ⟨q1, q2⟩, q3, q4, q5⟩ => ⟨_, m', R', q1, q3, q4, by rw [q2] at q5; exact q5⟩⟩) A hA
theorem same_nil {m : SMem} {x y : SI} {v : Value} : Con E0 31 [.s (.agg (.ls [.f (.lit (.slice none 0 0)), .f (.int .i64 x)])), .s (.agg (.ls [.f (.opq v), .f (.int .i64 y)]))] m (.need [SlX v, nV v = 0, y.den = x.den] (.ret (sB (.l true)) m)) := by
  refine Con.asked fun hq => ?_
  have hx : SlX v := hq _ (by simp)
  have hn : nV v = 0 := hq (nV v = 0) (by simp)
  have exy : y.den = x.den := hq (y.den = x.den) (by simp)
  obtain ⟨a0, k0, e⟩ := hx.nil hn
  have key : Con E0 31 [.s (.agg (.ls [.f (.lit (.slice none 0 0)), .f (.int .i64 x)])), .s (.agg (.ls [.f (.opq v), .f (.int .i64 y)]))] m (needs [] (.ret (sB (.l true)) m)) := by
    refine Con.seeV E0_ok (l' := [exS nilC x.den, exS e0C x.den]) (ms := fun _ => ⟨0, .nil, []⟩) (A := boolR true) (by kernel_rfl : E0.fn 31 = some Tryd.f31) (by kernel_rfl : Tryd.f31.body = some (Tryd.f31.body.getD .skip)) (fun _ => Looks.flat fun R vs ha => ?_) (fun _ _ => ?_) (fun s m' R R' w h hv => boolR_ok (b := true) (R := R) h hv)
    · match vs, ha with
      | [u, w], ha =>
        obtain ⟨k1, k2, _⟩ := ha
        refine ⟨ls2_ok (R := R) (c := nilC) (fun u hu => hu) k1, ?_, trivial⟩
        rw [← exy]
        refine ls2_ok (fun u hu => ?_) k2
        rw [e] at hu
        exact ⟨a0, k0, hu.1⟩
    · refine run_vc E0_ok 1000 (sm0_vc x.den) ?_ (fun _ _ h => h) (fun _ _ h => h.elim)
      repeat' first | exact trivial | exact rfl | apply And.intro | intro _
      all_goals simp_all
  intro A hA
  exact key A hA
end Go.Proofs.YtjjeahnbppmigaaDoor
/- The document's table (layer 5), without loops: runs. No condition. -/
namespace Go.Proofs.YtjjeahnbppmigaaDoor
set_option linter.unusedSectionVars false
variable [Gh]
set_option linter.unusedVariables false
noncomputable def conI1 (g : FuncId) (l : List SV) (m : SMem) : Option Tree := match g, l with
  | 33, [.s (.agg (.op ws)), .s (.c (.f (.int .i64 h)))] => some (.need [WB ws] (.ret (i64 (.o (slW ws h.den))) m))
  | 44, [.s (.agg (.op ws))] => some (.need [WB ws] (.ret (.tup [.agg (.op (isW ws)), .c (.f (.int .i64 (.o (iiW ws))))]) m))
  | 42, [.s (.agg (.ls [.f (.opq v), .f (.int .i64 L)]))] => some (.need [SlX v] (.ret (sB (.o (mayE (rowK v) 0 (nV v) L.den))) m))
  | g, l => conI0 g l m
noncomputable def EI1 : Env := ⟨Tryd.prog, fnOf, conI1, haltAt []⟩
omit [Gh] in
noncomputable def wtS (ws : Array Value) : SV := .s (.agg (.op ws))
omit [Gh] in
noncomputable def wbA (o : Array Value) (b : Bool) (s : SV) (m : SMem) : Prop := retOk 0 [] (.tup [.agg (.op o), .c (.f (.bool (.o b)))]) e0M s m
omit [Gh] in
noncomputable def weA (o : Array Value) (e : Int) (s : SV) (m : SMem) : Prop := retOk 0 [] (.tup [.agg (.op o), .c (.f (.int .i64 (.o e)))]) e0M s m
omit [Gh] in
noncomputable def whA (o : Array Value) (h e : Int) (s : SV) (m : SMem) : Prop := retOk 0 [] (.tup [.agg (.op o), .c (.f (.int .i64 (.o h))), .c (.f (.int .i64 (.o e)))]) e0M s m
omit [Gh] in
noncomputable def gdR (b : Bool) (v : Value) (u q l c0 c1 c2 c3 c4 c5 c6 c7 e : Int) (s : SV) (m : SMem) : Prop := match s with
  | .tup [.agg (.ls (_ :: _ :: .f (.opq _) :: _)), _] => b = true ∧ retOk 0 [] (.tup [.agg (.ls (rgD u q (opC v) l c0 c1 c2 c3 c4 c5 c6 c7)), .c (.f (.int .i64 (.o e)))]) e0M s m
  | _ => b = false ∧ retOk 0 [] (.tup [.agg (.ls (rgD u q nilC l c0 c1 c2 c3 c4 c5 c6 c7)), .c (.f (.int .i64 (.o e)))]) e0M s m
end Go.Proofs.YtjjeahnbppmigaaDoor
/- The document's table (layer 5), without loops: runs. -/
namespace Go.Proofs.YtjjeahnbppmigaaDoor
set_option linter.unusedSectionVars false
variable [Gh]
set_option maxRecDepth 100000
theorem vo0 (ws : Array Value) (h : Int) (o : Array Value) (b : Bool) : (run EI1 1000 0 [callFr 41 Tryd.f41.ntmps [wbS ws, i64 (.o h)] (Tryd.f41.body.getD .skip)] e0M).vc (wbA o b) (fun _ _ => False) =
    ((Array.size ws = (64 : Nat) ∧ True) ∧ (WB ws ∧ True) ∧ (decide (slW ws h < (0 : Int)) = true → (Array.size ws = (64 : Nat) ∧ True) ∧ (Array.size ws = (64 : Nat) ∧ Array.size ws = (64 : Nat) ∧ True) ∧ (Array.size ws = (64 : Nat) ∧ True) ∧ o = ws ∧ b = false ∧ True) ∧ (decide (slW ws h < (0 : Int)) = false → (((0 : Int) ≤ slW ws h ∧ slW ws h < (32 : Int)) ∧ True) ∧ ((32 : Nat) + Int.toNat (slW ws h) * 1 < Array.size ws ∧ True) ∧ (((0 : Int) ≤ slW ws h ∧ slW ws h < (32 : Int)) ∧ True) ∧ (IsInt IntKind.i64 (Array.setIfInBounds ws ((32 : Nat) + Int.toNat (slW ws h) * 1) (Value.int IntKind.i64 (0 : Int))) ((0 : Nat) + Int.toNat (slW ws h) * 1) ∧ True) ∧ ((intAt (Array.setIfInBounds ws ((32 : Nat) + Int.toNat (slW ws h) * 1) (Value.int IntKind.i64 (0 : Int))) ((0 : Nat) + Int.toNat (slW ws h) * 1) == (8388607 : Int)) = true → (((0 : Int) ≤ slW ws h ∧ slW ws h < (32 : Int)) ∧ True) ∧ ((32 : Nat) + Int.toNat (slW ws h) * 1 < Array.size (Array.setIfInBounds ws ((32 : Nat) + Int.toNat (slW ws h) * 1) (Value.int IntKind.i64 (0 : Int))) ∧ True) ∧ (Array.size (Array.setIfInBounds (Array.setIfInBounds ws ((32 : Nat) + Int.toNat (slW ws h) * 1) (Value.int IntKind.i64 (0 : Int))) ((32 : Nat) + Int.toNat (slW ws h) * 1) (Value.int IntKind.i64 (2 : Int))) = (64 : Nat) ∧ True) ∧ (Array.size (Array.setIfInBounds (Array.setIfInBounds ws ((32 : Nat) + Int.toNat (slW ws h) * 1) (Value.int IntKind.i64 (0 : Int))) ((32 : Nat) + Int.toNat (slW ws h) * 1) (Value.int IntKind.i64 (2 : Int))) = (64 : Nat) ∧ Array.size (Array.setIfInBounds (Array.setIfInBounds ws ((32 : Nat) + Int.toNat (slW ws h) * 1) (Value.int IntKind.i64 (0 : Int))) ((32 : Nat) + Int.toNat (slW ws h) * 1) (Value.int IntKind.i64 (2 : Int))) = (64 : Nat) ∧ True) ∧ (Array.size (Array.setIfInBounds (Array.setIfInBounds ws ((32 : Nat) + Int.toNat (slW ws h) * 1) (Value.int IntKind.i64 (0 : Int))) ((32 : Nat) + Int.toNat (slW ws h) * 1) (Value.int IntKind.i64 (2 : Int))) = (64 : Nat) ∧ True) ∧ o = Array.setIfInBounds (Array.setIfInBounds ws ((32 : Nat) + Int.toNat (slW ws h) * 1) (Value.int IntKind.i64 (0 : Int))) ((32 : Nat) + Int.toNat (slW ws h) * 1) (Value.int IntKind.i64 (2 : Int)) ∧ b = true ∧ True) ∧ ((intAt (Array.setIfInBounds ws ((32 : Nat) + Int.toNat (slW ws h) * 1) (Value.int IntKind.i64 (0 : Int))) ((0 : Nat) + Int.toNat (slW ws h) * 1) == (8388607 : Int)) = false → (((0 : Int) ≤ slW ws h ∧ slW ws h < (32 : Int)) ∧ True) ∧ (IsInt IntKind.i64 (Array.setIfInBounds ws ((32 : Nat) + Int.toNat (slW ws h) * 1) (Value.int IntKind.i64 (0 : Int))) ((0 : Nat) + Int.toNat (slW ws h) * 1) ∧ True) ∧ (((0 : Int) ≤ slW ws h ∧ slW ws h < (32 : Int)) ∧ True) ∧ ((0 : Nat) + Int.toNat (slW ws h) * 1 < Array.size (Array.setIfInBounds ws ((32 : Nat) + Int.toNat (slW ws h) * 1) (Value.int IntKind.i64 (0 : Int))) ∧ True) ∧ (Array.size (Array.setIfInBounds (Array.setIfInBounds ws ((32 : Nat) + Int.toNat (slW ws h) * 1) (Value.int IntKind.i64 (0 : Int))) ((0 : Nat) + Int.toNat (slW ws h) * 1) (Value.int IntKind.i64 (ari BinOp.add IntKind.i64 (intAt (Array.setIfInBounds ws ((32 : Nat) + Int.toNat (slW ws h) * 1) (Value.int IntKind.i64 (0 : Int))) ((0 : Nat) + Int.toNat (slW ws h) * 1)) (1 : Int)))) = (64 : Nat) ∧ True) ∧ (Array.size (Array.setIfInBounds (Array.setIfInBounds ws ((32 : Nat) + Int.toNat (slW ws h) * 1) (Value.int IntKind.i64 (0 : Int))) ((0 : Nat) + Int.toNat (slW ws h) * 1) (Value.int IntKind.i64 (ari BinOp.add IntKind.i64 (intAt (Array.setIfInBounds ws ((32 : Nat) + Int.toNat (slW ws h) * 1) (Value.int IntKind.i64 (0 : Int))) ((0 : Nat) + Int.toNat (slW ws h) * 1)) (1 : Int)))) = (64 : Nat) ∧ Array.size (Array.setIfInBounds (Array.setIfInBounds ws ((32 : Nat) + Int.toNat (slW ws h) * 1) (Value.int IntKind.i64 (0 : Int))) ((0 : Nat) + Int.toNat (slW ws h) * 1) (Value.int IntKind.i64 (ari BinOp.add IntKind.i64 (intAt (Array.setIfInBounds ws ((32 : Nat) + Int.toNat (slW ws h) * 1) (Value.int IntKind.i64 (0 : Int))) ((0 : Nat) + Int.toNat (slW ws h) * 1)) (1 : Int)))) = (64 : Nat) ∧ True) ∧ (Array.size (Array.setIfInBounds (Array.setIfInBounds ws ((32 : Nat) + Int.toNat (slW ws h) * 1) (Value.int IntKind.i64 (0 : Int))) ((0 : Nat) + Int.toNat (slW ws h) * 1) (Value.int IntKind.i64 (ari BinOp.add IntKind.i64 (intAt (Array.setIfInBounds ws ((32 : Nat) + Int.toNat (slW ws h) * 1) (Value.int IntKind.i64 (0 : Int))) ((0 : Nat) + Int.toNat (slW ws h) * 1)) (1 : Int)))) = (64 : Nat) ∧ True) ∧ o = Array.setIfInBounds (Array.setIfInBounds ws ((32 : Nat) + Int.toNat (slW ws h) * 1) (Value.int IntKind.i64 (0 : Int))) ((0 : Nat) + Int.toNat (slW ws h) * 1) (Value.int IntKind.i64 (ari BinOp.add IntKind.i64 (intAt (Array.setIfInBounds ws ((32 : Nat) + Int.toNat (slW ws h) * 1) (Value.int IntKind.i64 (0 : Int))) ((0 : Nat) + Int.toNat (slW ws h) * 1)) (1 : Int))) ∧ b = true ∧ True))) := by kernel_rfl
theorem rg0 (ws : Array Value) (h : Int) (b : Bool) : (run EI1 1000 0 [callFr 13 Tryd.f13.ntmps [wtS ws, i64 (.o h)] (Tryd.f13.body.getD .skip)] e0M).vc (retOk 0 [] (sB (.o b)) e0M) (fun _ _ => False) =
    ((64 ≤ Array.size ws ∧ True) ∧ (WB (Array.extract ws (0 : Nat) (64)) ∧ True) ∧ b = decide (slW (Array.extract ws (0 : Nat) (64)) h ≥ (0 : Int)) ∧ True) := by kernel_rfl
theorem nw0 (ws : Array Value) (u q : Int) (o : Array Value) (h e : Int) : (run EI1 1000 0 [callFr 25 Tryd.f25.ntmps [wtS ws, i64 (.o u), i64 (.o q)] (Tryd.f25.body.getD .skip)] e0M).vc (whA o h e) (fun _ _ => False) =
    ((((u != (0 : Int)) == true) = true → (Array.size ws = (448 : Nat) ∧ True) ∧ (64 ≤ Array.size ws ∧ True) ∧ (WB (Array.extract ws (0 : Nat) (64)) ∧ True) ∧ ((!decide (slW (Array.extract ws (0 : Nat) (64)) u ≥ (0 : Int))) = true → (Array.size ws = (448 : Nat) ∧ True) ∧ (Array.size ws = (448 : Nat) ∧ Array.size ws = (448 : Nat) ∧ True) ∧ (Array.size ws = (448 : Nat) ∧ True) ∧ o = ws ∧ h = (0 : Int) ∧ e = (4 : Int) ∧ True) ∧ ((!decide (slW (Array.extract ws (0 : Nat) (64)) u ≥ (0 : Int))) = false → ((decide (q < (0 : Int)) == false) = true → (decide (q > (64 : Int)) = true → (Array.size ws = (448 : Nat) ∧ True) ∧ (Array.size ws = (448 : Nat) ∧ Array.size ws = (448 : Nat) ∧ True) ∧ (Array.size ws = (448 : Nat) ∧ True) ∧ o = ws ∧ h = (0 : Int) ∧ e = (2 : Int) ∧ True) ∧ (decide (q > (64 : Int)) = false → (64 ≤ Array.size ws ∧ True) ∧ (WB (Array.extract ws (0 : Nat) (64)) ∧ True) ∧ (Array.size (isW (Array.extract ws (0 : Nat) (64))) = (64 : Nat) ∧ Array.size (isW (Array.extract ws (0 : Nat) (64))) = (64 : Nat) ∧ True) ∧ ((iiW (Array.extract ws (0 : Nat) (64)) == (0 : Int)) = true → (Array.size ws = (448 : Nat) ∧ True) ∧ (Array.size ws = (448 : Nat) ∧ Array.size ws = (448 : Nat) ∧ True) ∧ (Array.size ws = (448 : Nat) ∧ True) ∧ o = ws ∧ h = (0 : Int) ∧ e = (7 : Int) ∧ True) ∧ ((iiW (Array.extract ws (0 : Nat) (64)) == (0 : Int)) = false → (Array.size (isW (Array.extract ws (0 : Nat) (64))) = (64 : Nat) ∧ True) ∧ (Array.size (isW (Array.extract ws (0 : Nat) (64))) = (64 : Nat) ∧ (0 : Nat) + Array.size (isW (Array.extract ws (0 : Nat) (64))) ≤ Array.size ws ∧ True) ∧ (Array.size (isW (Array.extract ws (0 : Nat) (64))) = (64 : Nat) ∧ True) ∧ (WB (isW (Array.extract ws (0 : Nat) (64))) ∧ True) ∧ (((0 : Int) ≤ slW (isW (Array.extract ws (0 : Nat) (64))) (iiW (Array.extract ws (0 : Nat) (64))) ∧ slW (isW (Array.extract ws (0 : Nat) (64))) (iiW (Array.extract ws (0 : Nat) (64))) < (32 : Int)) ∧ True) ∧ ((64 : Nat) + Int.toNat (slW (isW (Array.extract ws (0 : Nat) (64))) (iiW (Array.extract ws (0 : Nat) (64)))) * 12 + List.length [Value.int IntKind.i64 u, Value.int IntKind.i64 q, Value.slice none (0 : Nat) (0 : Nat), Value.int IntKind.i64 (0 : Int), Value.int IntKind.i64 (0 : Int), Value.int IntKind.i64 (0 : Int), Value.int IntKind.i64 (0 : Int), Value.int IntKind.i64 (0 : Int), Value.int IntKind.i64 (0 : Int), Value.int IntKind.i64 (0 : Int), Value.int IntKind.i64 (0 : Int), Value.int IntKind.i64 (0 : Int)] ≤ Array.size (putAt ws (0 : Nat) (Array.toList (isW (Array.extract ws (0 : Nat) (64))))) ∧ True) ∧ (Array.size (putAt (putAt ws (0 : Nat) (Array.toList (isW (Array.extract ws (0 : Nat) (64))))) ((64 : Nat) + Int.toNat (slW (isW (Array.extract ws (0 : Nat) (64))) (iiW (Array.extract ws (0 : Nat) (64)))) * 12) [Value.int IntKind.i64 u, Value.int IntKind.i64 q, Value.slice none (0 : Nat) (0 : Nat), Value.int IntKind.i64 (0 : Int), Value.int IntKind.i64 (0 : Int), Value.int IntKind.i64 (0 : Int), Value.int IntKind.i64 (0 : Int), Value.int IntKind.i64 (0 : Int), Value.int IntKind.i64 (0 : Int), Value.int IntKind.i64 (0 : Int), Value.int IntKind.i64 (0 : Int), Value.int IntKind.i64 (0 : Int)]) = (448 : Nat) ∧ True) ∧ (Array.size (putAt (putAt ws (0 : Nat) (Array.toList (isW (Array.extract ws (0 : Nat) (64))))) ((64 : Nat) + Int.toNat (slW (isW (Array.extract ws (0 : Nat) (64))) (iiW (Array.extract ws (0 : Nat) (64)))) * 12) [Value.int IntKind.i64 u, Value.int IntKind.i64 q, Value.slice none (0 : Nat) (0 : Nat), Value.int IntKind.i64 (0 : Int), Value.int IntKind.i64 (0 : Int), Value.int IntKind.i64 (0 : Int), Value.int IntKind.i64 (0 : Int), Value.int IntKind.i64 (0 : Int), Value.int IntKind.i64 (0 : Int), Value.int IntKind.i64 (0 : Int), Value.int IntKind.i64 (0 : Int), Value.int IntKind.i64 (0 : Int)]) = (448 : Nat) ∧ Array.size (putAt (putAt ws (0 : Nat) (Array.toList (isW (Array.extract ws (0 : Nat) (64))))) ((64 : Nat) + Int.toNat (slW (isW (Array.extract ws (0 : Nat) (64))) (iiW (Array.extract ws (0 : Nat) (64)))) * 12) [Value.int IntKind.i64 u, Value.int IntKind.i64 q, Value.slice none (0 : Nat) (0 : Nat), Value.int IntKind.i64 (0 : Int), Value.int IntKind.i64 (0 : Int), Value.int IntKind.i64 (0 : Int), Value.int IntKind.i64 (0 : Int), Value.int IntKind.i64 (0 : Int), Value.int IntKind.i64 (0 : Int), Value.int IntKind.i64 (0 : Int), Value.int IntKind.i64 (0 : Int), Value.int IntKind.i64 (0 : Int)]) = (448 : Nat) ∧ True) ∧ (Array.size (putAt (putAt ws (0 : Nat) (Array.toList (isW (Array.extract ws (0 : Nat) (64))))) ((64 : Nat) + Int.toNat (slW (isW (Array.extract ws (0 : Nat) (64))) (iiW (Array.extract ws (0 : Nat) (64)))) * 12) [Value.int IntKind.i64 u, Value.int IntKind.i64 q, Value.slice none (0 : Nat) (0 : Nat), Value.int IntKind.i64 (0 : Int), Value.int IntKind.i64 (0 : Int), Value.int IntKind.i64 (0 : Int), Value.int IntKind.i64 (0 : Int), Value.int IntKind.i64 (0 : Int), Value.int IntKind.i64 (0 : Int), Value.int IntKind.i64 (0 : Int), Value.int IntKind.i64 (0 : Int), Value.int IntKind.i64 (0 : Int)]) = (448 : Nat) ∧ True) ∧ o = putAt (putAt ws (0 : Nat) (Array.toList (isW (Array.extract ws (0 : Nat) (64))))) ((64 : Nat) + Int.toNat (slW (isW (Array.extract ws (0 : Nat) (64))) (iiW (Array.extract ws (0 : Nat) (64)))) * 12) [Value.int IntKind.i64 u, Value.int IntKind.i64 q, Value.slice none (0 : Nat) (0 : Nat), Value.int IntKind.i64 (0 : Int), Value.int IntKind.i64 (0 : Int), Value.int IntKind.i64 (0 : Int), Value.int IntKind.i64 (0 : Int), Value.int IntKind.i64 (0 : Int), Value.int IntKind.i64 (0 : Int), Value.int IntKind.i64 (0 : Int), Value.int IntKind.i64 (0 : Int), Value.int IntKind.i64 (0 : Int)] ∧ h = iiW (Array.extract ws (0 : Nat) (64)) ∧ e = (0 : Int) ∧ True))) ∧ ((decide (q < (0 : Int)) == false) = false → (Array.size ws = (448 : Nat) ∧ True) ∧ (Array.size ws = (448 : Nat) ∧ Array.size ws = (448 : Nat) ∧ True) ∧ (Array.size ws = (448 : Nat) ∧ True) ∧ o = ws ∧ h = (0 : Int) ∧ e = (2 : Int) ∧ True))) ∧ (((u != (0 : Int)) == true) = false → ((decide (q < (0 : Int)) == false) = true → (decide (q > (64 : Int)) = true → (Array.size ws = (448 : Nat) ∧ True) ∧ (Array.size ws = (448 : Nat) ∧ Array.size ws = (448 : Nat) ∧ True) ∧ (Array.size ws = (448 : Nat) ∧ True) ∧ o = ws ∧ h = (0 : Int) ∧ e = (2 : Int) ∧ True) ∧ (decide (q > (64 : Int)) = false → (64 ≤ Array.size ws ∧ True) ∧ (WB (Array.extract ws (0 : Nat) (64)) ∧ True) ∧ (Array.size (isW (Array.extract ws (0 : Nat) (64))) = (64 : Nat) ∧ Array.size (isW (Array.extract ws (0 : Nat) (64))) = (64 : Nat) ∧ True) ∧ ((iiW (Array.extract ws (0 : Nat) (64)) == (0 : Int)) = true → (Array.size ws = (448 : Nat) ∧ True) ∧ (Array.size ws = (448 : Nat) ∧ Array.size ws = (448 : Nat) ∧ True) ∧ (Array.size ws = (448 : Nat) ∧ True) ∧ o = ws ∧ h = (0 : Int) ∧ e = (7 : Int) ∧ True) ∧ ((iiW (Array.extract ws (0 : Nat) (64)) == (0 : Int)) = false → (Array.size (isW (Array.extract ws (0 : Nat) (64))) = (64 : Nat) ∧ True) ∧ (Array.size (isW (Array.extract ws (0 : Nat) (64))) = (64 : Nat) ∧ (0 : Nat) + Array.size (isW (Array.extract ws (0 : Nat) (64))) ≤ Array.size ws ∧ True) ∧ (Array.size (isW (Array.extract ws (0 : Nat) (64))) = (64 : Nat) ∧ True) ∧ (WB (isW (Array.extract ws (0 : Nat) (64))) ∧ True) ∧ (((0 : Int) ≤ slW (isW (Array.extract ws (0 : Nat) (64))) (iiW (Array.extract ws (0 : Nat) (64))) ∧ slW (isW (Array.extract ws (0 : Nat) (64))) (iiW (Array.extract ws (0 : Nat) (64))) < (32 : Int)) ∧ True) ∧ ((64 : Nat) + Int.toNat (slW (isW (Array.extract ws (0 : Nat) (64))) (iiW (Array.extract ws (0 : Nat) (64)))) * 12 + List.length [Value.int IntKind.i64 u, Value.int IntKind.i64 q, Value.slice none (0 : Nat) (0 : Nat), Value.int IntKind.i64 (0 : Int), Value.int IntKind.i64 (0 : Int), Value.int IntKind.i64 (0 : Int), Value.int IntKind.i64 (0 : Int), Value.int IntKind.i64 (0 : Int), Value.int IntKind.i64 (0 : Int), Value.int IntKind.i64 (0 : Int), Value.int IntKind.i64 (0 : Int), Value.int IntKind.i64 (0 : Int)] ≤ Array.size (putAt ws (0 : Nat) (Array.toList (isW (Array.extract ws (0 : Nat) (64))))) ∧ True) ∧ (Array.size (putAt (putAt ws (0 : Nat) (Array.toList (isW (Array.extract ws (0 : Nat) (64))))) ((64 : Nat) + Int.toNat (slW (isW (Array.extract ws (0 : Nat) (64))) (iiW (Array.extract ws (0 : Nat) (64)))) * 12) [Value.int IntKind.i64 u, Value.int IntKind.i64 q, Value.slice none (0 : Nat) (0 : Nat), Value.int IntKind.i64 (0 : Int), Value.int IntKind.i64 (0 : Int), Value.int IntKind.i64 (0 : Int), Value.int IntKind.i64 (0 : Int), Value.int IntKind.i64 (0 : Int), Value.int IntKind.i64 (0 : Int), Value.int IntKind.i64 (0 : Int), Value.int IntKind.i64 (0 : Int), Value.int IntKind.i64 (0 : Int)]) = (448 : Nat) ∧ True) ∧ (Array.size (putAt (putAt ws (0 : Nat) (Array.toList (isW (Array.extract ws (0 : Nat) (64))))) ((64 : Nat) + Int.toNat (slW (isW (Array.extract ws (0 : Nat) (64))) (iiW (Array.extract ws (0 : Nat) (64)))) * 12) [Value.int IntKind.i64 u, Value.int IntKind.i64 q, Value.slice none (0 : Nat) (0 : Nat), Value.int IntKind.i64 (0 : Int), Value.int IntKind.i64 (0 : Int), Value.int IntKind.i64 (0 : Int), Value.int IntKind.i64 (0 : Int), Value.int IntKind.i64 (0 : Int), Value.int IntKind.i64 (0 : Int), Value.int IntKind.i64 (0 : Int), Value.int IntKind.i64 (0 : Int), Value.int IntKind.i64 (0 : Int)]) = (448 : Nat) ∧ Array.size (putAt (putAt ws (0 : Nat) (Array.toList (isW (Array.extract ws (0 : Nat) (64))))) ((64 : Nat) + Int.toNat (slW (isW (Array.extract ws (0 : Nat) (64))) (iiW (Array.extract ws (0 : Nat) (64)))) * 12) [Value.int IntKind.i64 u, Value.int IntKind.i64 q, Value.slice none (0 : Nat) (0 : Nat), Value.int IntKind.i64 (0 : Int), Value.int IntKind.i64 (0 : Int), Value.int IntKind.i64 (0 : Int), Value.int IntKind.i64 (0 : Int), Value.int IntKind.i64 (0 : Int), Value.int IntKind.i64 (0 : Int), Value.int IntKind.i64 (0 : Int), Value.int IntKind.i64 (0 : Int), Value.int IntKind.i64 (0 : Int)]) = (448 : Nat) ∧ True) ∧ (Array.size (putAt (putAt ws (0 : Nat) (Array.toList (isW (Array.extract ws (0 : Nat) (64))))) ((64 : Nat) + Int.toNat (slW (isW (Array.extract ws (0 : Nat) (64))) (iiW (Array.extract ws (0 : Nat) (64)))) * 12) [Value.int IntKind.i64 u, Value.int IntKind.i64 q, Value.slice none (0 : Nat) (0 : Nat), Value.int IntKind.i64 (0 : Int), Value.int IntKind.i64 (0 : Int), Value.int IntKind.i64 (0 : Int), Value.int IntKind.i64 (0 : Int), Value.int IntKind.i64 (0 : Int), Value.int IntKind.i64 (0 : Int), Value.int IntKind.i64 (0 : Int), Value.int IntKind.i64 (0 : Int), Value.int IntKind.i64 (0 : Int)]) = (448 : Nat) ∧ True) ∧ o = putAt (putAt ws (0 : Nat) (Array.toList (isW (Array.extract ws (0 : Nat) (64))))) ((64 : Nat) + Int.toNat (slW (isW (Array.extract ws (0 : Nat) (64))) (iiW (Array.extract ws (0 : Nat) (64)))) * 12) [Value.int IntKind.i64 u, Value.int IntKind.i64 q, Value.slice none (0 : Nat) (0 : Nat), Value.int IntKind.i64 (0 : Int), Value.int IntKind.i64 (0 : Int), Value.int IntKind.i64 (0 : Int), Value.int IntKind.i64 (0 : Int), Value.int IntKind.i64 (0 : Int), Value.int IntKind.i64 (0 : Int), Value.int IntKind.i64 (0 : Int), Value.int IntKind.i64 (0 : Int), Value.int IntKind.i64 (0 : Int)] ∧ h = iiW (Array.extract ws (0 : Nat) (64)) ∧ e = (0 : Int) ∧ True))) ∧ ((decide (q < (0 : Int)) == false) = false → (Array.size ws = (448 : Nat) ∧ True) ∧ (Array.size ws = (448 : Nat) ∧ Array.size ws = (448 : Nat) ∧ True) ∧ (Array.size ws = (448 : Nat) ∧ True) ∧ o = ws ∧ h = (0 : Int) ∧ e = (2 : Int) ∧ True))) := by kernel_rfl
theorem rt0 (ws : Array Value) (h : Int) (b : Bool) (v : Value) (u q l c0 c1 c2 c3 c4 c5 c6 c7 e : Int) : (run EI1 1000 0 [callFr 30 Tryd.f30.ntmps [wtS ws, i64 (.o h)] (Tryd.f30.body.getD .skip)] e0M).vc (gdR b v u q l c0 c1 c2 c3 c4 c5 c6 c7 e) (fun _ _ => False) =
    ((64 ≤ Array.size ws ∧ True) ∧ (WB (Array.extract ws (0 : Nat) (64)) ∧ True) ∧ (decide (slW (Array.extract ws (0 : Nat) (64)) h < (0 : Int)) = true → b = false ∧ u = (0 : Int) ∧ q = (0 : Int) ∧ Value.slice none (0 : Nat) (0 : Nat) = Value.slice none (0 : Nat) (0 : Nat) ∧ l = (0 : Int) ∧ c0 = (0 : Int) ∧ c1 = (0 : Int) ∧ c2 = (0 : Int) ∧ c3 = (0 : Int) ∧ c4 = (0 : Int) ∧ c5 = (0 : Int) ∧ c6 = (0 : Int) ∧ c7 = (0 : Int) ∧ e = (4 : Int) ∧ True) ∧ (decide (slW (Array.extract ws (0 : Nat) (64)) h < (0 : Int)) = false → (((0 : Int) ≤ slW (Array.extract ws (0 : Nat) (64)) h ∧ slW (Array.extract ws (0 : Nat) (64)) h < (32 : Int)) ∧ True) ∧ (IsInt IntKind.i64 ws ((64 : Nat) + Int.toNat (slW (Array.extract ws (0 : Nat) (64)) h) * 12) ∧ IsInt IntKind.i64 ws ((64 : Nat) + Int.toNat (slW (Array.extract ws (0 : Nat) (64)) h) * 12 + 1) ∧ IsOne ws ((64 : Nat) + Int.toNat (slW (Array.extract ws (0 : Nat) (64)) h) * 12 + 2) ∧ IsInt IntKind.i64 ws ((64 : Nat) + Int.toNat (slW (Array.extract ws (0 : Nat) (64)) h) * 12 + 3) ∧ IsInt IntKind.i64 ws ((64 : Nat) + Int.toNat (slW (Array.extract ws (0 : Nat) (64)) h) * 12 + 4) ∧ IsInt IntKind.i64 ws ((64 : Nat) + Int.toNat (slW (Array.extract ws (0 : Nat) (64)) h) * 12 + 5) ∧ IsInt IntKind.i64 ws ((64 : Nat) + Int.toNat (slW (Array.extract ws (0 : Nat) (64)) h) * 12 + 6) ∧ IsInt IntKind.i64 ws ((64 : Nat) + Int.toNat (slW (Array.extract ws (0 : Nat) (64)) h) * 12 + 7) ∧ IsInt IntKind.i64 ws ((64 : Nat) + Int.toNat (slW (Array.extract ws (0 : Nat) (64)) h) * 12 + 8) ∧ IsInt IntKind.i64 ws ((64 : Nat) + Int.toNat (slW (Array.extract ws (0 : Nat) (64)) h) * 12 + 9) ∧ IsInt IntKind.i64 ws ((64 : Nat) + Int.toNat (slW (Array.extract ws (0 : Nat) (64)) h) * 12 + 10) ∧ IsInt IntKind.i64 ws ((64 : Nat) + Int.toNat (slW (Array.extract ws (0 : Nat) (64)) h) * 12 + 11) ∧ True) ∧ b = true ∧ u = intAt ws ((64 : Nat) + Int.toNat (slW (Array.extract ws (0 : Nat) (64)) h) * 12) ∧ q = intAt ws ((64 : Nat) + Int.toNat (slW (Array.extract ws (0 : Nat) (64)) h) * 12 + 1) ∧ v = (valAt ws ((64 : Nat) + Int.toNat (slW (Array.extract ws (0 : Nat) (64)) h) * 12 + 2)) ∧ l = intAt ws ((64 : Nat) + Int.toNat (slW (Array.extract ws (0 : Nat) (64)) h) * 12 + 3) ∧ c0 = intAt ws ((64 : Nat) + Int.toNat (slW (Array.extract ws (0 : Nat) (64)) h) * 12 + 4) ∧ c1 = intAt ws ((64 : Nat) + Int.toNat (slW (Array.extract ws (0 : Nat) (64)) h) * 12 + 5) ∧ c2 = intAt ws ((64 : Nat) + Int.toNat (slW (Array.extract ws (0 : Nat) (64)) h) * 12 + 6) ∧ c3 = intAt ws ((64 : Nat) + Int.toNat (slW (Array.extract ws (0 : Nat) (64)) h) * 12 + 7) ∧ c4 = intAt ws ((64 : Nat) + Int.toNat (slW (Array.extract ws (0 : Nat) (64)) h) * 12 + 8) ∧ c5 = intAt ws ((64 : Nat) + Int.toNat (slW (Array.extract ws (0 : Nat) (64)) h) * 12 + 9) ∧ c6 = intAt ws ((64 : Nat) + Int.toNat (slW (Array.extract ws (0 : Nat) (64)) h) * 12 + 10) ∧ c7 = intAt ws ((64 : Nat) + Int.toNat (slW (Array.extract ws (0 : Nat) (64)) h) * 12 + 11) ∧ e = (0 : Int) ∧ True)) := by kernel_rfl
theorem se0 (ws : Array Value) (h : Int) (u q : Int) (v : Value) (l c0 c1 c2 c3 c4 c5 c6 c7 : Int) (o : Array Value) (e : Int) : (run EI1 1000 0 [callFr 23 Tryd.f23.ntmps [wtS ws, i64 (.o h), rgV (rgD u q (opC v) l c0 c1 c2 c3 c4 c5 c6 c7)] (Tryd.f23.body.getD .skip)] e0M).vc (weA o e) (fun _ _ => False) =
    ((64 ≤ Array.size ws ∧ True) ∧ (WB (Array.extract ws (0 : Nat) (64)) ∧ True) ∧ (decide (slW (Array.extract ws (0 : Nat) (64)) h < (0 : Int)) = true → (Array.size ws = (448 : Nat) ∧ True) ∧ (Array.size ws = (448 : Nat) ∧ Array.size ws = (448 : Nat) ∧ True) ∧ (Array.size ws = (448 : Nat) ∧ True) ∧ o = ws ∧ e = (4 : Int) ∧ True) ∧ (decide (slW (Array.extract ws (0 : Nat) (64)) h < (0 : Int)) = false → ((decide (q < (0 : Int)) == false) = true → ((decide (q > (64 : Int)) == false) = true → (SlX v ∧ True) ∧ ((!mayE (rowK v) (0 : Nat) (nV v) l) = true → (Array.size ws = (448 : Nat) ∧ True) ∧ (Array.size ws = (448 : Nat) ∧ Array.size ws = (448 : Nat) ∧ True) ∧ (Array.size ws = (448 : Nat) ∧ True) ∧ o = ws ∧ e = (2 : Int) ∧ True) ∧ ((!mayE (rowK v) (0 : Nat) (nV v) l) = false → (((0 : Int) ≤ slW (Array.extract ws (0 : Nat) (64)) h ∧ slW (Array.extract ws (0 : Nat) (64)) h < (32 : Int)) ∧ True) ∧ (IsInt IntKind.i64 ws ((64 : Nat) + Int.toNat (slW (Array.extract ws (0 : Nat) (64)) h) * 12) ∧ True) ∧ (((0 : Int) ≤ slW (Array.extract ws (0 : Nat) (64)) h ∧ slW (Array.extract ws (0 : Nat) (64)) h < (32 : Int)) ∧ True) ∧ ((64 : Nat) + Int.toNat (slW (Array.extract ws (0 : Nat) (64)) h) * 12 + List.length [Value.int IntKind.i64 (intAt ws ((64 : Nat) + Int.toNat (slW (Array.extract ws (0 : Nat) (64)) h) * 12)), Value.int IntKind.i64 q, v, Value.int IntKind.i64 l, Value.int IntKind.i64 c0, Value.int IntKind.i64 c1, Value.int IntKind.i64 c2, Value.int IntKind.i64 c3, Value.int IntKind.i64 c4, Value.int IntKind.i64 c5, Value.int IntKind.i64 c6, Value.int IntKind.i64 c7] ≤ Array.size ws ∧ True) ∧ (Array.size (putAt ws ((64 : Nat) + Int.toNat (slW (Array.extract ws (0 : Nat) (64)) h) * 12) [Value.int IntKind.i64 (intAt ws ((64 : Nat) + Int.toNat (slW (Array.extract ws (0 : Nat) (64)) h) * 12)), Value.int IntKind.i64 q, v, Value.int IntKind.i64 l, Value.int IntKind.i64 c0, Value.int IntKind.i64 c1, Value.int IntKind.i64 c2, Value.int IntKind.i64 c3, Value.int IntKind.i64 c4, Value.int IntKind.i64 c5, Value.int IntKind.i64 c6, Value.int IntKind.i64 c7]) = (448 : Nat) ∧ True) ∧ (Array.size (putAt ws ((64 : Nat) + Int.toNat (slW (Array.extract ws (0 : Nat) (64)) h) * 12) [Value.int IntKind.i64 (intAt ws ((64 : Nat) + Int.toNat (slW (Array.extract ws (0 : Nat) (64)) h) * 12)), Value.int IntKind.i64 q, v, Value.int IntKind.i64 l, Value.int IntKind.i64 c0, Value.int IntKind.i64 c1, Value.int IntKind.i64 c2, Value.int IntKind.i64 c3, Value.int IntKind.i64 c4, Value.int IntKind.i64 c5, Value.int IntKind.i64 c6, Value.int IntKind.i64 c7]) = (448 : Nat) ∧ Array.size (putAt ws ((64 : Nat) + Int.toNat (slW (Array.extract ws (0 : Nat) (64)) h) * 12) [Value.int IntKind.i64 (intAt ws ((64 : Nat) + Int.toNat (slW (Array.extract ws (0 : Nat) (64)) h) * 12)), Value.int IntKind.i64 q, v, Value.int IntKind.i64 l, Value.int IntKind.i64 c0, Value.int IntKind.i64 c1, Value.int IntKind.i64 c2, Value.int IntKind.i64 c3, Value.int IntKind.i64 c4, Value.int IntKind.i64 c5, Value.int IntKind.i64 c6, Value.int IntKind.i64 c7]) = (448 : Nat) ∧ True) ∧ (Array.size (putAt ws ((64 : Nat) + Int.toNat (slW (Array.extract ws (0 : Nat) (64)) h) * 12) [Value.int IntKind.i64 (intAt ws ((64 : Nat) + Int.toNat (slW (Array.extract ws (0 : Nat) (64)) h) * 12)), Value.int IntKind.i64 q, v, Value.int IntKind.i64 l, Value.int IntKind.i64 c0, Value.int IntKind.i64 c1, Value.int IntKind.i64 c2, Value.int IntKind.i64 c3, Value.int IntKind.i64 c4, Value.int IntKind.i64 c5, Value.int IntKind.i64 c6, Value.int IntKind.i64 c7]) = (448 : Nat) ∧ True) ∧ o = putAt ws ((64 : Nat) + Int.toNat (slW (Array.extract ws (0 : Nat) (64)) h) * 12) [Value.int IntKind.i64 (intAt ws ((64 : Nat) + Int.toNat (slW (Array.extract ws (0 : Nat) (64)) h) * 12)), Value.int IntKind.i64 q, v, Value.int IntKind.i64 l, Value.int IntKind.i64 c0, Value.int IntKind.i64 c1, Value.int IntKind.i64 c2, Value.int IntKind.i64 c3, Value.int IntKind.i64 c4, Value.int IntKind.i64 c5, Value.int IntKind.i64 c6, Value.int IntKind.i64 c7] ∧ e = (0 : Int) ∧ True)) ∧ ((decide (q > (64 : Int)) == false) = false → (Array.size ws = (448 : Nat) ∧ True) ∧ (Array.size ws = (448 : Nat) ∧ Array.size ws = (448 : Nat) ∧ True) ∧ (Array.size ws = (448 : Nat) ∧ True) ∧ o = ws ∧ e = (2 : Int) ∧ True)) ∧ ((decide (q < (0 : Int)) == false) = false → (Array.size ws = (448 : Nat) ∧ True) ∧ (Array.size ws = (448 : Nat) ∧ Array.size ws = (448 : Nat) ∧ True) ∧ (Array.size ws = (448 : Nat) ∧ True) ∧ o = ws ∧ e = (2 : Int) ∧ True))) := by kernel_rfl
end Go.Proofs.YtjjeahnbppmigaaDoor
/- The document's table behind the program's: what it is to be the same; Good, Get, up: contracts. No condition. -/
namespace Go.Proofs.YtjjeahnbppmigaaDoor
set_option linter.unusedSectionVars false
variable [Gh]
set_option maxRecDepth 100000
set_option linter.unusedSimpArgs false
set_option linter.unusedVariables false
omit [Gh] in
def rwD (u q l : Int) (c : Nat → Int) : Array Value := #[.int .i64 u, .int .i64 q, .slice none 0 0, .int .i64 l, .int .i64 (c 0), .int .i64 (c 1), .int .i64 (c 2), .int .i64 (c 3), .int .i64 (c 4), .int .i64 (c 5), .int .i64 (c 6), .int .i64 (c 7)]
omit [Gh] in
def nmF (ts : Array Value) (i : Nat) : Int := nameI i (ageAt (bkB ts) i)
omit [Gh] in
def rwF (ts : Array Value) (h : Int) : Array Value := rwD (upF ts h) (quF ts h) (lnF ts h) (ceF ts h)
def SR (p d : Value) : Prop := ∃ row, SlQ p row ∧ ((∃ a c, d = .slice a 0 c ∧ row = #[]) ∨ SlQ d row)
theorem SR.nv {p d : Value} (h : SR p d) : nV p = nV d := by
  obtain ⟨row, h1, ⟨a, c, rfl, rfl⟩ | h2⟩ := h
  · have := h1.pr.2
    have : 0 = nV p * 2 := this
    show nV p = 0
    omega
  · have k1 := h1.pr.2
    have k2 := h2.pr.2
    omega
theorem SR.x {p d : Value} (h : SR p d) : SlX d := by
  obtain ⟨row, h1, ⟨a, c, e, _⟩ | h2⟩ := h
  · exact .inl ⟨a, c, e⟩
  · exact .inr ⟨row, h2⟩
theorem SR.one {p d : Value} (h : SR p d) : d.oneCell' = true := by
  obtain ⟨row, h1, ⟨a, c, rfl, _⟩ | ⟨rfl, _⟩ | ⟨b, o, n, c, cs, rfl, _⟩⟩ := h <;> rfl
theorem SR.nil : SR (.slice none 0 0) (.slice none 0 0) := ⟨#[], .inl ⟨rfl, rfl⟩, .inr (.inl ⟨rfl, rfl⟩)⟩
structure SW (ts ws : Array Value) : Prop where
  sz : ws.size = 448
  g : ∀ i, i < 32 → ws[i]? = some (.int .i64 (ageAt (bkB ts) i))
  s : ∀ i, i < 32 → ws[32 + i]? = some (.int .i64 (kindAt (bkB ts) i))
  r : ∀ i, i < 32 → kindAt (bkB ts) i = 1 → ∀ j, j < 12 → j ≠ 2 → ws[64 + i * 12 + j]? = (rwF ts (nmF ts i))[j]?
  v : ∀ i, i < 32 → kindAt (bkB ts) i = 1 → ∃ v, ws[64 + i * 12 + 2]? = some v ∧ SR (slF ts (nmF ts i)) v
  z : ∀ i, i < 32 → kindAt (bkB ts) i ≠ 1 → ∀ j, j < 12 → ws[64 + i * 12 + j]? = (rwD 0 0 0 fun _ => 0)[j]?
section
variable {ts ws : Array Value}
theorem SW.bk (w : SW ts ws) {i : Nat} (hi : i < 64) : (ws.extract 0 64)[i]? = ws[i]? := by
  have hz := w.sz
  rw [ext_get (by omega) (by omega), Nat.zero_add]
theorem SW.gn (w : SW ts ws) {i : Nat} (hi : i < 32) : gnW (ws.extract 0 64) i = ageAt (bkB ts) i := intAt_of (by rw [w.bk (by omega)]; exact w.g i hi)
theorem SW.kn (w : SW ts ws) {i : Nat} (hi : i < 32) : knW (ws.extract 0 64) i = kindAt (bkB ts) i := intAt_of (by rw [w.bk (by omega)]; exact w.s i hi)
theorem SW.wb (w : SW ts ws) (hb : TbOk ts) : WB (ws.extract 0 64) := by
  have hz := w.sz
  refine ⟨by rw [ext_size (by omega)], fun i hi => isI_of (by rw [w.bk (by omega)]; exact w.g i hi), fun i hi => isI_of (by rw [w.bk (by omega)]; exact w.s i hi), fun i hi => ?_, fun i hi => ?_⟩
  · rw [w.gn hi]; exact hb.bk.ra i hi
  · rw [w.kn hi]; exact hb.bk.rk i hi
omit [Gh] in
theorem slFrom_of {vs : Array Value} {h : Int} {k : Nat} (h0 : ∀ j, j < 32 → knW vs j = 1 ∧ nameI j (gnW vs j) = h → j = k) (hk : knW vs k = 1 ∧ nameI k (gnW vs k) = h) : ∀ (n i : Nat), i + n = 32 → i ≤ k → k < 32 → slFrom vs h n i = (k : Int)
  | 0, i, e, h1, h2 => by omega
  | n + 1, i, e, h1, h2 => by
    show (if knW vs i = 1 ∧ nameI i (gnW vs i) = h then (i : Int) else slFrom vs h n (i + 1)) = _
    split
    · rename_i c; rw [h0 i (by omega) c]
    · rename_i c
      by_cases e2 : i = k
      · rw [e2] at c; exact absurd hk c
      · exact slFrom_of h0 hk n (i + 1) (by omega) (by omega) h2
omit [Gh] in
theorem slFrom_no {vs : Array Value} {h : Int} (h0 : ∀ j, j < 32 → ¬ (knW vs j = 1 ∧ nameI j (gnW vs j) = h)) : ∀ (n i : Nat), i + n = 32 → slFrom vs h n i = -1
  | 0, i, e => rfl
  | n + 1, i, e => by
    show (if knW vs i = 1 ∧ nameI i (gnW vs i) = h then (i : Int) else slFrom vs h n (i + 1)) = _
    rw [if_neg (h0 i (by omega))]
    exact slFrom_no h0 n (i + 1) (by omega)
theorem SW.slot (w : SW ts ws) (hb : TbOk ts) (h : Int) : slW (ws.extract 0 64) h = if gdF ts h = true then (sl h : Int) else -1 := by
  unfold slW
  split
  · rename_i hg
    obtain ⟨_, _, h32, hk, hn, _⟩ := good_f hb hg
    refine slFrom_of (k := sl h) (fun j hj c => ?_) ?_ 32 0 rfl (Nat.zero_le _) h32
    · rw [w.kn hj, w.gn hj] at c
      exact (name_inj hj h32 (c.2.trans hn)).1
    · rw [w.kn h32, w.gn h32]
      exact ⟨hk, hn.symm⟩
  · rename_i hg
    refine slFrom_no (fun j hj c => ?_) 32 0 rfl
    rw [w.kn hj, w.gn hj] at c
    exact hg ((goodB_iff hb.bk).2 ⟨j, hj, c.1, c.2.symm⟩)
theorem SW.cell (w : SW ts ws) (hb : TbOk ts) {h : Int} (hg : gdF ts h = true) {j : Nat} (hj : j < 12) (h2 : j ≠ 2) : ws[64 + sl h * 12 + j]? = (rwF ts h)[j]? := by
  obtain ⟨_, _, h32, hk, hn, _⟩ := good_f hb hg
  have := w.r (sl h) h32 hk j hj h2
  unfold nmF at this
  rw [← hn] at this
  exact this
omit [Gh] in
def dvF (ts ws : Array Value) (h : Int) : Value := valAt ws (pl h + 2)
theorem SW.sli (w : SW ts ws) (hb : TbOk ts) {h : Int} (hg : gdF ts h = true) : ws[64 + sl h * 12 + 2]? = some (dvF ts ws h) ∧ SR (slF ts h) (dvF ts ws h) := by
  obtain ⟨_, _, h32, hk, hn, _⟩ := good_f hb hg
  obtain ⟨v, k1, k2⟩ := w.v (sl h) h32 hk
  have e : dvF ts ws h = v := by unfold dvF valAt pl; rw [k1]; rfl
  unfold nmF at k2
  rw [← hn] at k2
  rw [e]
  exact ⟨k1, k2⟩
theorem EI1_ok : EnvOk EI1 := EnvOk.with E0_ok _ _ fun g l m t h => by
  unfold conI1 at h
  split at h
  · rename_i ws x; cases h
    refine Con.asked fun hq => Con.args (l' := [wbS ws, i64 (.o x.den)]) (fun R vs ha => by
      match vs, ha with
      | [v, w], ha => exact ⟨ha.1, ha.2.1, trivial⟩) ?_
    intro A hs
    exact rslot_con x.den m A ⟨fun p hp => hq p hp, hs⟩
  · rename_i ws; cases h
    exact rissue_con m
  · rename_i v L; cases h
    exact rmay_val v L m
  · exact conI0_ok _ _ _ _ h
theorem rgood_con (h : Int) (m : SMem) : Con E0 13 [wtS ws, i64 (.o h)] m (needs [SW ts ws, TbOk ts] (.ret (sB (.o (gdF ts h))) m)) := by
  refine Con.pure E0_ok (by kernel_rfl : E0.fn 13 = some Tryd.f13) (by kernel_rfl : Tryd.f13.body = some (Tryd.f13.body.getD .skip)) (by kernel_rfl) (by kernel_rfl) fun hq => ?_
  have w : SW ts ws := hq _ (by simp)
  have hb : TbOk ts := hq _ (by simp)
  refine (Good.ret [] (run_vc EI1_ok 1000 (rg0 ws h (gdF ts h)) ?_ (fun s m h => h) fun _ _ h => h.elim)).mono fun _ _ h => h.1
  have hz := w.sz
  have hle : 64 ≤ ws.size := by omega
  have h64 : (64 : Nat) ≤ 448 := by decide
  have wb := w.wb hb
  have es := w.slot hb h
  cases hg : gdF ts h with
  | true =>
    have d : decide (slW (ws.extract 0 64) h ≥ 0) = true := decide_eq_true (by rw [es, if_pos hg]; omega)
    simp only [hz, h64, hle, wb, d, and_true, true_and]
  | false =>
    have d : decide (slW (ws.extract 0 64) h ≥ 0) = false := decide_eq_false (by rw [es, if_neg (by rw [hg]; decide)]; omega)
    simp only [hz, h64, hle, wb, d, and_true, true_and]
omit [Gh] in
def gdC (ts : Array Value) (h : Int) (x : SC) : List SC := rgD (upF ts h) (quF ts h) x (lnF ts h) (ceF ts h 0) (ceF ts h 1) (ceF ts h 2) (ceF ts h 3) (ceF ts h 4) (ceF ts h 5) (ceF ts h 6) (ceF ts h 7)
omit [Gh] in
def zdC : List SC := rgD 0 0 nilC 0 0 0 0 0 0 0 0 0
noncomputable def gdT (ts ws : Array Value) (h : Int) (m : SMem) : Tree := .need [SW ts ws, TbOk ts] (.br (gdF ts h) (.ret (.tup [.agg (.ls (gdC ts h (opC (dvF ts ws h)))), erS 0]) m) (.ret (.tup [.agg (.ls zdC), erS 4]) m))
omit [Gh] in
theorem gdR_nil {v : Value} {u q l c0 c1 c2 c3 c4 c5 c6 c7 e : Int} {s : SV} {m : SMem} (h : gdR false v u q l c0 c1 c2 c3 c4 c5 c6 c7 e s m) : retOk 0 [] (.tup [.agg (.ls (rgD u q nilC l c0 c1 c2 c3 c4 c5 c6 c7)), .c (.f (.int .i64 (.o e)))]) e0M s m := by
  unfold gdR at h
  split at h
  · cases h.1
  · exact h.2
omit [Gh] in
theorem gdR_val {v : Value} {u q l c0 c1 c2 c3 c4 c5 c6 c7 e : Int} {s : SV} {m : SMem} (h : gdR true v u q l c0 c1 c2 c3 c4 c5 c6 c7 e s m) : retOk 0 [] (.tup [.agg (.ls (rgD u q (opC v) l c0 c1 c2 c3 c4 c5 c6 c7)), .c (.f (.int .i64 (.o e)))]) e0M s m := by
  unfold gdR at h
  split at h
  · exact h.2
  · cases h.1
theorem rget_con (h : Int) (m : SMem) : Con E0 30 [wtS ws, i64 (.o h)] m (gdT ts ws h m) := by
  refine Con.asked fun hq => ?_
  have w : SW ts ws := hq _ (by simp)
  have hb : TbOk ts := hq _ (by simp)
  have f1 : E0.fn 30 = some Tryd.f30 := by kernel_rfl
  have f2 : Tryd.f30.body = some (Tryd.f30.body.getD .skip) := by kernel_rfl
  have hz := w.sz
  have hle : 64 ≤ ws.size := by omega
  have h64 : (64 : Nat) ≤ 448 := by decide
  have wb := w.wb hb
  have es := w.slot hb h
  refine Con.two (fun hg => ?_) (fun hg => ?_)
  · have key : Con E0 30 [wtS ws, i64 (.o h)] m (needs [] (.ret (.tup [.agg (.ls (gdC ts h (opC (dvF ts ws h)))), erS 0]) m)) := by
      refine Con.pure E0_ok f1 f2 rfl rfl fun _ => ?_
      refine (Good.ret [] ((run_vc EI1_ok 1000 (rt0 ws h true (dvF ts ws h) (upF ts h) (quF ts h) (lnF ts h) (ceF ts h 0) (ceF ts h 1) (ceF ts h 2) (ceF ts h 3) (ceF ts h 4) (ceF ts h 5) (ceF ts h 6) (ceF ts h 7) 0) ?_ (fun s m h => h) fun _ _ h => h.elim).mono fun _ _ h => gdR_val h)).mono fun _ _ h => h.1
      rw [if_pos hg] at es
      have h32 := (good_f hb hg).2.2.1
      have d : decide ((sl h : Int) < 0) = false := decide_eq_false (by omega)
      have y0 : (0 : Int) ≤ (sl h : Int) := by omega
      have y1 : (sl h : Int) < 32 := by omega
      have c : ∀ j, j < 12 → j ≠ 2 → ws[64 + sl h * 12 + j]? = (rwF ts h)[j]? := fun j hj h2 => w.cell hb hg hj h2
      have c0 : ws[64 + sl h * 12]? = some (.int .i64 (upF ts h)) := c 0 (by decide) (by decide)
      have c1 : ws[64 + sl h * 12 + 1]? = some (.int .i64 (quF ts h)) := c 1 (by decide) (by decide)
      have c2 := (w.sli hb hg).1
      have o2 : IsOne ws (64 + sl h * 12 + 2) := ⟨_, c2, (w.sli hb hg).2.one⟩
      have v2 : valAt ws (64 + sl h * 12 + 2) = dvF ts ws h := rfl
      have c3 : ws[64 + sl h * 12 + 3]? = some (.int .i64 (lnF ts h)) := c 3 (by decide) (by decide)
      have c4 : ws[64 + sl h * 12 + 4]? = some (.int .i64 (ceF ts h 0)) := c 4 (by decide) (by decide)
      have c5 : ws[64 + sl h * 12 + 5]? = some (.int .i64 (ceF ts h 1)) := c 5 (by decide) (by decide)
      have c6 : ws[64 + sl h * 12 + 6]? = some (.int .i64 (ceF ts h 2)) := c 6 (by decide) (by decide)
      have c7 : ws[64 + sl h * 12 + 7]? = some (.int .i64 (ceF ts h 3)) := c 7 (by decide) (by decide)
      have c8 : ws[64 + sl h * 12 + 8]? = some (.int .i64 (ceF ts h 4)) := c 8 (by decide) (by decide)
      have c9 : ws[64 + sl h * 12 + 9]? = some (.int .i64 (ceF ts h 5)) := c 9 (by decide) (by decide)
      have c10 : ws[64 + sl h * 12 + 10]? = some (.int .i64 (ceF ts h 6)) := c 10 (by decide) (by decide)
      have c11 : ws[64 + sl h * 12 + 11]? = some (.int .i64 (ceF ts h 7)) := c 11 (by decide) (by decide)
      simp only [hz, h64, hle, wb, d, es, y0, y1, Int.toNat_natCast, o2, v2, isI_of c0, isI_of c1, isI_of c3, isI_of c4, isI_of c5, isI_of c6, isI_of c7, isI_of c8, isI_of c9, isI_of c10, isI_of c11, intAt_of c0, intAt_of c1, intAt_of c3, intAt_of c4, intAt_of c5, intAt_of c6, intAt_of c7, intAt_of c8, intAt_of c9, intAt_of c10, intAt_of c11, true_implies, Bool.false_eq_true, false_implies, and_true, true_and]
    intro A hA
    exact key A hA
  · have key : Con E0 30 [wtS ws, i64 (.o h)] m (needs [] (.ret (.tup [.agg (.ls zdC), erS 4]) m)) := by
      refine Con.pure E0_ok f1 f2 rfl rfl fun _ => ?_
      refine (Good.ret [] ((run_vc EI1_ok 1000 (rt0 ws h false (.slice none 0 0) 0 0 0 0 0 0 0 0 0 0 0 4) ?_ (fun s m h => h) fun _ _ h => h.elim).mono fun _ _ h => gdR_nil h)).mono fun _ _ h => h.1
      rw [if_neg (by rw [hg]; decide)] at es
      have d : decide (slW (ws.extract 0 64) h < 0) = true := decide_eq_true (by rw [es]; omega)
      simp only [hz, h64, hle, wb, d, true_implies, Bool.true_eq_false, false_implies, and_true, true_and]
    intro A hA
    exact key A hA
end
end Go.Proofs.YtjjeahnbppmigaaDoor
/- The document's table: All, Above, Depth, Root: states. No condition. -/
namespace Go.Proofs.YtjjeahnbppmigaaDoor
set_option linter.unusedSectionVars false
variable [Gh]
set_option linter.unusedVariables false
omit [Gh] in
def i64s (l : List Int) : Array Value := (l.map (Value.int .i64)).toArray
omit [Gh] in
noncomputable def rowW (l : List Int) (m : SMem) : Tree := .br (decide (l.length = 0)) (.ret (.s (.c (.f (.lit (.slice none 0 0))))) m) (.ret (.s (.c (.f (.slice m.next (.l 0) (.o l.length) (.full 1))))) (m.new (.pop (i64s l)) 3))
omit [Gh] in
noncomputable def nlS : SV := .s (.c (.f (.lit (.slice none 0 0))))
omit [Gh] in
noncomputable def slS (i n : Nat) : SV := .s (.c (.f (.slice i (.l 0) (.o n) (.full 1))))
noncomputable def conI2 (ts : Array Value) (g : FuncId) (l : List SV) (m : SMem) : Option Tree := match g, l with
  | 13, [.s (.agg (.op ws)), .s (.c (.f (.int .i64 h)))] => some (.need [SW ts ws, TbOk ts] (.ret (sB (.o (gdF ts h.den))) m))
  | 30, [.s (.agg (.op ws)), .s (.c (.f (.int .i64 h)))] => some (gdT ts ws h.den m)
  | g, l => conI1 g l m
noncomputable def EI2 : Env := ⟨Tryd.prog, fnOf, conI1, haltAt [29 * 1000 + 3, 43 * 1000 + 1]⟩
omit [Gh] in
noncomputable def qZ_d0 : List SIt := sekF Tryd.f29 3
omit [Gh] in
noncomputable def qZ_F (ws : Array Value) (i : Int) : List SFr := [frOf 29 Tryd.f29 [(1, ptr 0 (.l 0)), (3, nlS), (4, i64 (.o i))] qZ_d0]
omit [Gh] in
noncomputable def qZ_M (ws : Array Value) (i : Int) : SMem := mkM 1 [(0, ⟨.op ws, 55, true⟩)]
omit [Gh] in
noncomputable def qZ_n (ws : Array Value) (Q : Int → Prop) (fs : List SFr) (m : SMem) : Prop := (match frNth fs 0 with | some f0 => (match rdI f0 4 with | some i => (match rdP f0 1 with | some p0 => Q i ∧ subOk 0 [(0, p0)] (qZ_F ws i) (qZ_M ws i) fs m | none => False) | none => False) | none => False)
omit [Gh] in
noncomputable def qS_d0 : List SIt := sekF Tryd.f29 3
omit [Gh] in
noncomputable def qS_F (ws : Array Value) (i : Int) (k : Nat) (cs : Array Value) : List SFr := [frOf 29 Tryd.f29 [(1, ptr 0 (.l 0)), (3, slS 1 k), (4, i64 (.o i))] qS_d0]
omit [Gh] in
noncomputable def qS_M (ws : Array Value) (i : Int) (k : Nat) (cs : Array Value) : SMem := mkM 2 [(0, ⟨.op ws, 55, true⟩), (1, ⟨.pop cs, 3, true⟩)]
omit [Gh] in
noncomputable def qS_n (ws : Array Value) (Q : Int → Nat → Array Value → Prop) (fs : List SFr) (m : SMem) : Prop := (match frNth fs 0 with | some f0 => (match rdI f0 4 with | some i => (match rdP f0 1 with | some p0 => (match rdSI f0 3 with | some p1 => (match rdSN f0 3 with | some k => (match rdA m p1 with | some cs => Q i k cs ∧ subOk 0 [(0, p0), (1, p1)] (qS_F ws i k cs) (qS_M ws i k cs) fs m | none => False) | none => False) | none => False) | none => False) | none => False) | none => False)
omit [Gh] in
noncomputable def qA_d0 : List SIt := sekF Tryd.f43 1
omit [Gh] in
noncomputable def qA_F (ws : Array Value) (a : Int) (h : Int) : List SFr := [frOf 43 Tryd.f43 [(1, i64 (.o a)), (2, i64 (.o h)), (3, ptr 0 (.l 0))] qA_d0]
omit [Gh] in
noncomputable def qA_M (ws : Array Value) (a : Int) (h : Int) : SMem := mkM 1 [(0, ⟨.op ws, 55, true⟩)]
omit [Gh] in
noncomputable def qA_n (ws : Array Value) (a : Int) (Q : Int → Prop) (fs : List SFr) (m : SMem) : Prop := (match frNth fs 0 with | some f0 => (match rdI f0 2 with | some h => (match rdP f0 3 with | some p0 => Q h ∧ subOk 0 [(0, p0)] (qA_F ws a h) (qA_M ws a h) fs m | none => False) | none => False) | none => False)
omit [Gh] in
noncomputable def qZS (ws : Array Value) (QZ : Int → Prop) (QS : Int → Nat → Array Value → Prop) (fs : List SFr) (m : SMem) : Prop := match fs with | f :: _ => (match f.tm.get 3 with | some (.s (.c (.f (.slice _ _ _ _)))) => qS_n ws QS fs m | _ => qZ_n ws QZ fs m) | [] => False
noncomputable def qz1_t (ws : Array Value) (i : Int) : Tree := stepT EI2.go (run EI2 1000) 0 (qZ_F ws i) (qZ_M ws i)
noncomputable def qs1_t (ws : Array Value) (i : Int) (k : Nat) (cs : Array Value) : Tree := stepT EI2.go (run EI2 1000) 0 (qS_F ws i k cs) (qS_M ws i k cs)
noncomputable def qa1_t (ws : Array Value) (a h : Int) : Tree := stepT EI2.go (run EI2 1000) 0 (qA_F ws a h) (qA_M ws a h)
omit [Gh] in
theorem qZ_d0_ok (r : Nat → Option Nat) : TodoOk r qZ_d0 qZ_d0 := TodoOk.it (by kernel_rfl)
omit [Gh] in
theorem qS_d0_ok (r : Nat → Option Nat) : TodoOk r qS_d0 qS_d0 := TodoOk.it (by kernel_rfl)
omit [Gh] in
theorem qA_d0_ok (r : Nat → Option Nat) : TodoOk r qA_d0 qA_d0 := TodoOk.it (by kernel_rfl)
theorem qZ_good {A : SV → SMem → Prop} {ws : Array Value} {Q : Int → Prop} {fs : List SFr} {m : SMem} (H : ∀ i, Q i → Good Tryd.prog A 0 (qZ_F ws i) (qZ_M ws i)) (hb : qZ_n ws Q fs m) : Good Tryd.prog A 0 fs m := by
  unfold qZ_n at hb
  split at hb
  rotate_left
  · exact hb.elim
  split at hb
  rotate_left
  · exact hb.elim
  split at hb
  rotate_left
  · exact hb.elim
  exact Good.of_sub hb.2 (H _ hb.1)
theorem qS_good {A : SV → SMem → Prop} {ws : Array Value} {Q : Int → Nat → Array Value → Prop} {fs : List SFr} {m : SMem} (H : ∀ i k cs, Q i k cs → Good Tryd.prog A 0 (qS_F ws i k cs) (qS_M ws i k cs)) (hb : qS_n ws Q fs m) : Good Tryd.prog A 0 fs m := by
  unfold qS_n at hb
  split at hb
  rotate_left
  · exact hb.elim
  split at hb
  rotate_left
  · exact hb.elim
  split at hb
  rotate_left
  · exact hb.elim
  split at hb
  rotate_left
  · exact hb.elim
  split at hb
  rotate_left
  · exact hb.elim
  split at hb
  rotate_left
  · exact hb.elim
  exact Good.of_sub hb.2 (H _ _ _ hb.1)
theorem qA_good {A : SV → SMem → Prop} {ws : Array Value} {a : Int} {Q : Int → Prop} {fs : List SFr} {m : SMem} (H : ∀ h, Q h → Good Tryd.prog A 0 (qA_F ws a h) (qA_M ws a h)) (hb : qA_n ws a Q fs m) : Good Tryd.prog A 0 fs m := by
  unfold qA_n at hb
  split at hb
  rotate_left
  · exact hb.elim
  split at hb
  rotate_left
  · exact hb.elim
  split at hb
  rotate_left
  · exact hb.elim
  exact Good.of_sub hb.2 (H _ hb.1)
end Go.Proofs.YtjjeahnbppmigaaDoor
/- The document's table: All, Above, Depth, Root: states. -/
namespace Go.Proofs.YtjjeahnbppmigaaDoor
set_option linter.unusedSectionVars false
variable [Gh]
set_option maxRecDepth 100000
theorem qa0 (ws : Array Value) (Q : Int → Prop) : (run EI2 1000 0 [callFr 29 Tryd.f29.ntmps [wtS ws] (Tryd.f29.body.getD .skip)] e0M).vc (fun _ _ => False) (qZ_n ws Q) =
    (Q (0 : Int) ∧ CallKind.normal = CallKind.normal ∧ TodoOk (ren 0 [(0, 0)]) qZ_d0 qZ_d0 ∧ Value.slice none (0 : Nat) (0 : Nat) = Value.slice none (0 : Nat) (0 : Nat) ∧ (0 : Int) = (0 : Int) ∧ (55 : TypeId) = (55 : Nat) ∧ ws = ws ∧ True) := by kernel_rfl
theorem qzN (ws : Array Value) (i : Int) (QZ : Int → Prop) (QS : Int → Nat → Array Value → Prop) : (qz1_t ws i).vc nilA (qZS ws QZ QS) =
    ((decide (i < (32 : Int)) = true → (((0 : Int) ≤ i ∧ i < (32 : Int)) ∧ True) ∧ (IsInt IntKind.i64 ws ((32 : Nat) + Int.toNat i * 1) ∧ True) ∧ ((intAt ws ((32 : Nat) + Int.toNat i * 1) == (1 : Int)) = true → (64 ≤ Array.size ws ∧ True) ∧ (WB (Array.extract ws (0 : Nat) (64)) ∧ ((0 : Int) ≤ i ∧ i < (32 : Int)) ∧ True) ∧ QS (ari BinOp.add IntKind.i64 i (1 : Int)) (1 : Nat) #[Value.int IntKind.i64 (nameI (Int.toNat i) (gnW (Array.extract ws (0 : Nat) (64)) (Int.toNat i)))] ∧ CallKind.normal = CallKind.normal ∧ TodoOk (ren 0 [(0, 0), (1, 2)]) qZ_d0 qZ_d0 ∧ (1 : Nat) = (1 : Nat) ∧ ari BinOp.add IntKind.i64 i (1 : Int) = ari BinOp.add IntKind.i64 i (1 : Int) ∧ (55 : TypeId) = (55 : TypeId) ∧ ws = ws ∧ (3 : TypeId) = (3 : Nat) ∧ #[Value.int IntKind.i64 (nameI (Int.toNat i) (gnW (Array.extract ws (0 : Nat) (64)) (Int.toNat i)))] = #[Value.int IntKind.i64 (nameI (Int.toNat i) (gnW (Array.extract ws (0 : Nat) (64)) (Int.toNat i)))] ∧ True) ∧ ((intAt ws ((32 : Nat) + Int.toNat i * 1) == (1 : Int)) = false → QZ (ari BinOp.add IntKind.i64 i (1 : Int)) ∧ CallKind.normal = CallKind.normal ∧ TodoOk (ren 0 [(0, 0)]) qZ_d0 qZ_d0 ∧ Value.slice none (0 : Nat) (0 : Nat) = Value.slice none (0 : Nat) (0 : Nat) ∧ ari BinOp.add IntKind.i64 i (1 : Int) = ari BinOp.add IntKind.i64 i (1 : Int) ∧ (55 : TypeId) = (55 : TypeId) ∧ ws = ws ∧ True)) ∧ (decide (i < (32 : Int)) = false → Value.slice none (0 : Nat) (0 : Nat) = Value.slice none (0 : Nat) (0 : Nat) ∧ True)) := by kernel_rfl
theorem qzF (ws : Array Value) (i : Int) (kF : Nat) (csF : Array Value) (QZ : Int → Prop) (QS : Int → Nat → Array Value → Prop) : (qz1_t ws i).vc (freshA kF csF 3) (qZS ws QZ QS) =
    ((decide (i < (32 : Int)) = true → (((0 : Int) ≤ i ∧ i < (32 : Int)) ∧ True) ∧ (IsInt IntKind.i64 ws ((32 : Nat) + Int.toNat i * 1) ∧ True) ∧ ((intAt ws ((32 : Nat) + Int.toNat i * 1) == (1 : Int)) = true → (64 ≤ Array.size ws ∧ True) ∧ (WB (Array.extract ws (0 : Nat) (64)) ∧ ((0 : Int) ≤ i ∧ i < (32 : Int)) ∧ True) ∧ QS (ari BinOp.add IntKind.i64 i (1 : Int)) (1 : Nat) #[Value.int IntKind.i64 (nameI (Int.toNat i) (gnW (Array.extract ws (0 : Nat) (64)) (Int.toNat i)))] ∧ CallKind.normal = CallKind.normal ∧ TodoOk (ren 0 [(0, 0), (1, 2)]) qZ_d0 qZ_d0 ∧ (1 : Nat) = (1 : Nat) ∧ ari BinOp.add IntKind.i64 i (1 : Int) = ari BinOp.add IntKind.i64 i (1 : Int) ∧ (55 : TypeId) = (55 : TypeId) ∧ ws = ws ∧ (3 : TypeId) = (3 : Nat) ∧ #[Value.int IntKind.i64 (nameI (Int.toNat i) (gnW (Array.extract ws (0 : Nat) (64)) (Int.toNat i)))] = #[Value.int IntKind.i64 (nameI (Int.toNat i) (gnW (Array.extract ws (0 : Nat) (64)) (Int.toNat i)))] ∧ True) ∧ ((intAt ws ((32 : Nat) + Int.toNat i * 1) == (1 : Int)) = false → QZ (ari BinOp.add IntKind.i64 i (1 : Int)) ∧ CallKind.normal = CallKind.normal ∧ TodoOk (ren 0 [(0, 0)]) qZ_d0 qZ_d0 ∧ Value.slice none (0 : Nat) (0 : Nat) = Value.slice none (0 : Nat) (0 : Nat) ∧ ari BinOp.add IntKind.i64 i (1 : Int) = ari BinOp.add IntKind.i64 i (1 : Int) ∧ (55 : TypeId) = (55 : TypeId) ∧ ws = ws ∧ True)) ∧ (decide (i < (32 : Int)) = false → False)) := by kernel_rfl
theorem qsF (ws : Array Value) (i : Int) (k : Nat) (cs : Array Value) (kF : Nat) (csF : Array Value) (QS : Int → Nat → Array Value → Prop) : (qs1_t ws i k cs).vc (freshA kF csF 3) (qS_n ws QS) =
    ((decide (i < (32 : Int)) = true → (((0 : Int) ≤ i ∧ i < (32 : Int)) ∧ True) ∧ (IsInt IntKind.i64 ws ((32 : Nat) + Int.toNat i * 1) ∧ True) ∧ ((intAt ws ((32 : Nat) + Int.toNat i * 1) == (1 : Int)) = true → (64 ≤ Array.size ws ∧ True) ∧ (WB (Array.extract ws (0 : Nat) (64)) ∧ ((0 : Int) ≤ i ∧ i < (32 : Int)) ∧ True) ∧ (((k + 1) * 8 ≤ (140737488355328 : Nat) ∧ k + 1 ≤ (140737488355328 : Nat)) ∧ k * 1 = Array.size cs ∧ True) ∧ QS (ari BinOp.add IntKind.i64 i (1 : Int)) (k + 1) (cs ++ #[Value.int IntKind.i64 (nameI (Int.toNat i) (gnW (Array.extract ws (0 : Nat) (64)) (Int.toNat i)))]) ∧ CallKind.normal = CallKind.normal ∧ TodoOk (ren 0 [(0, 0), (1, 3)]) qZ_d0 qZ_d0 ∧ k + 1 = k + 1 ∧ ari BinOp.add IntKind.i64 i (1 : Int) = ari BinOp.add IntKind.i64 i (1 : Int) ∧ (55 : TypeId) = (55 : TypeId) ∧ ws = ws ∧ (3 : TypeId) = (3 : Nat) ∧ cs ++ #[Value.int IntKind.i64 (nameI (Int.toNat i) (gnW (Array.extract ws (0 : Nat) (64)) (Int.toNat i)))] = cs ++ #[Value.int IntKind.i64 (nameI (Int.toNat i) (gnW (Array.extract ws (0 : Nat) (64)) (Int.toNat i)))] ∧ True) ∧ ((intAt ws ((32 : Nat) + Int.toNat i * 1) == (1 : Int)) = false → QS (ari BinOp.add IntKind.i64 i (1 : Int)) k cs ∧ CallKind.normal = CallKind.normal ∧ TodoOk (ren 0 [(0, 0), (1, 1)]) qZ_d0 qZ_d0 ∧ k = k ∧ ari BinOp.add IntKind.i64 i (1 : Int) = ari BinOp.add IntKind.i64 i (1 : Int) ∧ (55 : TypeId) = (55 : TypeId) ∧ ws = ws ∧ (3 : TypeId) = (3 : TypeId) ∧ cs = cs ∧ True)) ∧ (decide (i < (32 : Int)) = false → kF = k ∧ (3 : TypeId) = (3 : TypeId) ∧ csF = cs ∧ True)) := by kernel_rfl
theorem abv0 (ws : Array Value) (a h : Int) (Q : Int → Prop) : (run EI2 1000 0 [callFr 43 Tryd.f43.ntmps [wtS ws, i64 (.o a), i64 (.o h)] (Tryd.f43.body.getD .skip)] e0M).vc (fun _ _ => False) (qA_n ws a Q) =
    (Q h ∧ CallKind.normal = CallKind.normal ∧ TodoOk (ren 0 [(0, 0)]) qA_d0 qA_d0 ∧ a = a ∧ h = h ∧ (55 : TypeId) = (55 : Nat) ∧ ws = ws ∧ True) := by kernel_rfl
theorem abv1 (ws : Array Value) (a h : Int) (o : Bool) (Q : Int → Prop) : (qa1_t ws a h).vc (retOk 0 [] (sB (.o o)) e0M) (qA_n ws a Q) =
    (((h != (0 : Int)) = true → (64 ≤ Array.size ws ∧ True) ∧ (WB (Array.extract ws (0 : Nat) (64)) ∧ True) ∧ (((0 : Int) ≤ slW (Array.extract ws (0 : Nat) (64)) h ∧ slW (Array.extract ws (0 : Nat) (64)) h < (32 : Int)) ∧ True) ∧ (IsInt IntKind.i64 ws ((64 : Nat) + Int.toNat (slW (Array.extract ws (0 : Nat) (64)) h) * 12) ∧ True) ∧ ((intAt ws ((64 : Nat) + Int.toNat (slW (Array.extract ws (0 : Nat) (64)) h) * 12) == a) = true → o = (a != (0 : Int)) ∧ True) ∧ ((intAt ws ((64 : Nat) + Int.toNat (slW (Array.extract ws (0 : Nat) (64)) h) * 12) == a) = false → Q (intAt ws ((64 : Nat) + Int.toNat (slW (Array.extract ws (0 : Nat) (64)) h) * 12)) ∧ CallKind.normal = CallKind.normal ∧ TodoOk (ren 0 [(0, 0)]) qA_d0 qA_d0 ∧ a = a ∧ intAt ws ((64 : Nat) + Int.toNat (slW (Array.extract ws (0 : Nat) (64)) h) * 12) = intAt ws ((64 : Nat) + Int.toNat (slW (Array.extract ws (0 : Nat) (64)) h) * 12) ∧ (55 : TypeId) = (55 : TypeId) ∧ ws = ws ∧ True)) ∧ ((h != (0 : Int)) = false → o = false ∧ True)) := by kernel_rfl
end Go.Proofs.YtjjeahnbppmigaaDoor
/- The document's table: All, Above, Depth, Root: contracts. No condition. -/
namespace Go.Proofs.YtjjeahnbppmigaaDoor
set_option linter.unusedSectionVars false
variable [Gh]
set_option maxRecDepth 100000
set_option linter.unusedSimpArgs false
set_option linter.unusedVariables false
theorem conI1_ok : ∀ g l m t, conI1 g l m = some t → Con E0 g l m t := fun g l m t h => by
  unfold conI1 at h
  split at h
  · rename_i ws x; cases h
    refine Con.asked fun hq => Con.args (l' := [wbS ws, i64 (.o x.den)]) (fun R vs ha => by
      match vs, ha with
      | [v, w], ha => exact ⟨ha.1, ha.2.1, trivial⟩) ?_
    intro A hs
    exact rslot_con x.den m A ⟨fun p hp => hq p hp, hs⟩
  · rename_i ws; cases h
    exact rissue_con m
  · rename_i v L; cases h
    exact rmay_val v L m
  · exact conI0_ok _ _ _ _ h
theorem EI2_ok : EnvOk EI2 := EnvOk.with E0_ok _ _ conI1_ok
theorem conI2_ok (ts : Array Value) : ∀ g l m t, conI2 ts g l m = some t → Con E0 g l m t := by
  intro g l m t h
  unfold conI2 at h
  split at h
  · rename_i ws x; cases h
    refine Con.asked fun hq => Con.args (l' := [wtS ws, i64 (.o x.den)]) (fun R vs ha => by
      match vs, ha with
      | [v, w], ha => exact ⟨ha.1, ha.2.1, trivial⟩) ?_
    intro A hs
    exact rgood_con x.den m A ⟨fun p hp => hq p hp, hs⟩
  · rename_i ws x; cases h
    exact Con.args (l' := [wtS ws, i64 (.o x.den)]) (fun R vs ha => by
      match vs, ha with
      | [v, w], ha => exact ⟨ha.1, ha.2.1, trivial⟩) (rget_con x.den m)
  · exact conI1_ok _ _ _ _ h
omit [Gh] in
theorem i64s_size (l : List Int) : (i64s l).size = l.length := by unfold i64s; rw [List.size_toArray, List.length_map]
omit [Gh] in
theorem i64s_app (l : List Int) (x : Int) : i64s (l ++ [x]) = i64s l ++ #[.int .i64 x] := by unfold i64s; simp
omit [Gh] in
theorem i64s_one (x : Int) : i64s [x] = #[.int .i64 x] := rfl
omit [Gh] in
theorem i64s_at {l : List Int} {i : Nat} (hi : i < l.length) : (i64s l)[i]? = some (.int .i64 (l.getD i 0)) := by
  unfold i64s
  rw [List.getElem?_toArray, List.getElem?_map, List.getD_eq_getElem?_getD, List.getElem?_eq_getElem hi]
  rfl
section
variable {ts ws : Array Value}
/-! All. -/
theorem qZS_good {A : SV → SMem → Prop} {QZ : Int → Prop} {QS : Int → Nat → Array Value → Prop} {fs : List SFr} {m : SMem} (hz : ∀ i, QZ i → Good Tryd.prog A 0 (qZ_F ws i) (qZ_M ws i)) (hs : ∀ i k cs, QS i k cs → Good Tryd.prog A 0 (qS_F ws i k cs) (qS_M ws i k cs)) (hb : qZS ws QZ QS fs m) : Good Tryd.prog A 0 fs m := by
  unfold qZS at hb
  split at hb
  · split at hb
    · exact qS_good hs hb
    · exact qZ_good hz hb
  · exact hb.elim
theorem qS_ok (w : SW ts ws) (hb : TbOk ts) : ∀ (n i : Nat), i + n = 32 → Good Tryd.prog (freshA (lvT ts).length (i64s (lvT ts)) 3) 0 (qS_F ws (i : Int) (issL (bkB ts) i).length (i64s (issL (bkB ts) i))) (qS_M ws (i : Int) (issL (bkB ts) i).length (i64s (issL (bkB ts) i))) := by
  have hz := w.sz
  have h64 : (64 : Nat) ≤ 448 := by decide
  have wb := w.wb hb
  intro n
  induction n with
  | zero =>
    intro i hi
    obtain rfl : i = 32 := by omega
    refine past_vc EI2_ok 1000 (qsF ws ((32 : Nat) : Int) _ _ (lvT ts).length (i64s (lvT ts)) (fun _ _ _ => False)) ?_ (fun _ _ h => h) (fun fs m hb => qS_good (fun _ _ _ h => h.elim) hb)
    have d : decide (((32 : Nat) : Int) < 32) = false := rfl
    simp only [d, lvT, issued, true_implies, Bool.true_eq_false, Bool.false_eq_true, false_implies, and_true, true_and]
  | succ n ih =>
    intro i hi
    have hi' : i < 32 := by omega
    refine past_vc EI2_ok 1000 (qsF ws (i : Int) _ _ (lvT ts).length (i64s (lvT ts)) (fun i' k' c' => i' = ((i + 1 : Nat) : Int) ∧ k' = (issL (bkB ts) (i + 1)).length ∧ c' = i64s (issL (bkB ts) (i + 1)))) ?_ (fun _ _ h => h) (fun fs m hb => qS_good (fun i' k' c' ⟨e1, e2, e3⟩ => by rw [e1, e2, e3]; exact ih (i + 1) (by omega)) hb)
    have y0 : 0 ≤ (i : Int) := by omega
    have y1 : (i : Int) < 32 := by omega
    have d : decide ((i : Int) < 32) = true := decide_eq_true y1
    have ei : ari .add .i64 (i : Int) 1 = ((i + 1 : Nat) : Int) := by rw [ari_add, i64_in' (by omega) (by omega)]; omega
    have s1 := isI_of (w.s i hi')
    have s2 := intAt_of (w.s i hi')
    have s3 := w.gn hi'
    have hle := issL_le (bs := bkB ts) i
    have z1 : ((issL (bkB ts) i).length + 1) * 8 ≤ 140737488355328 ∧ (issL (bkB ts) i).length + 1 ≤ 140737488355328 := ⟨by omega, by omega⟩
    by_cases c : kindAt (bkB ts) i = 1
    · have c1 : (kindAt (bkB ts) i == 1) = true := beq_iff_eq.2 c
      simp only [Int.toNat_natCast, Nat.mul_one, d, ei, y0, y1, s1, s2, s3, z1, hz, h64, wb, c, c1, i64s_size, i64s_app, issL_succ, if_true, List.length_append, List.length_cons, List.length_nil, Nat.zero_add, beq_self_eq_true, decide_true, true_implies, Bool.true_eq_false, Bool.false_eq_true, false_implies, and_true, true_and, qZ_d0_ok, qS_d0_ok]
    · have c1 : (kindAt (bkB ts) i == 1) = false := beq_eq_false_iff_ne.2 c
      simp only [Int.toNat_natCast, Nat.mul_one, d, ei, y0, y1, s1, s2, hz, h64, wb, c1, issL_succ, if_neg c, decide_true, true_implies, Bool.true_eq_false, Bool.false_eq_true, false_implies, and_true, true_and, qZ_d0_ok, qS_d0_ok]
theorem qZ_s (w : SW ts ws) (hb : TbOk ts) (hne : lvT ts ≠ []) : ∀ (n i : Nat), i + n = 32 → issL (bkB ts) i = [] → Good Tryd.prog (freshA (lvT ts).length (i64s (lvT ts)) 3) 0 (qZ_F ws (i : Int)) (qZ_M ws (i : Int)) := by
  have hz := w.sz
  have h64 : (64 : Nat) ≤ 448 := by decide
  have wb := w.wb hb
  intro n
  induction n with
  | zero =>
    intro i hi he
    obtain rfl : i = 32 := by omega
    exact absurd he hne
  | succ n ih =>
    intro i hi he
    have hi' : i < 32 := by omega
    refine past_vc EI2_ok 1000 (qzF ws (i : Int) (lvT ts).length (i64s (lvT ts)) (fun i' => i' = ((i + 1 : Nat) : Int) ∧ issL (bkB ts) (i + 1) = []) (fun i' k' c' => i' = ((i + 1 : Nat) : Int) ∧ k' = (issL (bkB ts) (i + 1)).length ∧ c' = i64s (issL (bkB ts) (i + 1)))) ?_ (fun _ _ h => h) (fun fs m hb' => qZS_good (fun i' ⟨e1, e2⟩ => by rw [e1]; exact ih (i + 1) (by omega) e2) (fun i' k' c' ⟨e1, e2, e3⟩ => by rw [e1, e2, e3]; exact qS_ok w hb n (i + 1) (by omega)) hb')
    have y0 : 0 ≤ (i : Int) := by omega
    have y1 : (i : Int) < 32 := by omega
    have d : decide ((i : Int) < 32) = true := decide_eq_true y1
    have ei : ari .add .i64 (i : Int) 1 = ((i + 1 : Nat) : Int) := by rw [ari_add, i64_in' (by omega) (by omega)]; omega
    have s1 := isI_of (w.s i hi')
    have s2 := intAt_of (w.s i hi')
    have s3 := w.gn hi'
    by_cases c : kindAt (bkB ts) i = 1
    · have c1 : (kindAt (bkB ts) i == 1) = true := beq_iff_eq.2 c
      simp only [Int.toNat_natCast, Nat.mul_one, d, ei, y0, y1, s1, s2, s3, hz, h64, wb, c, c1, he, issL_succ, if_true, List.nil_append, List.length_cons, List.length_nil, Nat.zero_add, beq_self_eq_true, decide_true, true_implies, Bool.true_eq_false, Bool.false_eq_true, false_implies, and_true, true_and, qZ_d0_ok, qS_d0_ok]
      rfl
    · have c1 : (kindAt (bkB ts) i == 1) = false := beq_eq_false_iff_ne.2 c
      simp only [Int.toNat_natCast, Nat.mul_one, d, ei, y0, y1, s1, s2, hz, h64, wb, c1, he, issL_succ, if_neg c, decide_true, true_implies, Bool.true_eq_false, Bool.false_eq_true, false_implies, and_true, true_and, qZ_d0_ok, qS_d0_ok]
theorem qZ_nn (w : SW ts ws) (hb : TbOk ts) (hne : lvT ts = []) : ∀ (n i : Nat), i + n = 32 → Good Tryd.prog nilA 0 (qZ_F ws (i : Int)) (qZ_M ws (i : Int)) := by
  have hz := w.sz
  have h64 : (64 : Nat) ≤ 448 := by decide
  have wb := w.wb hb
  intro n
  induction n with
  | zero =>
    intro i hi
    obtain rfl : i = 32 := by omega
    refine past_vc EI2_ok 1000 (qzN ws ((32 : Nat) : Int) (fun _ => False) (fun _ _ _ => False)) ?_ (fun _ _ h => h) (fun fs m hb => qZS_good (fun _ h => h.elim) (fun _ _ _ h => h.elim) hb)
    have d : decide (((32 : Nat) : Int) < 32) = false := rfl
    simp only [d, true_implies, Bool.true_eq_false, Bool.false_eq_true, false_implies, and_true, true_and]
  | succ n ih =>
    intro i hi
    have hi' : i < 32 := by omega
    refine past_vc EI2_ok 1000 (qzN ws (i : Int) (fun i' => i' = ((i + 1 : Nat) : Int)) (fun _ _ _ => False)) ?_ (fun _ _ h => h) (fun fs m hb' => qZS_good (fun i' e1 => by rw [e1]; exact ih (i + 1) (by omega)) (fun _ _ _ h => h.elim) hb')
    have y0 : 0 ≤ (i : Int) := by omega
    have y1 : (i : Int) < 32 := by omega
    have d : decide ((i : Int) < 32) = true := decide_eq_true y1
    have ei : ari .add .i64 (i : Int) 1 = ((i + 1 : Nat) : Int) := by rw [ari_add, i64_in' (by omega) (by omega)]; omega
    have s1 := isI_of (w.s i hi')
    have s2 := intAt_of (w.s i hi')
    have he := issL_pre (bkB ts) (i := i + 1) (by omega) hne
    have c : ¬ kindAt (bkB ts) i = 1 := by
      intro c
      rw [issL_succ, if_pos c] at he
      simp at he
    have c1 : (kindAt (bkB ts) i == 1) = false := beq_eq_false_iff_ne.2 c
    simp only [Int.toNat_natCast, Nat.mul_one, d, ei, y0, y1, s1, s2, hz, h64, wb, c1, decide_true, true_implies, Bool.true_eq_false, Bool.false_eq_true, false_implies, and_true, true_and, qZ_d0_ok, qS_d0_ok]
theorem rall_con (m : SMem) : Con E0 29 [wtS ws] m (.need [SW ts ws, TbOk ts] (rowW (lvT ts) m)) := by
  refine Con.asked fun hq => ?_
  have w : SW ts ws := hq _ (by simp)
  have hb : TbOk ts := hq _ (by simp)
  refine Con.two (fun h => ?_) (fun h => ?_)
  · have he : lvT ts = [] := List.eq_nil_of_length_eq_zero (of_decide_eq_true h)
    refine (show Con E0 29 [wtS ws] m (needs [] _) from Con.pure E0_ok (by kernel_rfl : E0.fn 29 = some Tryd.f29) (by kernel_rfl : Tryd.f29.body = some (Tryd.f29.body.getD .skip)) (by kernel_rfl) (by kernel_rfl) fun hq => ?_)
    refine (Good.ret (s0m := e0M) [] (run_vc EI2_ok 1000 (qa0 ws (fun i => i = ((0 : Nat) : Int))) ?_ (fun s m h => h.elim) fun fs m h => qZ_good (fun i e => by rw [e]; exact qZ_nn w hb he 32 0 (by omega)) h)).mono fun _ _ h => h.1
    simp only [and_true, true_and, qZ_d0_ok]
    rfl
  · have he : lvT ts ≠ [] := fun e => by
      have := of_decide_eq_false h
      rw [e] at this
      exact this rfl
    refine (show Con E0 29 [wtS ws] m (needs [] _) from Con.fresh E0_ok (by kernel_rfl : E0.fn 29 = some Tryd.f29) (by kernel_rfl : Tryd.f29.body = some (Tryd.f29.body.getD .skip)) (by kernel_rfl) rfl fun _ => ?_)
    refine Good.retX ((run_vc EI2_ok 1000 (qa0 ws (fun i => i = ((0 : Nat) : Int))) ?_ (fun s m h => h.elim) fun fs m h => qZ_good (A := freshA (lvT ts).length (i64s (lvT ts)) 3) (fun i e => by rw [e]; exact qZ_s w hb he 32 0 (by omega) rfl) h).mono fun s m h => ?_)
    · simp only [and_true, true_and, qZ_d0_ok]
      rfl
    · unfold freshA at h
      split at h
      · exact ⟨_, h⟩
      · exact h.elim
/-! Above. -/
omit [Gh] in
def abF (ts : Array Value) (a h : Int) : Bool := decide (a ∈ chL (upF ts) (upF ts h))
omit [Gh] in
theorem up_0 : upF ts 0 = 0 := by
  have g : gdF ts 0 = false := by
    show goodB (bkB ts) 0 = false
    unfold goodB slotOk
    rw [decide_eq_false (by omega)]; rfl
  unfold upF
  rw [g]
  rfl
theorem up_cl (hf : FIn ts) {x : Int} (hx : x ∈ lvT ts) : upF ts x = 0 ∨ upF ts x ∈ lvT ts := hf.fo.cl x hx
theorem qA_ok (w : SW ts ws) (hf : FIn ts) (a : Int) : ∀ h, h = 0 ∨ h ∈ lvT ts → Good Tryd.prog (retOk 0 [] (sB (.o (abF ts a h))) e0M) 0 (qA_F ws a h) (qA_M ws a h) := by
  have hb := hf.ok
  have hz := w.sz
  have h64 : (64 : Nat) ≤ 448 := by decide
  have wb := w.wb hb
  refine up_ind hf.fo ?_ ?_
  · refine past_vc EI2_ok 1000 (abv1 ws a 0 (abF ts a 0) (fun _ => False)) ?_ (fun _ _ h => h) (fun fs m hb => qA_good (fun _ h => h.elim) hb)
    have d : ((0 : Int) != 0) = false := rfl
    have e : abF ts a 0 = false := by unfold abF; rw [up_0, ch_zero]; rfl
    simp only [d, e, true_implies, Bool.true_eq_false, Bool.false_eq_true, false_implies, and_true, true_and]
  · intro h hx ih
    have hg := (lv_mem hb).1 hx
    have h0 : (h != 0) = true := bne_iff_ne.2 (hf.fo.nz h hx)
    have es := w.slot hb h
    rw [if_pos hg] at es
    have h32 := (good_f hb hg).2.2.1
    have y0 : (0 : Int) ≤ (sl h : Int) := by omega
    have y1 : (sl h : Int) < 32 := by omega
    have c0 : ws[64 + sl h * 12]? = some (.int .i64 (upF ts h)) := w.cell hb hg (j := 0) (by decide) (by decide)
    have i0 := isI_of c0
    have i1 := intAt_of c0
    by_cases c : upF ts h = a
    · refine past_vc EI2_ok 1000 (abv1 ws a h (abF ts a h) (fun _ => False)) ?_ (fun _ _ h => h) (fun fs m hb => qA_good (fun _ h => h.elim) hb)
      have c1 : (upF ts h == a) = true := beq_iff_eq.2 c
      have e : abF ts a h = (a != 0) := by
        unfold abF
        rw [c]
        rcases up_cl hf hx with k | k
        · rw [← c, k, ch_zero]; rfl
        · rw [c] at k
          rw [ch_cons hf.fo k, decide_eq_true (List.mem_cons_self ..)]
          exact (bne_iff_ne.2 (hf.fo.nz a k)).symm
      simp only [Int.toNat_natCast, h0, hz, h64, wb, es, y0, y1, i0, i1, c1, e, true_implies, Bool.true_eq_false, Bool.false_eq_true, false_implies, and_true, true_and]
    · have e : abF ts a h = abF ts a (upF ts h) := by
        unfold abF
        rcases up_cl hf hx with k | k
        · rw [k, up_0]
        · rw [ch_cons hf.fo k]
          by_cases q : a ∈ chL (upF ts) (upF ts (upF ts h))
          · rw [decide_eq_true q, decide_eq_true (List.mem_cons_of_mem _ q)]
          · rw [decide_eq_false q, decide_eq_false (fun r => (List.mem_cons.1 r).elim (fun r => c r.symm) q)]
      rw [e]
      refine past_vc EI2_ok 1000 (abv1 ws a h (abF ts a (upF ts h)) (fun h' => h' = upF ts h)) ?_ (fun _ _ h => h) (fun fs m hb => qA_good (fun h' e => by rw [e]; exact ih) hb)
      have c1 : (upF ts h == a) = false := beq_eq_false_iff_ne.2 c
      simp only [Int.toNat_natCast, h0, hz, h64, wb, es, y0, y1, i0, i1, c1, true_implies, Bool.true_eq_false, Bool.false_eq_true, false_implies, and_true, true_and, qA_d0_ok]
theorem rabove_con (a h : Int) (m : SMem) : Con E0 43 [wtS ws, i64 (.o a), i64 (.o h)] m (needs [SW ts ws, FIn ts, h = 0 ∨ gdF ts h = true] (.ret (sB (.o (abF ts a h))) m)) := by
  refine Con.pure E0_ok (by kernel_rfl : E0.fn 43 = some Tryd.f43) (by kernel_rfl : Tryd.f43.body = some (Tryd.f43.body.getD .skip)) (by kernel_rfl) (by kernel_rfl) fun hq => ?_
  have w : SW ts ws := hq _ (by simp)
  have hf : FIn ts := hq _ (by simp)
  have hh : h = 0 ∨ gdF ts h = true := hq _ (by simp)
  refine (Good.ret (s0m := e0M) [] (run_vc EI2_ok 1000 (abv0 ws a h (fun h' => h' = h)) ?_ (fun s m h => h.elim) fun fs m hm => qA_good (fun h' e => by rw [e]; exact qA_ok w hf a h (hh.imp id (lv_mem hf.ok).2)) hm)).mono fun _ _ h => h.1
  simp only [and_true, true_and, qA_d0_ok]
end
end Go.Proofs.YtjjeahnbppmigaaDoor
/- The document's table: what Issue does, behind the program's; New: contract. No condition. -/
namespace Go.Proofs.YtjjeahnbppmigaaDoor
set_option linter.unusedSectionVars false
variable [Gh]
set_option maxRecDepth 100000
set_option linter.unusedSimpArgs false
set_option linter.unusedVariables false
section
variable {ts ws : Array Value}
omit [Gh] in
theorem fr_eq {vs bs : Array Value} (h : ∀ i, i < 32 → knW vs i = kindAt bs i) : ∀ k i, i + k = 32 → frW vs k i = freeFrom bs k i
  | 0, _, _ => rfl
  | k + 1, i, e => by
    show (if knW vs i = 0 then some i else frW vs k (i + 1)) = _
    rw [freeFrom_succ, h i (by omega), fr_eq h k (i + 1) (by omega)]
theorem SW.fr (w : SW ts ws) : frW (ws.extract 0 64) 32 0 = freeS (bkB ts) := fr_eq (fun i hi => w.kn hi) 32 0 rfl
theorem SW.iss0 (w : SW ts ws) (e : freeS (bkB ts) = none) : isW (ws.extract 0 64) = ws.extract 0 64 ∧ iiW (ws.extract 0 64) = 0 := by
  unfold isW iiW
  rw [w.fr, e]
  exact ⟨rfl, rfl⟩
theorem SW.iss1 (w : SW ts ws) (hb : TbOk ts) {i : Nat} (hi : i < 32) (e : freeS (bkB ts) = some i) : isW (ws.extract 0 64) = (ws.extract 0 64).setIfInBounds (32 + i) (.int .i64 1) ∧ iiW (ws.extract 0 64) = nameI i (ageAt (bkB ts) i) ∧ WB (isW (ws.extract 0 64)) ∧ slW (isW (ws.extract 0 64)) (iiW (ws.extract 0 64)) = (i : Int) := by
  have wb := w.wb hb
  have e1 : isW (ws.extract 0 64) = (ws.extract 0 64).setIfInBounds (32 + i) (.int .i64 1) := by unfold isW; rw [w.fr, e]; rfl
  have e2 : iiW (ws.extract 0 64) = nameI i (ageAt (bkB ts) i) := by
    unfold iiW
    rw [w.fr, e]
    show nameI i (gnW (ws.extract 0 64) i) = _
    rw [w.gn hi]
  obtain ⟨s1, s2, s3⟩ := set_kn (x := 1) wb hi ⟨by decide, by decide⟩
  refine ⟨e1, e2, by rw [e1]; exact s1, ?_⟩
  rw [e1, e2]
  refine slFrom_of (k := i) (fun j hj c => ?_) ⟨by rw [s3 i hi, if_pos rfl], by rw [s2 i hi, w.gn hi]⟩ 32 0 rfl (Nat.zero_le _) hi
  rw [s2 j hj, w.gn hj] at c
  exact (name_inj hj hi c.2).1
omit [Gh] in
def nwW (ts ws : Array Value) (u q : Int) : Array Value := if newE ts u q = 0 then putAt (putAt ws 0 (isW (ws.extract 0 64)).toList) (64 + sl (issueI (bkB ts)) * 12) [.int .i64 u, .int .i64 q, .slice none 0 0, .int .i64 0, .int .i64 0, .int .i64 0, .int .i64 0, .int .i64 0, .int .i64 0, .int .i64 0, .int .i64 0, .int .i64 0] else ws
theorem rnew_con (u q : Int) (m : SMem) : Con E0 25 [wtS ws, i64 (.o u), i64 (.o q)] m (needs [SW ts ws, TbOk ts] (.ret (.tup [.agg (.op (nwW ts ws u q)), .c (.f (.int .i64 (.o (newI ts u q)))), .c (.f (.int .i64 (.o (newE ts u q))))]) m)) := by
  refine Con.pure E0_ok (by kernel_rfl : E0.fn 25 = some Tryd.f25) (by kernel_rfl : Tryd.f25.body = some (Tryd.f25.body.getD .skip)) (by kernel_rfl) (by kernel_rfl) fun hq => ?_
  have w : SW ts ws := hq _ (by simp)
  have hb : TbOk ts := hq _ (by simp)
  refine (Good.ret [] (run_vc EI1_ok 1000 (nw0 ws u q (nwW ts ws u q) (newI ts u q) (newE ts u q)) ?_ (fun s m h => h) fun _ _ h => h.elim)).mono fun _ _ h => h.1
  have hz := w.sz
  have h64 : (64 : Nat) ≤ 448 := by decide
  have wb := w.wb hb
  have es := w.slot hb u
  have key : ∀ e, newE ts u q = e → e ≠ 0 → nwW ts ws u q = ws ∧ newI ts u q = 0 := fun e h1 h2 => by
    constructor
    · unfold nwW; rw [if_neg (by rw [h1]; exact h2)]
    · unfold newI; rw [if_neg (by rw [h1]; exact h2)]
  by_cases c0 : u ≠ 0 ∧ gdF ts u = false
  · have d0 : (u != 0) = true := bne_iff_ne.2 c0.1
    have d1 : decide (slW (ws.extract 0 64) u ≥ 0) = false := decide_eq_false (by rw [es, if_neg (by rw [c0.2]; decide)]; omega)
    have e : newE ts u q = 4 := by unfold newE; rw [if_pos c0]
    obtain ⟨k1, k2⟩ := key 4 e (by decide)
    simp only [d0, d1, e, k1, k2, hz, h64, wb, beqT, beqF, Bool.not_false, Bool.not_true, true_implies, Bool.true_eq_false, Bool.false_eq_true, false_implies, and_true, true_and]
  · have fin : (u != 0) = false ∨ ((u != 0) = true ∧ decide (slW (ws.extract 0 64) u ≥ 0) = true) := by
      by_cases z : u = 0
      · left; rw [z]; rfl
      · right
        have g : gdF ts u = true := by
          cases g : gdF ts u with
          | true => rfl
          | false => exact absurd ⟨z, g⟩ c0
        exact ⟨bne_iff_ne.2 z, decide_eq_true (by rw [es, if_pos g]; omega)⟩
    by_cases c1 : 0 ≤ q ∧ q ≤ 64
    · have d2 : decide (q < 0) = false := decide_eq_false (by omega)
      have d3 : decide (q > 64) = false := decide_eq_false (by omega)
      rcases issue_cases (bs := bkB ts) with ⟨f1, _, f3, f4⟩ | ⟨i, h1, h2, g1, g2, g3, g4⟩
      · obtain ⟨n1, n2⟩ := w.iss0 f1
        have e : newE ts u q = 7 := by unfold newE; rw [if_neg c0, if_pos c1, f4]; rfl
        obtain ⟨k1, k2⟩ := key 7 e (by decide)
        have d4 : (iiW (ws.extract 0 64) == 0) = true := by rw [n2]; rfl
        have sz := wb.sz
        rcases fin with d0 | ⟨d0, d1⟩
        · simp only [d0, d2, d3, d4, n1, e, k1, k2, sz, hz, h64, wb, beqT, beqF, Bool.not_false, Bool.not_true, true_implies, Bool.true_eq_false, Bool.false_eq_true, false_implies, and_true, true_and]
        · simp only [d0, d1, d2, d3, d4, n1, e, k1, k2, sz, hz, h64, wb, beqT, beqF, Bool.not_false, Bool.not_true, true_implies, Bool.true_eq_false, Bool.false_eq_true, false_implies, and_true, true_and]
      · obtain ⟨n1, n2, n3, n4⟩ := w.iss1 hb h1 g4
        have e : newE ts u q = 0 := by unfold newE; rw [if_neg c0, if_pos c1, g3]; rfl
        have hr := hb.bk.ra i h1
        have esl : sl (issueI (bkB ts)) = i := by rw [g2]; exact slotI_name h1 hr
        have d4 : (iiW (ws.extract 0 64) == 0) = false := beq_eq_false_iff_ne.2 (by rw [n2]; unfold nameI; omega)
        have sz := n3.sz
        have k1 : nwW ts ws u q = putAt (putAt ws 0 (isW (ws.extract 0 64)).toList) (64 + i * 12) [.int .i64 u, .int .i64 q, .slice none 0 0, .int .i64 0, .int .i64 0, .int .i64 0, .int .i64 0, .int .i64 0, .int .i64 0, .int .i64 0, .int .i64 0, .int .i64 0] := by unfold nwW; rw [if_pos e, esl]
        have k2 : newI ts u q = iiW (ws.extract 0 64) := by unfold newI; rw [if_pos e, n2, g2]
        have y0 : (0 : Int) ≤ (i : Int) := by omega
        have y1 : (i : Int) < 32 := by omega
        have z1 : (putAt ws 0 (isW (ws.extract 0 64)).toList).size = 448 := by rw [putAt_size (by rw [Array.length_toList, sz, hz]; decide)]; exact hz
        have z2 : 64 + i * 12 + 12 ≤ 448 := by omega
        have z3 : (putAt (putAt ws 0 (isW (ws.extract 0 64)).toList) (64 + i * 12) [.int .i64 u, .int .i64 q, .slice none 0 0, .int .i64 0, .int .i64 0, .int .i64 0, .int .i64 0, .int .i64 0, .int .i64 0, .int .i64 0, .int .i64 0, .int .i64 0]).size = 448 := by
          rw [putAt_size (by rw [z1]; exact z2)]; exact z1
        have zl : ∀ a0 a1 a2 a3 a4 a5 a6 a7 a8 a9 b0 b1 : Value, List.length [a0, a1, a2, a3, a4, a5, a6, a7, a8, a9, b0, b1] = 12 := fun _ _ _ _ _ _ _ _ _ _ _ _ => rfl
        have z4 : 0 + 64 ≤ 448 := by decide
        rcases fin with d0 | ⟨d0, d1⟩
        · simp only [d0, d2, d3, d4, n3, n4, e, k1, k2, sz, hz, h64, wb, y0, y1, z1, z2, z3, z4, zl, Int.toNat_natCast, beqT, beqF, Bool.not_false, Bool.not_true, decide_true, true_implies, Bool.true_eq_false, Bool.false_eq_true, false_implies, and_true, true_and]
        · simp only [d0, d1, d2, d3, d4, n3, n4, e, k1, k2, sz, hz, h64, wb, y0, y1, z1, z2, z3, z4, zl, Int.toNat_natCast, beqT, beqF, Bool.not_false, Bool.not_true, decide_true, true_implies, Bool.true_eq_false, Bool.false_eq_true, false_implies, and_true, true_and]
    · have e : newE ts u q = 2 := by unfold newE; rw [if_neg c0, if_neg c1]
      obtain ⟨k1, k2⟩ := key 2 e (by decide)
      by_cases c2 : q < 0
      · have d2 : decide (q < 0) = true := decide_eq_true c2
        rcases fin with d0 | ⟨d0, d1⟩
        · simp only [d0, d2, e, k1, k2, hz, h64, wb, beqT, beqF, Bool.not_false, Bool.not_true, true_implies, Bool.true_eq_false, Bool.false_eq_true, false_implies, and_true, true_and]
        · simp only [d0, d1, d2, e, k1, k2, hz, h64, wb, beqT, beqF, Bool.not_false, Bool.not_true, true_implies, Bool.true_eq_false, Bool.false_eq_true, false_implies, and_true, true_and]
      · have d2 : decide (q < 0) = false := decide_eq_false c2
        have d3 : decide (q > 64) = true := decide_eq_true (by omega)
        rcases fin with d0 | ⟨d0, d1⟩
        · simp only [d0, d2, d3, e, k1, k2, hz, h64, wb, beqT, beqF, Bool.not_false, Bool.not_true, true_implies, Bool.true_eq_false, Bool.false_eq_true, false_implies, and_true, true_and]
        · simp only [d0, d1, d2, d3, e, k1, k2, hz, h64, wb, beqT, beqF, Bool.not_false, Bool.not_true, true_implies, Bool.true_eq_false, Bool.false_eq_true, false_implies, and_true, true_and]
/-! What a region has behind rows put over it. -/
omit [Gh] in
theorem rg_vals {us : Array Value} {x u q l c0 c1 c2 c3 c4 c5 c6 c7 : Int} {v : Value} (hc : ∀ k, k < 12 → us[64 + sl x * 12 + k]? = (rwL u q v l c0 c1 c2 c3 c4 c5 c6 c7)[k]?) :
    upR us x = u ∧ quF us x = q ∧ slF us x = v ∧ lnF us x = l ∧ ceF us x 0 = c0 ∧ ceF us x 1 = c1 ∧ ceF us x 2 = c2 ∧ ceF us x 3 = c3 ∧ ceF us x 4 = c4 ∧ ceF us x 5 = c5 ∧ ceF us x 6 = c6 ∧ ceF us x 7 = c7 := by
  refine ⟨intAt_of (hc 0 (by decide)), intAt_of (hc 1 (by decide)), ?_, intAt_of (hc 3 (by decide)), intAt_of (hc 4 (by decide)), intAt_of (hc 5 (by decide)), intAt_of (hc 6 (by decide)), intAt_of (hc 7 (by decide)), intAt_of (hc 8 (by decide)), intAt_of (hc 9 (by decide)), intAt_of (hc 10 (by decide)), intAt_of (hc 11 (by decide))⟩
  unfold slF valAt pl
  rw [hc 2 (by decide)]
  rfl
omit [Gh] in
theorem rwD_eq {u q l u' q' l' : Int} {c d : Nat → Int} (h1 : u = u') (h2 : q = q') (h3 : l = l') (h : ∀ k, k < 8 → c k = d k) : rwD u q l c = rwD u' q' l' d := by
  unfold rwD
  rw [h1, h2, h3, h 0 (by decide), h 1 (by decide), h 2 (by decide), h 3 (by decide), h 4 (by decide), h 5 (by decide), h 6 (by decide), h 7 (by decide)]
def CellW (ts : Array Value) (x : Int) (j : Nat) (o : Option Value) : Prop := if j = 2 then ∃ v, o = some v ∧ SR (slF ts x) v else o = (rwF ts x)[j]?
theorem SW.cw (w : SW ts ws) {i : Nat} (hi : i < 32) (hk : kindAt (bkB ts) i = 1) {j : Nat} (hj : j < 12) : CellW ts (nmF ts i) j ws[64 + i * 12 + j]? := by
  unfold CellW
  split
  · rename_i e; rw [e]; exact w.v i hi hk
  · rename_i e; exact w.r i hi hk j hj e
theorem SW.mk' (sz : ws.size = 448) (g : ∀ i, i < 32 → ws[i]? = some (.int .i64 (ageAt (bkB ts) i))) (s : ∀ i, i < 32 → ws[32 + i]? = some (.int .i64 (kindAt (bkB ts) i))) (r : ∀ i, i < 32 → kindAt (bkB ts) i = 1 → ∀ j, j < 12 → CellW ts (nmF ts i) j ws[64 + i * 12 + j]?)
    (z : ∀ i, i < 32 → kindAt (bkB ts) i ≠ 1 → ∀ j, j < 12 → ws[64 + i * 12 + j]? = (rwD 0 0 0 fun _ => 0)[j]?) : SW ts ws :=
  ⟨sz, g, s, fun i hi hk j hj h2 => by
    have := r i hi hk j hj
    unfold CellW at this
    rw [if_neg h2] at this
    exact this, fun i hi hk => by
    have := r i hi hk 2 (by decide)
    unfold CellW at this
    rw [if_pos rfl] at this
    exact this, z⟩
theorem cw_same {us : Array Value} {x : Int} (h : Same12 us ts x) (hu : upF us x = upF ts x) {j : Nat} {o : Option Value} (hc : CellW ts x j o) : CellW us x j o := by
  obtain ⟨r1, r2, r3, r4, r5⟩ := rg_eq h
  unfold CellW at *
  have e : rwF us x = rwF ts x := rwD_eq hu r2 r5 r3
  rw [r4, e]
  exact hc
theorem nw_cells (hb : TbOk ts) {u q : Int} : ∀ k, k < 12 → (nwT ts u q)[64 + sl (issueI (bkB ts)) * 12 + k]? = (rwL u q (.slice none 0 0) 0 0 0 0 0 0 0 0 0)[k]? := fun k hk => by
  have hv := (issue_bk hb.bk).sz
  have i3 := (iss_f hb).2.2.2
  obtain ⟨p1, p2, p3⟩ := put_bk (bs := issueB (bkB ts)) hb.sz hv
  obtain ⟨q1, q2, q3⟩ := put_rg (ts := putAt ts 0 (issueB (bkB ts)).toList) (l := (rgA u q 0 fun _ => 0).toList) p1 i3 rfl
  have := q3 _ k i3 hk
  rw [if_pos rfl] at this
  exact this
theorem set_cells (hb : TbOk ts) {h : Int} (hg : gdF ts h = true) {q l c0 c1 c2 c3 c4 c5 c6 c7 : Int} {v : Value} : ∀ k, k < 12 → (setP ts h q v l c0 c1 c2 c3 c4 c5 c6 c7)[64 + sl h * 12 + k]? = (rwL (upR ts h) q v l c0 c1 c2 c3 c4 c5 c6 c7)[k]? := fun k hk => by
  obtain ⟨q1, q2, q3⟩ := put_rg (ts := ts) (l := rwL (upR ts h) q v l c0 c1 c2 c3 c4 c5 c6 c7) hb.sz (good_f hb hg).2.2.1 rfl
  have := q3 _ k (good_f hb hg).2.2.1 hk
  rw [if_pos rfl] at this
  exact this
omit [Gh] in
theorem ne_0 {u q : Int} (e : newE ts u q = 0) : (u = 0 ∨ gdF ts u = true) ∧ (0 ≤ q ∧ q ≤ 64) ∧ issueOk (bkB ts) = true := by
  unfold newE at e
  split at e
  · exact absurd e (by decide)
  rename_i n2
  split at e
  rotate_left
  · exact absurd e (by decide)
  rename_i hq
  split at e
  rotate_left
  · exact absurd e (by decide)
  rename_i ho
  refine ⟨?_, hq, ho⟩
  by_cases c : u = 0
  · exact .inl c
  · right
    cases d : gdF ts u with
    | true => rfl
    | false => exact absurd ⟨c, d⟩ n2
theorem nw_up (hv : TI ts) {u q : Int} (hu : inH u) (e : newE ts u q = 0) : upF (nwT ts u q) (issueI (bkB ts)) = u ∧ ∀ x, gdF ts x = true → upF (nwT ts u q) x = upF ts x := by
  obtain ⟨hu2, hq, ho⟩ := ne_0 e
  have hb := hv.ok
  obtain ⟨r1, r2, r3, r4, r5⟩ := nw_f hb ho (u := u) (q := q) hu hq
  obtain ⟨i1, i2, _⟩ := iss_new hb ho
  constructor
  · have g : gdF (nwT ts u q) (issueI (bkB ts)) = true := by rw [r3, decide_eq_true rfl, Bool.or_true]
    unfold upF
    rw [if_pos g, r4]
    rcases hu2 with c | c
    · rw [c]; split <;> rfl
    · rw [if_pos (by rw [r3, c]; rfl)]
  · intro x g
    have g' : gdF (nwT ts u q) x = true := by rw [r3, g]; rfl
    have hne : upR ts x ≠ issueI (bkB ts) := fun k => by
      rcases hv.us x ((lv_mem hb).2 g) with c | c
      · exact i2 (k.symm.trans c)
      · rw [k] at c
        exact (used_new hb.bk ho).2 c
    unfold upF
    rw [if_pos g, if_pos g', (rg_eq (r5 x g)).1, r3, decide_eq_false hne, Bool.or_false]
theorem SW.new (w : SW ts ws) (hv : TI ts) {u q : Int} (hu : inH u) (e : newE ts u q = 0) : SW (nwT ts u q) (nwW ts ws u q) := by
  obtain ⟨hu2, hq, ho⟩ := ne_0 e
  have hb := hv.ok
  obtain ⟨p1, p2⟩ := nw_up hv hu e
  obtain ⟨r1, r2, r3, r4, r5⟩ := nw_f hb ho (u := u) (q := q) hu hq
  rcases issue_cases (bs := bkB ts) with ⟨_, _, _, f4⟩ | ⟨i, h1, h2, g1, g2, g3, g4⟩
  · rw [ho] at f4; cases f4
  obtain ⟨n1, n2, n3, n4⟩ := w.iss1 hb h1 g4
  have hr := hb.bk.ra i h1
  have esl : sl (issueI (bkB ts)) = i := by rw [g2]; exact slotI_name h1 hr
  have hz := w.sz
  have sz := n3.sz
  have hbs := hb.bk.sz
  have z0 : 0 + (isW (ws.extract 0 64)).toList.length ≤ ws.size := by rw [Array.length_toList, sz, hz]; decide
  have z1 : (putAt ws 0 (isW (ws.extract 0 64)).toList).size = 448 := by rw [putAt_size z0]; exact hz
  have ew : nwW ts ws u q = putAt (putAt ws 0 (isW (ws.extract 0 64)).toList) (64 + i * 12) (rwD u q 0 fun _ => 0).toList := by unfold nwW; rw [if_pos e, esl]; rfl
  have zl : (rwD u q 0 fun _ => 0).toList.length = 12 := rfl
  have z2 : 64 + i * 12 + (rwD u q 0 fun _ => 0).toList.length ≤ (putAt ws 0 (isW (ws.extract 0 64)).toList).size := by rw [zl, z1]; omega
  have ll : (isW (ws.extract 0 64)).toList.length = 64 := by rw [Array.length_toList, sz]
  have low : ∀ j, j < 64 → (nwW ts ws u q)[j]? = if j = 32 + i then some (.int .i64 1) else ws[j]? := fun j hj => by
    rw [ew, putAt_out z2 (.inl (by omega)), putAt_in z0 (Nat.zero_le _) (by omega), Nat.sub_zero, Array.getElem?_toList, n1, Array.getElem?_setIfInBounds]
    by_cases c : 32 + i = j
    · rw [if_pos c, if_pos c.symm, if_pos (by rw [ext_size (by omega)]; omega)]
    · rw [if_neg c, if_neg (fun k => c k.symm), w.bk hj]
  have mid : ∀ j k, j < 32 → k < 12 → (nwW ts ws u q)[64 + j * 12 + k]? = if j = i then (rwD u q 0 fun _ => 0)[k]? else ws[64 + j * 12 + k]? := fun j k hj hk => by
    rw [ew]
    by_cases c : j = i
    · rw [if_pos c, putAt_in z2 (by omega) (by rw [zl]; omega), Array.getElem?_toList, c]
      congr 1
      omega
    · rw [if_neg c, putAt_out z2 (by rw [zl]; omega), putAt_out z0 (by rw [ll]; omega)]
  have ea : ∀ j, ageAt (bkB (nwT ts u q)) j = ageAt (bkB ts) j := fun j => by rw [r2, g1, age_set]
  have ek : ∀ j, kindAt (bkB (nwT ts u q)) j = if j = i then 1 else kindAt (bkB ts) j := fun j => by rw [r2, g1, kind_set hbs h1]
  have en : ∀ j, nmF (nwT ts u q) j = nmF ts j := fun j => by unfold nmF; rw [ea]
  refine SW.mk' (by rw [ew, putAt_size z2]; exact z1) (fun j hj => ?_) (fun j hj => ?_) (fun j hj hk c hc => ?_) (fun j hj hk c hc => ?_)
  · rw [low j (by omega), if_neg (by omega), ea]
    exact w.g j hj
  · rw [low (32 + j) (by omega), ek]
    by_cases c : j = i
    · rw [if_pos (by omega), if_pos c]
    · rw [if_neg (by omega), if_neg c]
      exact w.s j hj
  · rw [mid j c hj hc, en]
    by_cases d : j = i
    · rw [if_pos d]
      have em : nmF ts j = issueI (bkB ts) := by rw [g2, d]; rfl
      obtain ⟨v1, v2, v3, v4, v5, v6, v7, v8, v9, v10, v11, v12⟩ := rg_vals (nw_cells hb (u := u) (q := q))
      have er : rwF (nwT ts u q) (issueI (bkB ts)) = rwD u q 0 fun _ => 0 := rwD_eq p1 v2 v4 fun k hk => by
        match k, hk with
        | 0, _ => exact v5
        | 1, _ => exact v6
        | 2, _ => exact v7
        | 3, _ => exact v8
        | 4, _ => exact v9
        | 5, _ => exact v10
        | 6, _ => exact v11
        | 7, _ => exact v12
      rw [em]
      unfold CellW
      rw [er, v3]
      split
      · rename_i e; rw [e]; exact ⟨_, rfl, SR.nil⟩
      · rfl
    · rw [if_neg d]
      rw [ek, if_neg d] at hk
      have gx : gdF ts (nmF ts j) = true := (goodB_iff hb.bk).2 ⟨j, hj, hk, rfl⟩
      exact cw_same (r5 _ gx) (p2 _ gx) (w.cw hj hk hc)
  · rw [ek] at hk
    by_cases d : j = i
    · rw [if_pos d] at hk
      exact absurd rfl hk
    · rw [if_neg d] at hk
      rw [mid j c hj hc, if_neg d]
      exact w.z j hj hk c hc
end
end Go.Proofs.YtjjeahnbppmigaaDoor
/- The document's book: Void: contract. No condition. -/
namespace Go.Proofs.YtjjeahnbppmigaaDoor
set_option linter.unusedSectionVars false
variable [Gh]
set_option maxRecDepth 100000
set_option linter.unusedSimpArgs false
set_option linter.unusedVariables false
section
variable {ws : Array Value}
omit [Gh] in
def voW (ws : Array Value) (h : Int) : Array Value := if slW ws h < 0 then ws else if gnW ws (slW ws h).toNat = 8388607 then (ws.setIfInBounds (32 + (slW ws h).toNat) (.int .i64 0)).setIfInBounds (32 + (slW ws h).toNat) (.int .i64 2) else (ws.setIfInBounds (32 + (slW ws h).toNat) (.int .i64 0)).setIfInBounds (slW ws h).toNat (.int .i64 (gnW ws (slW ws h).toNat + 1))
omit [Gh] in
theorem slFrom_lt {vs : Array Value} {h : Int} : ∀ n i, i + n = 32 → slFrom vs h n i < 32
  | 0, i, e => by show (-1 : Int) < 32; decide
  | n + 1, i, e => by
    show (if knW vs i = 1 ∧ nameI i (gnW vs i) = h then (i : Int) else slFrom vs h n (i + 1)) < 32
    split
    · omega
    · exact slFrom_lt n (i + 1) (by omega)
theorem rvoid_con (h : Int) (m : SMem) : Con E0 41 [wbS ws, i64 (.o h)] m (needs [WB ws] (.ret (.tup [.agg (.op (voW ws h)), .c (.f (.bool (.o (decide (0 ≤ slW ws h)))))]) m)) := by
  refine Con.pure E0_ok (by kernel_rfl : E0.fn 41 = some Tryd.f41) (by kernel_rfl : Tryd.f41.body = some (Tryd.f41.body.getD .skip)) (by kernel_rfl) (by kernel_rfl) fun hq => ?_
  have hw : WB ws := hq _ (by simp)
  refine (Good.ret [] (run_vc EI1_ok 1000 (vo0 ws h (voW ws h) (decide (0 ≤ slW ws h))) ?_ (fun s m h => h) fun _ _ h => h.elim)).mono fun _ _ h => h.1
  have hz := hw.sz
  by_cases c : slW ws h < 0
  · have d : decide (slW ws h < 0) = true := decide_eq_true c
    have e : voW ws h = ws := if_pos c
    have e2 : decide (0 ≤ slW ws h) = false := decide_eq_false (by omega)
    simp only [d, e, e2, hz, hw, true_implies, Bool.true_eq_false, Bool.false_eq_true, false_implies, and_true, true_and]
  · have hlt : slW ws h < 32 := slFrom_lt 32 0 rfl
    have hk : voW ws h = if gnW ws (slW ws h).toNat = 8388607 then (ws.setIfInBounds (32 + (slW ws h).toNat) (.int .i64 0)).setIfInBounds (32 + (slW ws h).toNat) (.int .i64 2) else (ws.setIfInBounds (32 + (slW ws h).toNat) (.int .i64 0)).setIfInBounds (slW ws h).toNat (.int .i64 (gnW ws (slW ws h).toNat + 1)) := if_neg c
    rw [hk]
    generalize eI : slW ws h = x at *
    obtain ⟨i, rfl⟩ : ∃ j : Nat, x = (j : Int) := ⟨x.toNat, by omega⟩
    have hi : i < 32 := by omega
    have y0 : 0 ≤ (i : Int) := by omega
    have d : decide ((i : Int) < 0) = false := decide_eq_false (by omega)
    have e2 : decide (0 ≤ (i : Int)) = true := decide_eq_true y0
    obtain ⟨s1, s2, s3⟩ := set_kn (x := 0) hw hi ⟨by decide, by decide⟩
    have g1 := s1.g i hi
    have g2 : intAt (ws.setIfInBounds (32 + i) (.int .i64 0)) i = gnW ws i := s2 i hi
    have hr := hw.rg i hi
    have y3 : 32 + i < 64 := by omega
    have y4 : i < 64 := by omega
    by_cases k : gnW ws i = 8388607
    · have d2 : (gnW ws i == 8388607) = true := beq_iff_eq.2 k
      simp only [Int.toNat_natCast, Nat.mul_one, Nat.zero_add, d, d2, e2, if_pos k, y0, hlt, y3, y4, g1, g2, hz, hw, Array.size_setIfInBounds, decide_true, true_implies, Bool.true_eq_false, Bool.false_eq_true, false_implies, and_true, true_and]
    · have d2 : (gnW ws i == 8388607) = false := beq_eq_false_iff_ne.2 k
      have ea : ari .add .i64 (gnW ws i) 1 = gnW ws i + 1 := by rw [ari_add, i64_in' (by omega) (by omega)]
      simp only [Int.toNat_natCast, Nat.mul_one, Nat.zero_add, d, d2, e2, ea, if_neg k, y0, hlt, y3, y4, g1, g2, hz, hw, Array.size_setIfInBounds, decide_true, true_implies, Bool.true_eq_false, Bool.false_eq_true, false_implies, and_true, true_and]
end
end Go.Proofs.YtjjeahnbppmigaaDoor
/- The document's table and forest: Drop, Raise, Cut, Graft, Fell: states. No condition. -/
namespace Go.Proofs.YtjjeahnbppmigaaDoor
set_option linter.unusedSectionVars false
variable [Gh]
set_option linter.unusedVariables false
omit [Gh] in
def zr12 : List Value := [.int .i64 0, .int .i64 0, .slice none 0 0, .int .i64 0, .int .i64 0, .int .i64 0, .int .i64 0, .int .i64 0, .int .i64 0, .int .i64 0, .int .i64 0, .int .i64 0]
omit [Gh] in
def zW : Array Value := (List.replicate 64 (Value.int .i64 0) ++ (List.replicate 32 zr12).flatten).toArray
omit [Gh] in
theorem zW_sz : zW.size = 448 := by decide +kernel
omit [Gh] in
def drL (us : Array Value) (h : Int) : Nat → Array Value
  | 0 => us
  | n + 1 => if intAt (drL us h n) (64 + n * 12) = h then (drL us h n).setIfInBounds (64 + n * 12) (.int .i64 0) else drL us h n
omit [Gh] in
def dr0 (ws : Array Value) (h : Int) : Array Value := putAt (putAt ws 0 (voW (ws.extract 0 64) h).toList) (64 + (slW (ws.extract 0 64) h).toNat * 12) zr12
omit [Gh] in
def drW (ws : Array Value) (h : Int) : Array Value := if slW (ws.extract 0 64) h < 0 then ws else drL (dr0 ws h) h 32
omit [Gh] in
def drE (ws : Array Value) (h : Int) : Int := if slW (ws.extract 0 64) h < 0 then 4 else 0
omit [Gh] in
structure WT (ws : Array Value) : Prop where
  sz : ws.size = 448
  wb : WB (ws.extract 0 64)
  up : ∀ i, i < 32 → IsInt .i64 ws (64 + i * 12)
noncomputable def conJ4 (g : FuncId) (l : List SV) (m : SMem) : Option Tree := match g, l with
  | 41, [.s (.agg (.op ws)), .s (.c (.f (.int .i64 h)))] => some (.need [WB ws] (.ret (.tup [.agg (.op (voW ws h.den)), .c (.f (.bool (.o (decide (0 ≤ slW ws h.den)))))]) m))
  | g, l => conI1 g l m
noncomputable def EJ4 : Env := ⟨Tryd.prog, fnOf, conJ4, haltAt [22 * 1000 + 7]⟩
omit [Gh] in
noncomputable def weS (o : Array Value) (e : Int) : SV := .tup [.agg (.op o), .c (.f (.int .i64 (.o e)))]
omit [Gh] in
noncomputable def raW (ts ws : Array Value) (h u : Int) : Array Value := if raE ts h u = 0 then ws.setIfInBounds (64 + sl h * 12) (.int .i64 u) else ws
omit [Gh] in
noncomputable def wdL_d0 : List SIt := sekF Tryd.f22 7
omit [Gh] in
noncomputable def wdL_F (h : Int) (i : Int) (us : Array Value) (zz : Array Value) : List SFr := [frOf 22 Tryd.f22 [(1, i64 (.o h)), (2, ptr 0 (.l 0)), (4, ptr 1 (.l 0)), (7, i64 (.o i))] wdL_d0]
omit [Gh] in
noncomputable def wdL_M (h : Int) (i : Int) (us : Array Value) (zz : Array Value) : SMem := mkM 2 [(0, ⟨.op us, 55, true⟩), (1, ⟨.op zz, 55, true⟩)]
omit [Gh] in
noncomputable def wdL_n (h : Int) (Q : Int → Array Value → Array Value → Prop) (fs : List SFr) (m : SMem) : Prop := (match frNth fs 0 with | some f0 => (match rdI f0 7 with | some i => (match rdP f0 2 with | some p0 => (match rdP f0 4 with | some p1 => (match rdA m p0 with | some us => (match rdA m p1 with | some zz => Q i us zz ∧ subOk 0 [(0, p0), (1, p1)] (wdL_F h i us zz) (wdL_M h i us zz) fs m | none => False) | none => False) | none => False) | none => False) | none => False) | none => False)
omit [Gh] in
theorem wdL_d0_ok (r : Nat → Option Nat) : TodoOk r wdL_d0 wdL_d0 := TodoOk.it (by kernel_rfl)
theorem wdL_good {A : SV → SMem → Prop} {h : Int} {Q : Int → Array Value → Array Value → Prop} {fs : List SFr} {m : SMem} (H : ∀ i us zz, Q i us zz → Good Tryd.prog A 0 (wdL_F h i us zz) (wdL_M h i us zz)) (hb : wdL_n h Q fs m) : Good Tryd.prog A 0 fs m := by
  unfold wdL_n at hb
  split at hb
  rotate_left
  · exact hb.elim
  split at hb
  rotate_left
  · exact hb.elim
  split at hb
  rotate_left
  · exact hb.elim
  split at hb
  rotate_left
  · exact hb.elim
  split at hb
  rotate_left
  · exact hb.elim
  split at hb
  rotate_left
  · exact hb.elim
  exact Good.of_sub hb.2 (H _ _ _ hb.1)
end Go.Proofs.YtjjeahnbppmigaaDoor
/- The document's table and forest: Drop, Raise, Cut, Graft, Fell: states. -/
namespace Go.Proofs.YtjjeahnbppmigaaDoor
set_option linter.unusedSectionVars false
variable [Gh]
set_option maxRecDepth 100000
theorem wd0 (ws : Array Value) (h : Int) (o : Array Value) (e : Int) (Q : Int → Array Value → Array Value → Prop) : (run EJ4 1000 0 [callFr 22 Tryd.f22.ntmps [wtS ws, i64 (.o h)] (Tryd.f22.body.getD .skip)] e0M).vc (weA o e) (wdL_n h Q) =
    ((64 ≤ Array.size ws ∧ True) ∧ (WB (Array.extract ws (0 : Nat) (64)) ∧ True) ∧ (decide (slW (Array.extract ws (0 : Nat) (64)) h < (0 : Int)) = true → (Array.size ws = (448 : Nat) ∧ True) ∧ (Array.size ws = (448 : Nat) ∧ Array.size ws = (448 : Nat) ∧ True) ∧ (Array.size ws = (448 : Nat) ∧ True) ∧ o = ws ∧ e = (4 : Int) ∧ True) ∧ (decide (slW (Array.extract ws (0 : Nat) (64)) h < (0 : Int)) = false → (64 ≤ Array.size ws ∧ True) ∧ (WB (Array.extract ws (0 : Nat) (64)) ∧ True) ∧ (Array.size (voW (Array.extract ws (0 : Nat) (64)) h) = (64 : Nat) ∧ (0 : Nat) + Array.size (voW (Array.extract ws (0 : Nat) (64)) h) ≤ Array.size ws ∧ True) ∧ (((0 : Int) ≤ slW (Array.extract ws (0 : Nat) (64)) h ∧ slW (Array.extract ws (0 : Nat) (64)) h < (32 : Int)) ∧ True) ∧ ((64 : Nat) + Int.toNat (slW (Array.extract ws (0 : Nat) (64)) h) * 12 + 12 ≤ Array.size (putAt ws (0 : Nat) (Array.toList (voW (Array.extract ws (0 : Nat) (64)) h))) ∧ True) ∧ Q (0 : Int) (putAt (putAt ws (0 : Nat) (Array.toList (voW (Array.extract ws (0 : Nat) (64)) h))) ((64 : Nat) + Int.toNat (slW (Array.extract ws (0 : Nat) (64)) h) * 12) [Value.int IntKind.i64 (0 : Int), Value.int IntKind.i64 (0 : Int), Value.slice none (0 : Nat) (0 : Nat), Value.int IntKind.i64 (0 : Int), Value.int IntKind.i64 (0 : Int), Value.int IntKind.i64 (0 : Int), Value.int IntKind.i64 (0 : Int), Value.int IntKind.i64 (0 : Int), Value.int IntKind.i64 (0 : Int), Value.int IntKind.i64 (0 : Int), Value.int IntKind.i64 (0 : Int), Value.int IntKind.i64 (0 : Int)]) zW ∧ CallKind.normal = CallKind.normal ∧ TodoOk (ren 0 [(0, 0), (1, 1)]) wdL_d0 wdL_d0 ∧ h = h ∧ (0 : Int) = (0 : Int) ∧ (55 : TypeId) = (55 : Nat) ∧ putAt (putAt ws (0 : Nat) (Array.toList (voW (Array.extract ws (0 : Nat) (64)) h))) ((64 : Nat) + Int.toNat (slW (Array.extract ws (0 : Nat) (64)) h) * 12) [Value.int IntKind.i64 (0 : Int), Value.int IntKind.i64 (0 : Int), Value.slice none (0 : Nat) (0 : Nat), Value.int IntKind.i64 (0 : Int), Value.int IntKind.i64 (0 : Int), Value.int IntKind.i64 (0 : Int), Value.int IntKind.i64 (0 : Int), Value.int IntKind.i64 (0 : Int), Value.int IntKind.i64 (0 : Int), Value.int IntKind.i64 (0 : Int), Value.int IntKind.i64 (0 : Int), Value.int IntKind.i64 (0 : Int)] = putAt (putAt ws (0 : Nat) (Array.toList (voW (Array.extract ws (0 : Nat) (64)) h))) ((64 : Nat) + Int.toNat (slW (Array.extract ws (0 : Nat) (64)) h) * 12) [Value.int IntKind.i64 (0 : Int), Value.int IntKind.i64 (0 : Int), Value.slice none (0 : Nat) (0 : Nat), Value.int IntKind.i64 (0 : Int), Value.int IntKind.i64 (0 : Int), Value.int IntKind.i64 (0 : Int), Value.int IntKind.i64 (0 : Int), Value.int IntKind.i64 (0 : Int), Value.int IntKind.i64 (0 : Int), Value.int IntKind.i64 (0 : Int), Value.int IntKind.i64 (0 : Int), Value.int IntKind.i64 (0 : Int)] ∧ (55 : TypeId) = (55 : Nat) ∧ zW = zW ∧ True)) := by kernel_rfl
theorem wd1 (h i : Int) (us zz : Array Value) (o : Array Value) (e : Int) (Q : Int → Array Value → Array Value → Prop) : (stepT EJ4.go (run EJ4 1000) 0 (wdL_F h i us zz) (wdL_M h i us zz)).vc (weA o e) (wdL_n h Q) =
    ((decide (i < (32 : Int)) = true → (((0 : Int) ≤ i ∧ i < (32 : Int)) ∧ True) ∧ (IsInt IntKind.i64 us ((64 : Nat) + Int.toNat i * 12) ∧ True) ∧ ((intAt us ((64 : Nat) + Int.toNat i * 12) == h) = true → (((0 : Int) ≤ i ∧ i < (32 : Int)) ∧ True) ∧ ((64 : Nat) + Int.toNat i * 12 < Array.size us ∧ True) ∧ Q (ari BinOp.add IntKind.i64 i (1 : Int)) (Array.setIfInBounds us ((64 : Nat) + Int.toNat i * 12) (Value.int IntKind.i64 (0 : Int))) zz ∧ CallKind.normal = CallKind.normal ∧ TodoOk (ren 0 [(0, 0), (1, 1)]) wdL_d0 wdL_d0 ∧ h = h ∧ ari BinOp.add IntKind.i64 i (1 : Int) = ari BinOp.add IntKind.i64 i (1 : Int) ∧ (55 : TypeId) = (55 : TypeId) ∧ Array.setIfInBounds us ((64 : Nat) + Int.toNat i * 12) (Value.int IntKind.i64 (0 : Int)) = Array.setIfInBounds us ((64 : Nat) + Int.toNat i * 12) (Value.int IntKind.i64 (0 : Int)) ∧ (55 : TypeId) = (55 : TypeId) ∧ zz = zz ∧ True) ∧ ((intAt us ((64 : Nat) + Int.toNat i * 12) == h) = false → Q (ari BinOp.add IntKind.i64 i (1 : Int)) us zz ∧ CallKind.normal = CallKind.normal ∧ TodoOk (ren 0 [(0, 0), (1, 1)]) wdL_d0 wdL_d0 ∧ h = h ∧ ari BinOp.add IntKind.i64 i (1 : Int) = ari BinOp.add IntKind.i64 i (1 : Int) ∧ (55 : TypeId) = (55 : TypeId) ∧ us = us ∧ (55 : TypeId) = (55 : TypeId) ∧ zz = zz ∧ True)) ∧ (decide (i < (32 : Int)) = false → (Array.size us = (448 : Nat) ∧ True) ∧ (Array.size us = (448 : Nat) ∧ Array.size us = Array.size zz ∧ True) ∧ (Array.size us = (448 : Nat) ∧ True) ∧ o = us ∧ e = (0 : Int) ∧ True)) := by kernel_rfl
end Go.Proofs.YtjjeahnbppmigaaDoor
/- The document's table: Drop: contract, and what it does to the two. No condition. -/
namespace Go.Proofs.YtjjeahnbppmigaaDoor
set_option linter.unusedSectionVars false
variable [Gh]
set_option maxRecDepth 100000
set_option linter.unusedSimpArgs false
set_option linter.unusedVariables false
section
variable {ts ws : Array Value} {h : Int}
theorem SW.wt (w : SW ts ws) (hb : TbOk ts) : WT ws := by
  refine ⟨w.sz, w.wb hb, fun i hi => ?_⟩
  by_cases k : kindAt (bkB ts) i = 1
  · exact isI_of (w.r i hi k 0 (by decide) (by decide))
  · exact isI_of (w.z i hi k 0 (by decide))
omit [Gh] in
theorem drL_f (us : Array Value) (h : Int) (hz : us.size = 448) : ∀ n, n ≤ 32 → (drL us h n).size = 448 ∧ (∀ i, i < n → intAt us (64 + i * 12) = h → (drL us h n)[64 + i * 12]? = some (.int .i64 0)) ∧ ∀ j, (∀ i, i < n → j = 64 + i * 12 → intAt us j ≠ h) → (drL us h n)[j]? = us[j]?
  | 0, _ => ⟨hz, fun i hi => absurd hi (Nat.not_lt_zero _), fun j _ => rfl⟩
  | n + 1, hn => by
    obtain ⟨z, a, b⟩ := drL_f us h hz n (by omega)
    have e : intAt (drL us h n) (64 + n * 12) = intAt us (64 + n * 12) := by
      unfold intAt
      rw [b _ (fun i hi e => by omega)]
    show ((if intAt (drL us h n) (64 + n * 12) = h then (drL us h n).setIfInBounds (64 + n * 12) (.int .i64 0) else drL us h n).size = 448) ∧ (∀ i, i < n + 1 → intAt us (64 + i * 12) = h → (if intAt (drL us h n) (64 + n * 12) = h then (drL us h n).setIfInBounds (64 + n * 12) (.int .i64 0) else drL us h n)[64 + i * 12]? = some (.int .i64 0)) ∧ ∀ j, (∀ i, i < n + 1 → j = 64 + i * 12 → intAt us j ≠ h) → (if intAt (drL us h n) (64 + n * 12) = h then (drL us h n).setIfInBounds (64 + n * 12) (.int .i64 0) else drL us h n)[j]? = us[j]?
    rw [e]
    by_cases c : intAt us (64 + n * 12) = h
    · rw [if_pos c]
      refine ⟨by rw [Array.size_setIfInBounds]; exact z, fun i hi hh => ?_, fun j hj => ?_⟩
      · by_cases d : i = n
        · rw [d, Array.getElem?_setIfInBounds, if_pos rfl, if_pos (by rw [z]; omega)]
        · rw [Array.getElem?_setIfInBounds, if_neg (by omega)]
          exact a i (by omega) hh
      · have hne : 64 + n * 12 ≠ j := fun k => hj n (by omega) k.symm (by rw [← k]; exact c)
        rw [Array.getElem?_setIfInBounds, if_neg hne]
        exact b j fun i hi => hj i (by omega)
    · rw [if_neg c]
      refine ⟨z, fun i hi hh => ?_, fun j hj => b j fun i hi => hj i (by omega)⟩
      by_cases d : i = n
      · rw [d] at hh; exact absurd hh c
      · exact a i (by omega) hh
omit [Gh] in
theorem voW_size (hw : WB ws) (h : Int) : (voW ws h).size = 64 := by
  unfold voW
  split
  · exact hw.sz
  · split
    · rw [Array.size_setIfInBounds, Array.size_setIfInBounds]; exact hw.sz
    · rw [Array.size_setIfInBounds, Array.size_setIfInBounds]; exact hw.sz
omit [Gh] in
theorem dr0_f (t : WT ws) {s : Nat} (hs : s < 32) (es : slW (ws.extract 0 64) h = (s : Int)) : (dr0 ws h).size = 448 ∧ (∀ j, j < 64 → (dr0 ws h)[j]? = (voW (ws.extract 0 64) h)[j]?) ∧ ∀ j c, j < 32 → c < 12 → (dr0 ws h)[64 + j * 12 + c]? = if j = s then zr12[c]? else ws[64 + j * 12 + c]? := by
  have hz := t.sz
  have vz := voW_size t.wb h
  have vl : (voW (ws.extract 0 64) h).toList.length = 64 := by rw [Array.length_toList, vz]
  have z0 : 0 + (voW (ws.extract 0 64) h).toList.length ≤ ws.size := by omega
  have z1 : (putAt ws 0 (voW (ws.extract 0 64) h).toList).size = 448 := by rw [putAt_size z0]; exact hz
  have zl : zr12.length = 12 := rfl
  have e : dr0 ws h = putAt (putAt ws 0 (voW (ws.extract 0 64) h).toList) (64 + s * 12) zr12 := by unfold dr0; rw [es, Int.toNat_natCast]
  have z2 : 64 + s * 12 + zr12.length ≤ (putAt ws 0 (voW (ws.extract 0 64) h).toList).size := by rw [z1, zl]; omega
  refine ⟨by rw [e, putAt_size z2]; exact z1, fun j hj => ?_, fun j c hj hc => ?_⟩
  · rw [e, putAt_out z2 (.inl (by omega)), putAt_in z0 (Nat.zero_le _) (by omega), Nat.sub_zero, Array.getElem?_toList]
  · rw [e]
    by_cases d : j = s
    · rw [if_pos d, putAt_in z2 (by omega) (by rw [zl]; omega), d]
      congr 1
      omega
    · rw [if_neg d, putAt_out z2 (by rw [zl]; omega), putAt_out z0 (by rw [vl]; omega)]
omit [Gh] in
theorem dr0_up (t : WT ws) {s : Nat} (hs : s < 32) (es : slW (ws.extract 0 64) h = (s : Int)) {i : Nat} (hi : i < 32) : IsInt .i64 (dr0 ws h) (64 + i * 12) := by
  have := (dr0_f t hs es).2.2 i 0 hi (by decide)
  rw [Nat.add_zero] at this
  by_cases d : i = s
  · rw [if_pos d] at this
    exact isI_of (n := 0) this
  · rw [if_neg d] at this
    exact isI_of (this.trans (t.up i hi))
theorem conJ4_ok : ∀ g l m t, conJ4 g l m = some t → Con E0 g l m t := by
  intro g l m t h
  unfold conJ4 at h
  split at h
  · rename_i ws x; cases h
    refine Con.asked fun hq => Con.args (l' := [wbS ws, i64 (.o x.den)]) (fun R vs ha => by
      match vs, ha with
      | [v, w], ha => exact ⟨ha.1, ha.2.1, trivial⟩) ?_
    intro A hs
    exact rvoid_con x.den m A ⟨fun p hp => hq p hp, hs⟩
  · exact conI1_ok _ _ _ _ h
theorem EJ4_ok : EnvOk EJ4 := EnvOk.with E0_ok _ _ conJ4_ok
theorem wdL_ok {us zz : Array Value} (hz : us.size = 448) (hu : ∀ i, i < 32 → IsInt .i64 us (64 + i * 12)) (hzz : zz.size = 448) : ∀ (n i : Nat), i + n = 32 → Good Tryd.prog (weA (drL us h 32) 0) 0 (wdL_F h (i : Int) (drL us h i) zz) (wdL_M h (i : Int) (drL us h i) zz) := by
  intro n
  induction n with
  | zero =>
    intro i hi
    obtain rfl : i = 32 := by omega
    obtain ⟨z, _, _⟩ := drL_f us h hz 32 (Nat.le_refl _)
    refine past_vc EJ4_ok 1000 (wd1 h _ _ zz (drL us h 32) 0 (fun _ _ _ => False)) ?_ (fun _ _ h => h) (fun fs m hb => wdL_good (fun _ _ _ h => h.elim) hb)
    have d : decide (((32 : Nat) : Int) < 32) = false := rfl
    simp only [d, z, hzz, Bool.false_eq_true, Bool.true_eq_false, true_implies, false_implies, and_true, true_and]
  | succ n ih =>
    intro i hi
    have hi' : i < 32 := by omega
    obtain ⟨z, a, b⟩ := drL_f us h hz i (by omega)
    refine past_vc EJ4_ok 1000 (wd1 h (i : Int) _ zz (drL us h 32) 0 (fun i' u z => i' = ((i + 1 : Nat) : Int) ∧ u = drL us h (i + 1) ∧ z = zz)) ?_ (fun _ _ h => h) (fun fs m hb => wdL_good (fun i' u z ⟨e1, e2, e3⟩ => by rw [e1, e2, e3]; exact ih (i + 1) (by omega)) hb)
    have y0 : 0 ≤ (i : Int) := by omega
    have y1 : (i : Int) < 32 := by omega
    have d : decide ((i : Int) < 32) = true := decide_eq_true y1
    have ei : ari .add .i64 (i : Int) 1 = ((i + 1 : Nat) : Int) := by rw [ari_add, i64_in' (by omega) (by omega)]; omega
    have g : IsInt .i64 (drL us h i) (64 + i * 12) := isI_of ((b _ (fun k hk e => by omega)).trans (hu i hi'))
    have y : 64 + i * 12 < 448 := by omega
    have eL : drL us h (i + 1) = if intAt (drL us h i) (64 + i * 12) = h then (drL us h i).setIfInBounds (64 + i * 12) (.int .i64 0) else drL us h i := rfl
    rw [eL]
    by_cases c : intAt (drL us h i) (64 + i * 12) = h
    · have c1 : (intAt (drL us h i) (64 + i * 12) == h) = true := beq_iff_eq.2 c
      rw [if_pos c]
      simp only [Int.toNat_natCast, c1, y0, y1, d, ei, g, y, z, Bool.false_eq_true, Bool.true_eq_false, decide_true, true_implies, false_implies, and_true, true_and, wdL_d0_ok]
    · have c1 : (intAt (drL us h i) (64 + i * 12) == h) = false := beq_eq_false_iff_ne.2 c
      rw [if_neg c]
      simp only [Int.toNat_natCast, c1, y0, y1, d, ei, g, y, z, Bool.false_eq_true, Bool.true_eq_false, decide_true, true_implies, false_implies, and_true, true_and, wdL_d0_ok]
theorem rdrop_con (h : Int) (m : SMem) : Con E0 22 [wtS ws, i64 (.o h)] m (needs [WT ws] (.ret (weS (drW ws h) (drE ws h)) m)) := by
  refine Con.pure E0_ok (by kernel_rfl : E0.fn 22 = some Tryd.f22) (by kernel_rfl : Tryd.f22.body = some (Tryd.f22.body.getD .skip)) (by kernel_rfl) (by kernel_rfl) fun hq => ?_
  have t : WT ws := hq _ (by simp)
  have hz := t.sz
  have h64 : (64 : Nat) ≤ 448 := by decide
  have wb := t.wb
  by_cases c : slW (ws.extract 0 64) h < 0
  · refine (Good.ret [] (run_vc EJ4_ok 1000 (wd0 ws h (drW ws h) (drE ws h) (fun _ _ _ => False)) ?_ (fun s m h => h) fun fs m hb => wdL_good (fun _ _ _ h => h.elim) hb)).mono fun _ _ h => h.1
    have d : decide (slW (ws.extract 0 64) h < 0) = true := decide_eq_true c
    have e1 : drW ws h = ws := if_pos c
    have e2 : drE ws h = 4 := if_pos c
    simp only [d, e1, e2, hz, h64, wb, Bool.true_eq_false, true_implies, false_implies, and_true, true_and]
  · have hlt : slW (ws.extract 0 64) h < 32 := slFrom_lt 32 0 rfl
    obtain ⟨s, es⟩ : ∃ j : Nat, slW (ws.extract 0 64) h = (j : Int) := ⟨(slW (ws.extract 0 64) h).toNat, by omega⟩
    have hs : s < 32 := by omega
    have e1 : drW ws h = drL (dr0 ws h) h 32 := if_neg c
    have e2 : drE ws h = 0 := if_neg c
    rw [e1, e2]
    refine (Good.ret [] (run_vc EJ4_ok 1000 (wd0 ws h (drL (dr0 ws h) h 32) 0 (fun i u z => i = ((0 : Nat) : Int) ∧ u = drL (dr0 ws h) h 0 ∧ z = zW)) ?_ (fun s m h => h) fun fs m hb => wdL_good (fun i u z ⟨a, b, d⟩ => by rw [a, b, d]; exact wdL_ok (dr0_f t hs es).1 (fun i hi => dr0_up t hs es hi) zW_sz 32 0 rfl) hb)).mono fun _ _ h => h.1
    have d : decide (slW (ws.extract 0 64) h < 0) = false := decide_eq_false c
    have vz := voW_size wb h
    have y0 : 0 ≤ slW (ws.extract 0 64) h := by omega
    have z0 : 0 + (voW (ws.extract 0 64) h).toList.length ≤ ws.size := by rw [Array.length_toList]; omega
    have z1 : (putAt ws 0 (voW (ws.extract 0 64) h).toList).size = 448 := by rw [putAt_size z0]; exact hz
    have y2 : 64 + (slW (ws.extract 0 64) h).toNat * 12 + 12 ≤ 448 := by omega
    simp only [d, vz, y0, hlt, z1, y2, hz, h64, wb, Nat.zero_add, Bool.true_eq_false, Bool.false_eq_true, true_implies, false_implies, and_true, true_and, wdL_d0_ok]
    exact ⟨rfl, rfl⟩
omit [Gh] in
theorem voW_f (hw : WB ws) {s : Nat} (hs : s < 32) (es : slW ws h = (s : Int)) : ∀ j, j < 32 → (voW ws h)[j]? = (if j = s ∧ gnW ws s ≠ 8388607 then some (.int .i64 (gnW ws s + 1)) else ws[j]?) ∧ (voW ws h)[32 + j]? = (if j = s then some (.int .i64 (if gnW ws s = 8388607 then 2 else 0)) else ws[32 + j]?) := by
  intro j hj
  have hz := hw.sz
  unfold voW
  rw [if_neg (by omega), es, Int.toNat_natCast]
  by_cases c : gnW ws s = 8388607
  · rw [if_pos c, if_neg (fun k => k.2 c), if_pos c]
    constructor
    · rw [Array.getElem?_setIfInBounds, if_neg (by omega), Array.getElem?_setIfInBounds, if_neg (by omega)]
    · rw [Array.getElem?_setIfInBounds]
      by_cases d : j = s
      · rw [if_pos d, if_pos (by omega), if_pos (by rw [Array.size_setIfInBounds]; omega)]
      · rw [if_neg d, if_neg (by omega), Array.getElem?_setIfInBounds, if_neg (by omega)]
  · rw [if_neg c, if_neg c]
    constructor
    · rw [Array.getElem?_setIfInBounds]
      by_cases d : j = s
      · rw [if_pos d.symm, if_pos (show j = s ∧ gnW ws s ≠ 8388607 from ⟨d, c⟩), if_pos (by rw [Array.size_setIfInBounds]; omega)]
      · rw [if_neg (fun k => d k.symm), if_neg (show ¬ (j = s ∧ gnW ws s ≠ 8388607) from fun k => d k.1), Array.getElem?_setIfInBounds, if_neg (by omega)]
    · rw [Array.getElem?_setIfInBounds, if_neg (by omega), Array.getElem?_setIfInBounds]
      by_cases d : j = s
      · rw [if_pos d, if_pos (by omega), if_pos (by omega)]
      · rw [if_neg d, if_neg (by omega)]
omit [Gh] in
theorem rwD_up {a b q l : Int} {k : Nat → Int} {c : Nat} (hc : c < 12) (h0 : c ≠ 0) : (rwD a q l k)[c]? = (rwD b q l k)[c]? := by
  match c, hc, h0 with
  | 1, _, _ | 2, _, _ | 3, _, _ | 4, _, _ | 5, _, _ | 6, _, _ | 7, _, _ | 8, _, _ | 9, _, _ | 10, _, _ | 11, _, _ => rfl
theorem SW.drop (w : SW ts ws) (hb : TbOk ts) (h : Int) : SW (dropT ts h) (drW ws h) ∧ drE ws h = getX5 ts h := by
  have es := w.slot hb h
  have t := w.wt hb
  cases hg : gdF ts h with
  | false =>
    rw [if_neg (by rw [hg]; decide)] at es
    have e1 : drW ws h = ws := if_pos (by omega)
    have e2 : drE ws h = 4 := if_pos (by omega)
    have e3 : dropT ts h = ts := by unfold dropT; rw [hg]; rfl
    have e4 : getX5 ts h = 4 := by unfold getX5; rw [hg]; rfl
    rw [e1, e2, e3, e4]
    exact ⟨w, rfl⟩
  | true =>
    rw [if_pos hg] at es
    obtain ⟨_, _, h32, hk, hn, _, h1⟩ := good_f hb hg
    have e1 : drW ws h = drL (dr0 ws h) h 32 := if_neg (by omega)
    have e2 : drE ws h = 0 := if_neg (by omega)
    have e3 : dropT ts h = drT ts h := by unfold dropT; rw [hg]; rfl
    have e4 : getX5 ts h = 0 := by unfold getX5; rw [hg]; rfl
    rw [e1, e2, e3, e4]
    refine ⟨?_, rfl⟩
    obtain ⟨a1, a2, a3⟩ := dr0_f t h32 es
    obtain ⟨b1, b2, b3⟩ := drL_f (dr0 ws h) h a1 32 (Nat.le_refl _)
    have v := voW_f t.wb h32 es
    obtain ⟨d1, d2, d3, d4⟩ := drop_f hb hg
    have egn : gnW (ws.extract 0 64) (sl h) = ageAt (bkB ts) (sl h) := w.gn h32
    have evS : bkB (drT ts h) = voidS (bkB ts) (sl h) := by
      rw [d2]
      rcases void_cases hb.bk h with ⟨k, _⟩ | ⟨i, hi, _, e, _, ev⟩
      · rw [show goodB (bkB ts) h = true from hg] at k; cases k
      · rw [ev]
        have : sl h = i := by rw [e]; exact slotI_name hi (hb.bk.ra i hi)
        rw [this]
    have hbs := hb.bk.sz
    have ek : ∀ j, kindAt (bkB (drT ts h)) j = if j = sl h then (if ageAt (bkB ts) (sl h) = 8388607 then 2 else 0) else kindAt (bkB ts) j := fun j => by rw [evS]; exact void_kind hbs h32
    have ea : ∀ j, ageAt (bkB (drT ts h)) j = if j = sl h then (if ageAt (bkB ts) (sl h) = 8388607 then ageAt (bkB ts) (sl h) else ageAt (bkB ts) (sl h) + 1) else ageAt (bkB ts) j := fun j => by rw [evS]; exact void_age hbs h32
    have low : ∀ j, j < 64 → (drL (dr0 ws h) h 32)[j]? = (voW (ws.extract 0 64) h)[j]? := fun j hj => by
      rw [b3 j (fun i hi e => by omega)]
      exact a2 j hj
    refine SW.mk' b1 (fun j hj => ?_) (fun j hj => ?_) (fun j hj hkj c hc => ?_) (fun j hj hkj c hc => ?_)
    · rw [low j (by omega), (v j hj).1, ea, egn]
      by_cases d : j = sl h
      · by_cases k : ageAt (bkB ts) (sl h) = 8388607
        · rw [if_neg (fun q => q.2 k), if_pos d, if_pos k, w.bk (by omega), d]
          exact w.g _ h32
        · rw [if_pos ⟨d, k⟩, if_pos d, if_neg k]
      · rw [if_neg (fun q => d q.1), if_neg d, w.bk (by omega)]
        exact w.g j hj
    · rw [low (32 + j) (by omega), (v j hj).2, ek, egn]
      by_cases d : j = sl h
      · rw [if_pos d, if_pos d]
      · rw [if_neg d, if_neg d, w.bk (by omega)]
        exact w.s j hj
    · rw [ek] at hkj
      by_cases d : j = sl h
      · rw [if_pos d] at hkj
        split at hkj <;> exact absurd hkj (by decide)
      rw [if_neg d] at hkj
      have en : nmF (drT ts h) j = nmF ts j := by unfold nmF; rw [ea, if_neg d]
      rw [en]
      have gx : gdF ts (nmF ts j) = true := (goodB_iff hb.bk).2 ⟨j, hj, hkj, rfl⟩
      have hne : nmF ts j ≠ h := fun k => d (by rw [hn] at k; exact (name_inj hj h32 k).1)
      obtain ⟨q1, q2, q3, q4, q5⟩ := rg_eq (d4 _ gx hne)
      have qu := drop_up hb hg gx hne
      have ar : ∀ c, c < 12 → CellW ts (nmF ts j) c (dr0 ws h)[64 + j * 12 + c]? := fun c hc => by
        rw [a3 j c hj hc, if_neg d]
        exact w.cw hj hkj hc
      have a0 : (dr0 ws h)[64 + j * 12]? = some (.int .i64 (upF ts (nmF ts j))) := by
        have := ar 0 (by decide)
        unfold CellW at this
        rw [if_neg (by decide)] at this
        exact this
      have er : rwF (drT ts h) (nmF ts j) = rwD (if upF ts (nmF ts j) = h then 0 else upF ts (nmF ts j)) (quF ts (nmF ts j)) (lnF ts (nmF ts j)) (ceF ts (nmF ts j)) := rwD_eq qu q2 q5 q3
      have i0 : intAt (dr0 ws h) (64 + j * 12) = upF ts (nmF ts j) := intAt_of a0
      by_cases hc0 : c = 0
      · rw [hc0]
        unfold CellW
        rw [if_neg (by decide), er]
        by_cases k : upF ts (nmF ts j) = h
        · rw [if_pos k]
          exact b2 j hj (i0.trans k)
        · rw [if_neg k]
          rw [b3 _ (fun i hi e => by
            have : i = j := by omega
            rw [Nat.add_zero, i0]; exact k)]
          exact a0
      · rw [b3 _ (fun i hi e => by omega)]
        have := ar c hc
        unfold CellW at this ⊢
        rw [q4, er]
        split at this
        · rename_i e; rw [if_pos e]; exact this
        · rename_i e
          rw [if_neg e, this]
          exact rwD_up hc hc0
    · have ar : ∀ c, c < 12 → (dr0 ws h)[64 + j * 12 + c]? = (rwD 0 0 0 fun _ => 0)[c]? := fun c hc => by
        rw [a3 j c hj hc]
        by_cases d : j = sl h
        · rw [if_pos d]
          match c, hc with
          | 0, _ | 1, _ | 2, _ | 3, _ | 4, _ | 5, _ | 6, _ | 7, _ | 8, _ | 9, _ | 10, _ | 11, _ => rfl
        · rw [if_neg d]
          rw [ek, if_neg d] at hkj
          exact w.z j hj hkj c hc
      have i0 : intAt (dr0 ws h) (64 + j * 12) = 0 := intAt_of (ar 0 (by decide))
      rw [b3 _ (fun i hi e => by
        by_cases hc0 : c = 0
        · rw [hc0, Nat.add_zero, i0]; omega
        · omega)]
      exact ar c hc
end
end Go.Proofs.YtjjeahnbppmigaaDoor
/- The document's table: Raise: its environment. No condition. -/
namespace Go.Proofs.YtjjeahnbppmigaaDoor
set_option linter.unusedSectionVars false
variable [Gh]
set_option linter.unusedVariables false
noncomputable def conI3 (ts : Array Value) (g : FuncId) (l : List SV) (m : SMem) : Option Tree := match g, l with
  | 43, [.s (.agg (.op ws)), .s (.c (.f (.int .i64 a))), .s (.c (.f (.int .i64 h)))] => some (.need [SW ts ws, FIn ts, h.den = 0 ∨ gdF ts h.den = true] (.ret (sB (.o (abF ts a.den h.den))) m))
  | g, l => conI2 ts g l m
noncomputable def EI3 (ts : Array Value) : Env := ⟨Tryd.prog, fnOf, conI3 ts, haltAt []⟩
end Go.Proofs.YtjjeahnbppmigaaDoor
