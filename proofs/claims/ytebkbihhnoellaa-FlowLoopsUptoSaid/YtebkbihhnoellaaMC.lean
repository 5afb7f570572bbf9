/- Of flow: FlowGoes: its states. -/
import Derived.Test.YtebkbihhnoellaaMB
import Derived.Test.YtebkbihhnoellaaRows
import Derived.Test.YtebkbihhnoellaaE1
import Derived.ProofKit
import Derived.OpenShut
import Derived.ChangeSame
import Derived.Deep.Slices
import Derived.Deep.Fields
import Derived.ChangeMaps5
import Derived.JoinedCond
set_option linter.unusedVariables false
set_option linter.unusedSimpArgs false
namespace Go.Proofs.Ytebkbihhnoellaa
set_option maxRecDepth 100000
theorem sH_vc (off : Nat) (num : Nat) (cs : Array Value) (ty : TypeId) (a : Int) (b : Int) (QhR : Int → Int → Nat → Nat → Array Value → Array Value → Prop) (QhN : Int → Int → Nat → Array Value → Prop) : (sH_t off num cs ty a b).vc ((boolR true)) (sH_x off num cs ty a b QhR QhN) =
    ((decide ((↑num : Int) > (200 : Int)) = true → true = true) ∧ (decide ((↑num : Int) > (200 : Int)) = false → (InsOk cs off num ∧ num ≠ (0 : Nat) ∧ num ≤ (200 : Nat) ∧ True) ∧ (RowOk (ofRow cs off num) (0 : Nat) num ∧ True) ∧ ((!mayV (ofRow cs off num) (0 : Nat) num) = true → (InsOk cs off num ∧ mayV cs off num = false ∧ True) ∧ true = true) ∧ ((!mayV (ofRow cs off num) (0 : Nat) num) = false → (InsOk cs off num ∧ True) ∧ ((!mayV cs off num) = true → QhN (0 : Int) (0 : Int) num (ofRow cs off num) ∧ False) ∧ ((!mayV cs off num) = false → ((decide (a < (0 : Int)) == false) = true → (decide (a ≥ (↑num : Int)) = true → QhN (0 : Int) (0 : Int) num (ofRow cs off num) ∧ CallKind.normal = CallKind.normal ∧ TodoOk (ren 1 [(1, 1)]) hN_d0 hN_d0 ∧ off = off ∧ num = num ∧ a = a ∧ num = num ∧ (0 : Int) = (0 : Int) ∧ Value.slice none (0 : Nat) (0 : Nat) = Value.slice none (0 : Nat) (0 : Nat) ∧ (0 : Int) = (0 : Int) ∧ ty = ty ∧ cs = cs ∧ (46 : TypeId) = (46 : TypeId) ∧ ofRow cs off num = ofRow cs off num ∧ True) ∧ (decide (a ≥ (↑num : Int)) = false → (((0 : Int) ≤ a ∧ a < (↑num : Int)) ∧ True) ∧ (IsInt IntKind.u16 cs (off + Int.toNat a * 5 + 4) ∧ True) ∧ (((0 : Int) ≤ a ∧ a < (↑num : Int)) ∧ True) ∧ (IsInt IntKind.u8 cs (off + Int.toNat a * 5) ∧ True) ∧ ((intAt cs (off + Int.toNat a * 5) == (0 : Int)) = true → QhN (0 : Int) (0 : Int) num (ofRow cs off num) ∧ CallKind.normal = CallKind.normal ∧ TodoOk (ren 1 [(1, 1)]) hN_d0 hN_d0 ∧ off = off ∧ num = num ∧ a = a ∧ num = num ∧ (0 : Int) = (0 : Int) ∧ Value.slice none (0 : Nat) (0 : Nat) = Value.slice none (0 : Nat) (0 : Nat) ∧ (0 : Int) = (0 : Int) ∧ ty = ty ∧ cs = cs ∧ (46 : TypeId) = (46 : TypeId) ∧ ofRow cs off num = ofRow cs off num ∧ True) ∧ ((intAt cs (off + Int.toNat a * 5) == (0 : Int)) = false → ((intAt cs (off + Int.toNat a * 5) == (5 : Int)) = true → QhR (0 : Int) (0 : Int) num (1 : Nat) (ofRow cs off num) #[Value.int IntKind.i64 (IntKind.wrap IntKind.i64 (intAt cs (off + Int.toNat a * 5 + 4)))] ∧ CallKind.normal = CallKind.normal ∧ TodoOk (ren 1 [(1, 1), (2, 2)]) hN_d0 hN_d0 ∧ off = off ∧ num = num ∧ a = a ∧ num = num ∧ (0 : Int) = (0 : Int) ∧ (1 : Nat) = (1 : Nat) ∧ (0 : Int) = (0 : Int) ∧ ty = ty ∧ cs = cs ∧ (46 : TypeId) = (46 : TypeId) ∧ ofRow cs off num = ofRow cs off num ∧ (3 : TypeId) = (3 : Nat) ∧ #[Value.int IntKind.i64 (IntKind.wrap IntKind.i64 (intAt cs (off + Int.toNat a * 5 + 4)))] = #[Value.int IntKind.i64 (IntKind.wrap IntKind.i64 (intAt cs (off + Int.toNat a * 5 + 4)))] ∧ True) ∧ ((intAt cs (off + Int.toNat a * 5) == (5 : Int)) = false → ((intAt cs (off + Int.toNat a * 5) == (6 : Int)) = true → (((if ari BinOp.add IntKind.i64 a (1 : Int) > IntKind.wrap IntKind.i64 (intAt cs (off + Int.toNat a * 5 + 4)) then ari BinOp.add IntKind.i64 a (1 : Int) else IntKind.wrap IntKind.i64 (intAt cs (off + Int.toNat a * 5 + 4))) == if ari BinOp.add IntKind.i64 a (1 : Int) < IntKind.wrap IntKind.i64 (intAt cs (off + Int.toNat a * 5 + 4)) then ari BinOp.add IntKind.i64 a (1 : Int) else IntKind.wrap IntKind.i64 (intAt cs (off + Int.toNat a * 5 + 4))) = true → QhR (0 : Int) (0 : Int) num (1 : Nat) (ofRow cs off num) #[Value.int IntKind.i64 (if ari BinOp.add IntKind.i64 a (1 : Int) < IntKind.wrap IntKind.i64 (intAt cs (off + Int.toNat a * 5 + 4)) then ari BinOp.add IntKind.i64 a (1 : Int) else IntKind.wrap IntKind.i64 (intAt cs (off + Int.toNat a * 5 + 4))), Value.int IntKind.i64 (0 : Int)] ∧ CallKind.normal = CallKind.normal ∧ TodoOk (ren 1 [(1, 1), (2, 2)]) hN_d0 hN_d0 ∧ off = off ∧ num = num ∧ a = a ∧ num = num ∧ (0 : Int) = (0 : Int) ∧ (1 : Nat) = (1 : Nat) ∧ (0 : Int) = (0 : Int) ∧ ty = ty ∧ cs = cs ∧ (46 : TypeId) = (46 : TypeId) ∧ ofRow cs off num = ofRow cs off num ∧ (3 : TypeId) = (3 : Nat) ∧ #[Value.int IntKind.i64 (if ari BinOp.add IntKind.i64 a (1 : Int) < IntKind.wrap IntKind.i64 (intAt cs (off + Int.toNat a * 5 + 4)) then ari BinOp.add IntKind.i64 a (1 : Int) else IntKind.wrap IntKind.i64 (intAt cs (off + Int.toNat a * 5 + 4))), Value.int IntKind.i64 (0 : Int)] = #[Value.int IntKind.i64 (if ari BinOp.add IntKind.i64 a (1 : Int) < IntKind.wrap IntKind.i64 (intAt cs (off + Int.toNat a * 5 + 4)) then ari BinOp.add IntKind.i64 a (1 : Int) else IntKind.wrap IntKind.i64 (intAt cs (off + Int.toNat a * 5 + 4))), Value.int IntKind.i64 (0 : Int)] ∧ True) ∧ (((if ari BinOp.add IntKind.i64 a (1 : Int) > IntKind.wrap IntKind.i64 (intAt cs (off + Int.toNat a * 5 + 4)) then ari BinOp.add IntKind.i64 a (1 : Int) else IntKind.wrap IntKind.i64 (intAt cs (off + Int.toNat a * 5 + 4))) == if ari BinOp.add IntKind.i64 a (1 : Int) < IntKind.wrap IntKind.i64 (intAt cs (off + Int.toNat a * 5 + 4)) then ari BinOp.add IntKind.i64 a (1 : Int) else IntKind.wrap IntKind.i64 (intAt cs (off + Int.toNat a * 5 + 4))) = false → QhR (0 : Int) (0 : Int) num (2 : Nat) (ofRow cs off num) #[Value.int IntKind.i64 (if ari BinOp.add IntKind.i64 a (1 : Int) < IntKind.wrap IntKind.i64 (intAt cs (off + Int.toNat a * 5 + 4)) then ari BinOp.add IntKind.i64 a (1 : Int) else IntKind.wrap IntKind.i64 (intAt cs (off + Int.toNat a * 5 + 4))), Value.int IntKind.i64 (if ari BinOp.add IntKind.i64 a (1 : Int) > IntKind.wrap IntKind.i64 (intAt cs (off + Int.toNat a * 5 + 4)) then ari BinOp.add IntKind.i64 a (1 : Int) else IntKind.wrap IntKind.i64 (intAt cs (off + Int.toNat a * 5 + 4)))] ∧ CallKind.normal = CallKind.normal ∧ TodoOk (ren 1 [(1, 1), (2, 2)]) hN_d0 hN_d0 ∧ off = off ∧ num = num ∧ a = a ∧ num = num ∧ (0 : Int) = (0 : Int) ∧ (2 : Nat) = (2 : Nat) ∧ (0 : Int) = (0 : Int) ∧ ty = ty ∧ cs = cs ∧ (46 : TypeId) = (46 : TypeId) ∧ ofRow cs off num = ofRow cs off num ∧ (3 : TypeId) = (3 : Nat) ∧ #[Value.int IntKind.i64 (if ari BinOp.add IntKind.i64 a (1 : Int) < IntKind.wrap IntKind.i64 (intAt cs (off + Int.toNat a * 5 + 4)) then ari BinOp.add IntKind.i64 a (1 : Int) else IntKind.wrap IntKind.i64 (intAt cs (off + Int.toNat a * 5 + 4))), Value.int IntKind.i64 (if ari BinOp.add IntKind.i64 a (1 : Int) > IntKind.wrap IntKind.i64 (intAt cs (off + Int.toNat a * 5 + 4)) then ari BinOp.add IntKind.i64 a (1 : Int) else IntKind.wrap IntKind.i64 (intAt cs (off + Int.toNat a * 5 + 4)))] = #[Value.int IntKind.i64 (if ari BinOp.add IntKind.i64 a (1 : Int) < IntKind.wrap IntKind.i64 (intAt cs (off + Int.toNat a * 5 + 4)) then ari BinOp.add IntKind.i64 a (1 : Int) else IntKind.wrap IntKind.i64 (intAt cs (off + Int.toNat a * 5 + 4))), Value.int IntKind.i64 (if ari BinOp.add IntKind.i64 a (1 : Int) > IntKind.wrap IntKind.i64 (intAt cs (off + Int.toNat a * 5 + 4)) then ari BinOp.add IntKind.i64 a (1 : Int) else IntKind.wrap IntKind.i64 (intAt cs (off + Int.toNat a * 5 + 4)))] ∧ True)) ∧ ((intAt cs (off + Int.toNat a * 5) == (6 : Int)) = false → QhR (0 : Int) (0 : Int) num (1 : Nat) (ofRow cs off num) #[Value.int IntKind.i64 (ari BinOp.add IntKind.i64 a (1 : Int))] ∧ CallKind.normal = CallKind.normal ∧ TodoOk (ren 1 [(1, 1), (2, 2)]) hN_d0 hN_d0 ∧ off = off ∧ num = num ∧ a = a ∧ num = num ∧ (0 : Int) = (0 : Int) ∧ (1 : Nat) = (1 : Nat) ∧ (0 : Int) = (0 : Int) ∧ ty = ty ∧ cs = cs ∧ (46 : TypeId) = (46 : TypeId) ∧ ofRow cs off num = ofRow cs off num ∧ (3 : TypeId) = (3 : Nat) ∧ #[Value.int IntKind.i64 (ari BinOp.add IntKind.i64 a (1 : Int))] = #[Value.int IntKind.i64 (ari BinOp.add IntKind.i64 a (1 : Int))] ∧ True))))) ∧ ((decide (a < (0 : Int)) == false) = false → QhN (0 : Int) (0 : Int) num (ofRow cs off num) ∧ CallKind.normal = CallKind.normal ∧ TodoOk (ren 1 [(1, 1)]) hN_d0 hN_d0 ∧ off = off ∧ num = num ∧ a = a ∧ num = num ∧ (0 : Int) = (0 : Int) ∧ Value.slice none (0 : Nat) (0 : Nat) = Value.slice none (0 : Nat) (0 : Nat) ∧ (0 : Int) = (0 : Int) ∧ ty = ty ∧ cs = cs ∧ (46 : TypeId) = (46 : TypeId) ∧ ofRow cs off num = ofRow cs off num ∧ True))))) := by kernel_rfl
theorem tN_vc (off : Nat) (num : Nat) (cs : Array Value) (ty : TypeId) (a : Int) (k : Int) (i : Int) (n : Nat) (rs : Array Value) (QhN : Int → Int → Nat → Array Value → Prop) : (tN_t off num cs ty a k i n rs).vc ((boolR true)) (tN_x off num cs ty a k i n rs QhN) =
    ((decide (i ≤ (↑num : Int)) = true → (RowOk rs (0 : Nat) n ∧ True) ∧ ((!edB rs (0 : Nat) n a i) = true → QhN k (ari BinOp.add IntKind.i64 i (1 : Int)) n rs ∧ CallKind.normal = CallKind.normal ∧ TodoOk (ren 1 [(1, 1)]) hN_d0 hN_d0 ∧ off = off ∧ num = num ∧ a = a ∧ n = n ∧ ari BinOp.add IntKind.i64 i (1 : Int) = ari BinOp.add IntKind.i64 i (1 : Int) ∧ Value.slice none (0 : Nat) (0 : Nat) = Value.slice none (0 : Nat) (0 : Nat) ∧ k = k ∧ ty = ty ∧ cs = cs ∧ (46 : TypeId) = (46 : TypeId) ∧ rs = rs ∧ True) ∧ ((!edB rs (0 : Nat) n a i) = false → ((decide (k ≥ (0 : Int)) == false) = true → False) ∧ ((decide (k ≥ (0 : Int)) == false) = false → false = true))) ∧ (decide (i ≤ (↑num : Int)) = false → (InsOk cs off num ∧ True) ∧ (mayV cs off num = true → (((k == (0 : Int)) == true) = true → (RowOk rs (0 : Nat) n ∧ n ≤ (64 : Nat) ∧ True) ∧ (num + 1 = n + 1 ∧ LikeB (boL (metB cs off num) (num + 1)) (boL (rchB rs (0 : Nat) n) (n + 1)) (num + 1) ∧ True) ∧ true = true) ∧ (((k == (0 : Int)) == true) = false → false = true)) ∧ (mayV cs off num = false → (((k == (0 : Int)) == true) = true → false = true) ∧ (((k == (0 : Int)) == true) = false → false = true)))) := by kernel_rfl
theorem tR_vc (off : Nat) (num : Nat) (cs : Array Value) (ty : TypeId) (a : Int) (k : Int) (i : Int) (n : Nat) (t : Nat) (rs : Array Value) (ts : Array Value) (QhR : Int → Int → Nat → Nat → Array Value → Array Value → Prop) : (tR_t off num cs ty a k i n t rs ts).vc ((boolR true)) (tR_x off num cs ty a k i n t rs ts QhR) =
    ((decide (i ≤ (↑num : Int)) = true → (RowOk rs (0 : Nat) n ∧ True) ∧ ((!edB rs (0 : Nat) n a i) = true → QhR k (ari BinOp.add IntKind.i64 i (1 : Int)) n t rs ts ∧ CallKind.normal = CallKind.normal ∧ TodoOk (ren 1 [(1, 1), (2, 2)]) hN_d0 hN_d0 ∧ off = off ∧ num = num ∧ a = a ∧ n = n ∧ ari BinOp.add IntKind.i64 i (1 : Int) = ari BinOp.add IntKind.i64 i (1 : Int) ∧ t = t ∧ k = k ∧ ty = ty ∧ cs = cs ∧ (46 : TypeId) = (46 : TypeId) ∧ rs = rs ∧ (3 : TypeId) = (3 : TypeId) ∧ ts = ts ∧ True) ∧ ((!edB rs (0 : Nat) n a i) = false → ((decide (k ≥ (↑t : Int)) == false) = true → (((0 : Int) ≤ k ∧ k < (↑t : Int)) ∧ True) ∧ (IsInt IntKind.i64 ts ((0 : Nat) + Int.toNat k * 1) ∧ True) ∧ ((intAt ts ((0 : Nat) + Int.toNat k * 1) != i) = true → false = true) ∧ ((intAt ts ((0 : Nat) + Int.toNat k * 1) != i) = false → QhR (ari BinOp.add IntKind.i64 k (1 : Int)) (ari BinOp.add IntKind.i64 i (1 : Int)) n t rs ts ∧ CallKind.normal = CallKind.normal ∧ TodoOk (ren 1 [(1, 1), (2, 2)]) hN_d0 hN_d0 ∧ off = off ∧ num = num ∧ a = a ∧ n = n ∧ ari BinOp.add IntKind.i64 i (1 : Int) = ari BinOp.add IntKind.i64 i (1 : Int) ∧ t = t ∧ ari BinOp.add IntKind.i64 k (1 : Int) = ari BinOp.add IntKind.i64 k (1 : Int) ∧ ty = ty ∧ cs = cs ∧ (46 : TypeId) = (46 : TypeId) ∧ rs = rs ∧ (3 : TypeId) = (3 : TypeId) ∧ ts = ts ∧ True)) ∧ ((decide (k ≥ (↑t : Int)) == false) = false → false = true))) ∧ (decide (i ≤ (↑num : Int)) = false → (InsOk cs off num ∧ True) ∧ (mayV cs off num = true → (((k == (↑t : Int)) == true) = true → (RowOk rs (0 : Nat) n ∧ n ≤ (64 : Nat) ∧ True) ∧ (num + 1 = n + 1 ∧ LikeB (boL (metB cs off num) (num + 1)) (boL (rchB rs (0 : Nat) n) (n + 1)) (num + 1) ∧ True) ∧ true = true) ∧ (((k == (↑t : Int)) == true) = false → false = true)) ∧ (mayV cs off num = false → (((k == (↑t : Int)) == true) = true → false = true) ∧ (((k == (↑t : Int)) == true) = false → false = true)))) := by kernel_rfl
end Go.Proofs.Ytebkbihhnoellaa
/- Of flow: FlowGoes' rounds. No condition. -/
namespace Go.Proofs.Ytebkbihhnoellaa
set_option linter.unusedSectionVars false
set_option maxRecDepth 100000
theorem EGo_ok : EnvOk EGo := EnvOk.with E0_ok _ _ conGo_ok
section
variable (off num : Nat) (cs : Array Value) (ty : TypeId) (a : Int) (hI : InsOk cs off num) (hM : mayV cs off num = true)
include hI hM
theorem ref_row : RowOk (ofRow cs off num) 0 num ∧ LikeB (boL (metB cs off num) (num + 1)) (boL (rchB (ofRow cs off num) 0 num) (num + 1)) (num + 1) := by
  have n64 := (mayV_iff.1 hM).1
  obtain ⟨h1, h2⟩ := of_row hI
  exact ⟨h1, like_boL (by omega) fun i hi => met_rch hI hM h2 (by omega)⟩
theorem hN_round (hE : ∀ i : Nat, edB (ofRow cs off num) 0 num a i = false) : ∀ (K i : Nat), num + 1 - i < K → i ≤ num + 1 → Good Try.prog (boolR true) 1 (hN_F off num cs ty a (0 : Nat) i num (ofRow cs off num)) (hN_M off num cs ty a (0 : Nat) i num (ofRow cs off num)) := by
  have n64 := (mayV_iff.1 hM).1
  obtain ⟨hR, hL⟩ := ref_row off num cs hI hM
  intro K
  induction K with
  | zero => intro i h; omega
  | succ K ih =>
    intro i hK hi
    refine past_vc EGo_ok 1000 (tN_vc off num cs ty a (0 : Nat) i num (ofRow cs off num) (fun k' i' n' rs' => k' = (0 : Nat) ∧ i' = (i + 1 : Nat) ∧ n' = num ∧ rs' = ofRow cs off num ∧ i ≤ num)) ?_ (fun _ _ h => h)
      (fun fs m hb => tN_go (fun k' i' n' rs' h => ?_) hb)
    · rw [i64_add1 (show i < 1000 by omega), hE i]
      have e0 : (((0 : Nat) : Int) == 0) = true := rfl
      by_cases d : i ≤ num
      · have e1 : decide ((i : Int) ≤ (num : Int)) = true := decide_eq_true (by omega)
        simp only [e1, hR, d, Bool.not_false, Bool.true_eq_false, Bool.false_eq_true, false_implies, true_implies, true_and, and_true, hN_d0_ok]
      · have e1 : decide ((i : Int) ≤ (num : Int)) = false := decide_eq_false (by omega)
        simp only [e1, e0, hI, hM, hR, hL, n64, beqT, beqF, Bool.not_true, Bool.not_false, Bool.true_eq_false, Bool.false_eq_true, false_implies, true_implies, true_and, and_true]
    · obtain ⟨rfl, rfl, rfl, rfl, h⟩ := h
      exact ih (i + 1) (by omega) (by omega)
theorem hR_round {t : Nat} {ts : Array Value} {l : Nat → Nat} (ht : t ≤ 2) (hts : ∀ j, j < t → IsInt .i64 ts (0 + j * 1) ∧ intAt ts (0 + j * 1) = (l j : Int)) (hl : ∀ j, j < t → l j ≤ num) (hs : ∀ j j', j < j' → j' < t → l j < l j')
    (hE : ∀ i : Nat, edB (ofRow cs off num) 0 num a i = true ↔ ∃ j, j < t ∧ l j = i) :
    ∀ (K i k : Nat), num + 1 - i < K → i ≤ num + 1 → k ≤ t → (∀ j, j < t → (l j < i ↔ j < k)) → Good Try.prog (boolR true) 1 (hR_F off num cs ty a k i num t (ofRow cs off num) ts) (hR_M off num cs ty a k i num t (ofRow cs off num) ts) := by
  have n64 := (mayV_iff.1 hM).1
  obtain ⟨hR, hL⟩ := ref_row off num cs hI hM
  intro K
  induction K with
  | zero => intro i k h; omega
  | succ K ih =>
    intro i k hK hi hk hc
    refine past_vc EGo_ok 1000 (tR_vc off num cs ty a k i num t (ofRow cs off num) ts (fun k' i' n' t' rs' ts' => ∃ kk : Nat, k' = kk ∧ i' = (i + 1 : Nat) ∧ n' = num ∧ t' = t ∧ rs' = ofRow cs off num ∧ ts' = ts ∧ i ≤ num ∧ kk ≤ t ∧ ∀ j, j < t → (l j < i + 1 ↔ j < kk))) ?_ (fun _ _ h => h)
      (fun fs m hb => tR_go (fun k' i' n' t' rs' ts' h => ?_) hb)
    · rw [i64_add1 (show i < 1000 by omega), i64_add1 (show k < 1000 by omega), Int.toNat_natCast]
      by_cases d : i ≤ num
      · have e1 : decide ((i : Int) ≤ (num : Int)) = true := decide_eq_true (by omega)
        by_cases c : edB (ofRow cs off num) 0 num a i = true
        · obtain ⟨j, hj, hji⟩ := (hE i).1 c
          have hjk : ¬ j < k := fun h => by have := (hc j hj).2 h; omega
          have hkt : k < t := by omega
          have hlk : l k = i := by
            by_cases h : k = j
            · rw [h]; exact hji
            · have h1 := hs k j (by omega) hj
              have h2 := (hc k hkt).1 (by omega)
              omega
          obtain ⟨b1, b2⟩ := hts k hkt
          have e2 : decide ((k : Int) ≥ (t : Int)) = false := decide_eq_false (by omega)
          have e3 : (intAt ts (0 + k * 1) != (i : Int)) = false := by rw [b2, hlk]; simp
          have w1 : (0 : Int) ≤ (k : Int) ∧ (k : Int) < (t : Int) := by omega
          have hq : ∃ kk : Nat, ((k + 1 : Nat) : Int) = kk ∧ kk ≤ t ∧ ∀ j, j < t → (l j < i + 1 ↔ j < kk) := ⟨k + 1, rfl, by omega, fun j' hj' => by
            have h1 := hc j' hj'
            by_cases h : j' = k
            · subst h; omega
            · by_cases h2 : j' < k
              · have := h1.2 h2; omega
              · have := hs k j' (by omega) hj'; omega⟩
          simp only [e1, e2, e3, c, hR, b1, w1, d, hq, beqT, beqF, Bool.not_true, Bool.not_false, Bool.true_eq_false, Bool.false_eq_true, false_implies, true_implies, true_and, and_true, hN_d0_ok]
        · have c' : edB (ofRow cs off num) 0 num a i = false := by simpa using c
          have hq : ∃ kk : Nat, (k : Int) = kk ∧ kk ≤ t ∧ ∀ j, j < t → (l j < i + 1 ↔ j < kk) := ⟨k, rfl, hk, fun j' hj' => by
            have h1 := hc j' hj'
            have h2 : l j' ≠ i := fun e => c ((hE i).2 ⟨j', hj', e⟩)
            omega⟩
          simp only [e1, c', hR, d, hq, beqT, beqF, Bool.not_true, Bool.not_false, Bool.true_eq_false, Bool.false_eq_true, false_implies, true_implies, true_and, and_true, hN_d0_ok]
      · have e1 : decide ((i : Int) ≤ (num : Int)) = false := decide_eq_false (by omega)
        have hkt : k = t := by
          by_cases h : k < t
          · have h1 := hc k h
            have h2 := hl k h
            omega
          · omega
        have e0 : ((k : Int) == (t : Int)) = true := by rw [beq_iff_eq, hkt]
        simp only [e1, e0, hI, hM, hR, hL, n64, beqT, beqF, Bool.not_true, Bool.not_false, Bool.true_eq_false, Bool.false_eq_true, false_implies, true_implies, true_and, and_true]
    · obtain ⟨kk, rfl, rfl, rfl, rfl, rfl, rfl, h1, h2, h3⟩ := h
      exact ih (i + 1) kk (by omega) (by omega) h2 h3
end
end Go.Proofs.Ytebkbihhnoellaa
/- Of flow: FlowGoes of a row that is not empty. No condition. -/
namespace Go.Proofs.Ytebkbihhnoellaa
set_option linter.unusedSectionVars false
set_option maxRecDepth 100000
theorem ed_to {cs : Array Value} {off num : Nat} (hI : InsOk cs off num) (a i : Nat) : edB (ofRow cs off num) 0 num a i = true ↔ i ∈ toL cs off num a := by
  obtain ⟨_, h⟩ := of_row hI
  rw [edB_toL (fun i hi => by rw [h i hi]; exact (hI.2 i hi).2.2.2.2.2.1)]
  have e2 : toL (ofRow cs off num) 0 num a = toL cs off num a := by
    by_cases d : num ≤ a
    · unfold toL; rw [if_pos d, if_pos d]
    · have hh := h a (by omega)
      unfold toL; rw [hh]
  rw [e2]
theorem ed_out {cs : Array Value} {off num : Nat} {a : Int} (h : ¬ (0 ≤ a ∧ a < (num : Int))) (i : Int) : edB cs off num a i = false := by
  cases e : edB cs off num a i with
  | false => rfl
  | true => have := edB_iff.1 e; exact (h ⟨this.1, this.2.1⟩).elim
theorem may_of {cs : Array Value} {off num : Nat} (hI : InsOk cs off num) : mayV (ofRow cs off num) 0 num = mayV cs off num := by
  obtain ⟨_, h⟩ := of_row hI
  rw [Bool.eq_iff_iff, mayV_iff, mayV_iff]
  exact ⟨fun ⟨a, b⟩ => ⟨a, fun i hi => by rw [← h i hi]; exact b i hi⟩, fun ⟨a, b⟩ => ⟨a, fun i hi => by rw [h i hi]; exact b i hi⟩⟩
end Go.Proofs.Ytebkbihhnoellaa
/- Of flow: rows without instructions: an environment. No condition. -/
namespace Go.Proofs.Ytebkbihhnoellaa
set_option maxRecDepth 100000
noncomputable section
def conZ (g : FuncId) (l : List SV) (m : SMem) : Option Tree := match g, l with
  | 6, [] => some (needs [] (.ret (sB (.l true)) m))
  | _, _ => none
def EZ : Env := ⟨Try.prog, fnOf, conZ, fun _ _ _ => false⟩
def e0V : SV := .s (.c (.f .e0))
end
theorem conZ_ok (g : FuncId) (l : List SV) (m : SMem) (t : Tree) (h : conZ g l m = some t) : Con E0 g l m t := by
  unfold conZ at h
  split at h
  · exact conA_ok 6 [] _ _ h
  · cases h
theorem EZ_ok : EnvOk EZ := EnvOk.with E0_ok _ _ conZ_ok
end Go.Proofs.Ytebkbihhnoellaa
/- Of flow: rows without instructions: Ways. -/
namespace Go.Proofs.Ytebkbihhnoellaa
set_option maxRecDepth 100000
theorem wz_vc (a : Int) (rw : Array Value) : (run EZ 8000 1 [callFr 30 Try.f30.ntmps [nilV, i64 (.o a)] (Try.f30.body.getD .skip)] (mkM 1 [])).vc (aggR rw) (fun _ _ => False) =
    (((1 : Nat) ≤ (4225 : Nat) ∧ True) ∧ (IsBool (putAt (bigZ (Env.P EZ) (61 : Nat)) (0 : Nat) [Value.bool false]) (0 : Nat) ∧ True) ∧ (false = true → (IsBool (putAt (bigZ (Env.P EZ) (61 : Nat)) (0 : Nat) [Value.bool false]) (0 : Nat) ∧ True) ∧ (true = true → (IsBool (putAt (bigZ (Env.P EZ) (61 : Nat)) (0 : Nat) [Value.bool false]) (0 : Nat) ∧ True) ∧ ((1 : Nat) ≤ (4225 : Nat) ∧ True) ∧ ((4225 : Nat) = (4225 : Nat) ∧ True) ∧ ((4225 : Nat) = (4225 : Nat) ∧ (4225 : Nat) = (4225 : Nat) ∧ True) ∧ ((4225 : Nat) = (4225 : Nat) ∧ True) ∧ putAt (putAt (bigZ (Env.P EZ) (61 : Nat)) (0 : Nat) [Value.bool false]) (0 : Nat) [Value.bool (boolAt (putAt (bigZ (Env.P EZ) (61 : Nat)) (0 : Nat) [Value.bool false]) (0 : Nat))] = rw) ∧ (true = false → ((1 : Nat) ≤ (4225 : Nat) ∧ True) ∧ ((4225 : Nat) = (4225 : Nat) ∧ True) ∧ ((4225 : Nat) = (4225 : Nat) ∧ (4225 : Nat) = (4225 : Nat) ∧ True) ∧ ((4225 : Nat) = (4225 : Nat) ∧ True) ∧ putAt (putAt (bigZ (Env.P EZ) (61 : Nat)) (0 : Nat) [Value.bool false]) (0 : Nat) [Value.bool true] = rw)) ∧ (false = false → ((4225 : Nat) = (4225 : Nat) ∧ True) ∧ ((4225 : Nat) = (4225 : Nat) ∧ (4225 : Nat) = (4225 : Nat) ∧ True) ∧ ((4225 : Nat) = (4225 : Nat) ∧ True) ∧ putAt (bigZ (Env.P EZ) (61 : Nat)) (0 : Nat) [Value.bool false] = rw)) := by kernel_rfl
end Go.Proofs.Ytebkbihhnoellaa
/- Of flow: rows without instructions: Ways as a contract. No condition. -/
namespace Go.Proofs.Ytebkbihhnoellaa
set_option maxRecDepth 100000
noncomputable section
def zT : Array Value := tbM fun _ _ => false
def conZ2 (Z : Array Value) (g : FuncId) (l : List SV) (m : SMem) : Option Tree := match g, l with
  | 30, [.s (.c (.f (.lit (.slice none 0 0)))), .s (.c (.f (.int .i64 _)))] => some (needs [Z = zT] (.ret (agg Z) m))
  | g, l => conZ g l m
def EZ2 (Z : Array Value) : Env := ⟨Try.prog, fnOf, conZ2 Z, fun _ _ _ => false⟩
end
theorem zT_at {p : Nat} (h : p < 4225) : zT[p]? = some (.bool false) := by
  rw [show zT = bigZ (Env.P EW) 61 from zW_eq.symm]
  have h1 : (bigZ (Env.P EW) 61).toList = List.replicate 4225 (Value.bool false) := by kernel_rfl
  rw [← Array.getElem?_toList, h1, List.getElem?_replicate, if_pos h]
theorem zT_is {p : Nat} (h : p < 4225) : IsBool zT p ∧ boolAt zT p = false := ⟨isBo_of (zT_at h), boolAt_of (zT_at h)⟩
theorem zT_put : putAt zT 0 [Value.bool false] = zT := by
  refine Array.ext' ?_
  rw [show zT = bigZ (Env.P EW) 61 from zW_eq.symm]
  kernel_rfl
theorem ways_nil (a : Int) : Good Try.prog (aggR zT) 1 [callFr 30 Try.f30.ntmps [nilV, i64 (.o a)] (Try.f30.body.getD .skip)] (mkM 1 []) := by
  refine run_vc EZ_ok 8000 (wz_vc a zT) ?_ (fun _ _ h => h) (fun _ _ h => h.elim)
  have e : bigZ (Env.P EZ) 61 = zT := zW_eq
  rw [e]
  simp only [zT_put, (zT_is (p := 0) (by omega)).1, Bool.false_eq_true, false_implies, true_implies, true_and, and_true]
  decide
theorem ways_con (Z : Array Value) (a : SI) (m : SMem) : Con E0 30 [nilV, i64 a] m (needs [Z = zT] (.ret (agg Z) m)) := by
  refine Con.ro E0_ok (q := [Z = zT]) (l' := [nilV, i64 (.o a.den)]) (ms := mkM 1 []) (A := aggR Z) fn30 body30 rfl (fun i => i) ?_ ?_ (fun hq => by rw [hq _ (List.mem_singleton.2 rfl)]; exact ways_nil a.den) (fun s m' R R' v h hv => ?_)
  · intro i b hb
    exact absurd hb (by unfold getB mkM; intro h; cases h)
  · intro R vs ha
    match vs, ha with
    | [x, y], ha => exact ha
  · unfold aggR at h
    split at h
    · rw [h] at hv; exact hv
    · exact h.elim
theorem conZ2_ok (Z : Array Value) (g : FuncId) (l : List SV) (m : SMem) (t : Tree) (h : conZ2 Z g l m = some t) : Con E0 g l m t := by
  unfold conZ2 at h
  split at h
  · cases h; exact ways_con _ _ _
  · exact conZ_ok _ _ _ _ h
theorem EZ2_ok (Z : Array Value) : EnvOk (EZ2 Z) := EnvOk.with E0_ok _ _ (conZ2_ok Z)
end Go.Proofs.Ytebkbihhnoellaa
/- Of flow: rows without instructions: the laws. -/
namespace Go.Proofs.Ytebkbihhnoellaa
set_option maxRecDepth 100000
theorem ge_vc (Z : Array Value) (a b : Int) : (run (EZ2 Z) 8000 1 [callFr 3 Try.f3.ntmps [e0V, i64 (.o a), i64 (.o b)] (Try.f3.body.getD .skip)] (mkM 1 [])).vc (boolR true) (fun _ _ => False) =
    (((decide (a < (0 : Int)) == false) = true → (decide (a ≥ (0 : Int)) = true → ((decide (a < (0 : Int)) == false) = true → (decide (a ≥ (0 : Int)) = true → (Z = zT ∧ True) ∧ (Array.size Z = (4225 : Nat) ∧ Array.size Z = (4225 : Nat) ∧ True) ∧ true = true) ∧ (decide (a ≥ (0 : Int)) = false → False)) ∧ ((decide (a < (0 : Int)) == false) = false → (Z = zT ∧ True) ∧ (Array.size Z = (4225 : Nat) ∧ Array.size Z = (4225 : Nat) ∧ True) ∧ true = true)) ∧ (decide (a ≥ (0 : Int)) = false → False)) ∧ ((decide (a < (0 : Int)) == false) = false → ((decide (a < (0 : Int)) == false) = true → (decide (a ≥ (0 : Int)) = true → (Z = zT ∧ True) ∧ (Array.size Z = (4225 : Nat) ∧ Array.size Z = (4225 : Nat) ∧ True) ∧ true = true) ∧ (decide (a ≥ (0 : Int)) = false → False)) ∧ ((decide (a < (0 : Int)) == false) = false → (Z = zT ∧ True) ∧ (Array.size Z = (4225 : Nat) ∧ Array.size Z = (4225 : Nat) ∧ True) ∧ true = true))) := by kernel_rfl
end Go.Proofs.Ytebkbihhnoellaa
/- Of flow: rows without instructions: FlowLoops. -/
namespace Go.Proofs.Ytebkbihhnoellaa
set_option maxRecDepth 100000
theorem le_vc (Z : Array Value) : (run (EZ2 Z) 8000 1 [callFr 4 Try.f4.ntmps [e0V] (Try.f4.body.getD .skip)] (mkM 1 [])).vc (boolR true) (fun _ _ => False) =
    ((Z = zT ∧ True) ∧ (Array.size Z = (4225 : Nat) ∧ Array.size Z = (4225 : Nat) ∧ True) ∧ (IsBool Z ((0 : Nat) + 0 * (65 : Nat) + 0 * (1 : Nat)) ∧ True) ∧ ((!((0 : Int) == (1 : Int)) == boolAt Z ((0 : Nat) + 0 * (65 : Nat) + 0 * (1 : Nat))) = true → false = true) ∧ ((!((0 : Int) == (1 : Int)) == boolAt Z ((0 : Nat) + 0 * (65 : Nat) + 0 * (1 : Nat))) = false → (Z = zT ∧ True) ∧ (Array.size Z = (4225 : Nat) ∧ Array.size Z = (4225 : Nat) ∧ True) ∧ (IsBool Z ((0 : Nat) + 0 * (65 : Nat) + 0 * (1 : Nat)) ∧ True) ∧ (boolAt Z ((0 : Nat) + 0 * (65 : Nat) + 0 * (1 : Nat)) = true → false = true) ∧ (boolAt Z ((0 : Nat) + 0 * (65 : Nat) + 0 * (1 : Nat)) = false → true = true))) := by kernel_rfl
end Go.Proofs.Ytebkbihhnoellaa
/- Of flow: rows without instructions: FlowTrims. -/
namespace Go.Proofs.Ytebkbihhnoellaa
set_option maxRecDepth 100000
theorem te_vc (Z : Array Value) (a b : Int) : (run (EZ2 Z) 8000 1 [callFr 5 Try.f5.ntmps [e0V, i64 (.o a), i64 (.o b)] (Try.f5.body.getD .skip)] (mkM 1 [])).vc (boolR true) (fun _ _ => False) =
    ((Z = zT ∧ True) ∧ (Array.size Z = (4225 : Nat) ∧ Array.size Z = (4225 : Nat) ∧ True) ∧ ((decide (a < (0 : Int)) == false) = true → ((decide (a > (0 : Int)) == false) = true → ((decide (b < (0 : Int)) == false) = true → ((decide (b > (0 : Int)) == false) = true → (((0 : Int) ≤ a ∧ a < (1 : Int)) ∧ True) ∧ False) ∧ ((decide (b > (0 : Int)) == false) = false → (Z = zT ∧ True) ∧ (Array.size Z = (4225 : Nat) ∧ Array.size Z = (4225 : Nat) ∧ True) ∧ ((decide (a < (0 : Int)) == false) = true → ((decide (b < (0 : Int)) == false) = true → ((decide (a > (0 : Int)) == false) = true → ((decide (b > (0 : Int)) == false) = true → (((0 : Int) ≤ a ∧ a < (1 : Int)) ∧ True) ∧ False) ∧ ((decide (b > (0 : Int)) == false) = false → true = true)) ∧ ((decide (a > (0 : Int)) == false) = false → true = true)) ∧ ((decide (b < (0 : Int)) == false) = false → true = true)) ∧ ((decide (a < (0 : Int)) == false) = false → true = true))) ∧ ((decide (b < (0 : Int)) == false) = false → (Z = zT ∧ True) ∧ (Array.size Z = (4225 : Nat) ∧ Array.size Z = (4225 : Nat) ∧ True) ∧ ((decide (a < (0 : Int)) == false) = true → ((decide (b < (0 : Int)) == false) = true → ((decide (a > (0 : Int)) == false) = true → ((decide (b > (0 : Int)) == false) = true → (((0 : Int) ≤ a ∧ a < (1 : Int)) ∧ True) ∧ False) ∧ ((decide (b > (0 : Int)) == false) = false → true = true)) ∧ ((decide (a > (0 : Int)) == false) = false → true = true)) ∧ ((decide (b < (0 : Int)) == false) = false → true = true)) ∧ ((decide (a < (0 : Int)) == false) = false → true = true))) ∧ ((decide (a > (0 : Int)) == false) = false → (Z = zT ∧ True) ∧ (Array.size Z = (4225 : Nat) ∧ Array.size Z = (4225 : Nat) ∧ True) ∧ ((decide (a < (0 : Int)) == false) = true → ((decide (b < (0 : Int)) == false) = true → ((decide (a > (0 : Int)) == false) = true → ((decide (b > (0 : Int)) == false) = true → (((0 : Int) ≤ a ∧ a < (1 : Int)) ∧ True) ∧ False) ∧ ((decide (b > (0 : Int)) == false) = false → true = true)) ∧ ((decide (a > (0 : Int)) == false) = false → true = true)) ∧ ((decide (b < (0 : Int)) == false) = false → true = true)) ∧ ((decide (a < (0 : Int)) == false) = false → true = true))) ∧ ((decide (a < (0 : Int)) == false) = false → (Z = zT ∧ True) ∧ (Array.size Z = (4225 : Nat) ∧ Array.size Z = (4225 : Nat) ∧ True) ∧ ((decide (a < (0 : Int)) == false) = true → ((decide (b < (0 : Int)) == false) = true → ((decide (a > (0 : Int)) == false) = true → ((decide (b > (0 : Int)) == false) = true → (((0 : Int) ≤ a ∧ a < (1 : Int)) ∧ True) ∧ False) ∧ ((decide (b > (0 : Int)) == false) = false → true = true)) ∧ ((decide (a > (0 : Int)) == false) = false → true = true)) ∧ ((decide (b < (0 : Int)) == false) = false → true = true)) ∧ ((decide (a < (0 : Int)) == false) = false → true = true))) := by kernel_rfl
theorem tz_vc (Z : Array Value) : (run (EZ2 Z) 8000 1 [callFr 5 Try.f5.ntmps [e0V, i64 (.l 0), i64 (.l 0)] (Try.f5.body.getD .skip)] (mkM 1 [])).vc (boolR true) (fun _ _ => False) =
    ((Z = zT ∧ True) ∧ (Array.size Z = (4225 : Nat) ∧ Array.size Z = (4225 : Nat) ∧ True) ∧ (Z = zT ∧ True) ∧ (Array.size Z = (4225 : Nat) ∧ Array.size Z = (4225 : Nat) ∧ True) ∧ true = true) := by kernel_rfl
end Go.Proofs.Ytebkbihhnoellaa
/- Of flow: laws of rows without instructions. No condition. -/
namespace Go.Proofs.Ytebkbihhnoellaa
set_option maxRecDepth 100000
theorem zT_size : zT.size = 4225 := tbM_size _
theorem goes_none (a b : Int) : Good Try.prog (boolR true) 1 [callFr 3 Try.f3.ntmps [e0V, i64 (.o a), i64 (.o b)] (Try.f3.body.getD .skip)] (mkM 1 []) := by
  refine run_vc (EZ2_ok zT) 8000 (ge_vc zT a b) ?_ (fun _ _ h => h) (fun _ _ h => h.elim)
  have e : (decide (a < (0 : Int)) == false) = true → decide (a ≥ (0 : Int)) = false → False := fun h1 h2 => by
    have h1 := of_decide_eq_false (eq_of_beq h1); have h2 := of_decide_eq_false h2; omega
  refine ⟨fun h1 => ⟨fun _ => ⟨fun _ => ⟨fun _ => ⟨⟨rfl, trivial⟩, ⟨zT_size, zT_size, trivial⟩, rfl⟩, fun h => e h1 h⟩, fun _ => ⟨⟨rfl, trivial⟩, ⟨zT_size, zT_size, trivial⟩, rfl⟩⟩, fun h => e h1 h⟩, fun _ => ⟨fun h1 => ⟨fun _ => ⟨⟨rfl, trivial⟩, ⟨zT_size, zT_size, trivial⟩, rfl⟩, fun h => e h1 h⟩, fun _ => ⟨⟨rfl, trivial⟩, ⟨zT_size, zT_size, trivial⟩, rfl⟩⟩⟩
theorem loops_none : Good Try.prog (boolR true) 1 [callFr 4 Try.f4.ntmps [e0V] (Try.f4.body.getD .skip)] (mkM 1 []) := by
  refine run_vc (EZ2_ok zT) 8000 (le_vc zT) ?_ (fun _ _ h => h) (fun _ _ h => h.elim)
  have hz := zT_is (p := 0) (by omega)
  refine ⟨⟨rfl, trivial⟩, ⟨zT_size, zT_size, trivial⟩, ⟨by simpa using hz.1, trivial⟩, fun h => ?_, fun _ => ⟨⟨rfl, trivial⟩, ⟨zT_size, zT_size, trivial⟩, ⟨by simpa using hz.1, trivial⟩, fun h => ?_, fun _ => rfl⟩⟩
  · simp [hz.2] at h
  · simp [hz.2] at h
end Go.Proofs.Ytebkbihhnoellaa
/- Of flow: FlowGoes of a row that is not empty: its run. No condition. -/
namespace Go.Proofs.Ytebkbihhnoellaa
set_option linter.unusedSectionVars false
set_option maxRecDepth 100000
noncomputable def goC (off num : Nat) (a b : Int) : List SFr := [callFr 3 Try.f3.ntmps [prS off num, i64 (.o a), i64 (.o b)] (Try.f3.body.getD .skip)]
theorem one_ok {off num : Nat} {cs : Array Value} {a : Int} {ts : Array Value} {x : Nat} {v : Int} (hv : v = x) (h0 : ts[0]? = some (.int .i64 v)) (hx : x ≤ num) (h : ∀ i : Nat, edB (ofRow cs off num) 0 num a i = true ↔ i = x) :
    ∃ l : Nat → Nat, (1 : Nat) ≤ 2 ∧ (∀ j, j < 1 → IsInt .i64 ts (0 + j * 1) ∧ intAt ts (0 + j * 1) = (l j : Int)) ∧ (∀ j, j < 1 → l j ≤ num) ∧ (∀ j j', j < j' → j' < 1 → l j < l j') ∧ ∀ i : Nat, edB (ofRow cs off num) 0 num a i = true ↔ ∃ j, j < 1 ∧ l j = i := by
  subst hv
  refine ⟨fun _ => x, by omega, fun j hj => ?_, fun _ _ => hx, fun j j' _ _ => by omega, fun i => (h i).trans ⟨fun e => ⟨0, by omega, e.symm⟩, fun ⟨_, _, e⟩ => e.symm⟩⟩
  obtain rfl : j = 0 := by omega
  exact ⟨isI_of h0, intAt_of h0⟩
theorem two_ok {off num : Nat} {cs : Array Value} {a : Int} {ts : Array Value} {x y : Nat} {v w : Int} (hv : v = x) (hw : w = y) (h0 : ts[0]? = some (.int .i64 v)) (h1 : ts[1]? = some (.int .i64 w)) (hxy : x < y) (hy : y ≤ num) (h : ∀ i : Nat, edB (ofRow cs off num) 0 num a i = true ↔ i = x ∨ i = y) :
    ∃ l : Nat → Nat, (2 : Nat) ≤ 2 ∧ (∀ j, j < 2 → IsInt .i64 ts (0 + j * 1) ∧ intAt ts (0 + j * 1) = (l j : Int)) ∧ (∀ j, j < 2 → l j ≤ num) ∧ (∀ j j', j < j' → j' < 2 → l j < l j') ∧ ∀ i : Nat, edB (ofRow cs off num) 0 num a i = true ↔ ∃ j, j < 2 ∧ l j = i := by
  subst hv hw
  refine ⟨fun j => if j = 0 then x else y, by omega, fun j hj => ?_, fun j _ => ?_, fun j j' _ _ => ?_, fun i => (h i).trans ⟨fun e => ?_, fun ⟨j, hj, e⟩ => ?_⟩⟩
  · match j, hj with
    | 0, _ => exact ⟨isI_of h0, intAt_of h0⟩
    | 1, _ => exact ⟨isI_of h1, intAt_of h1⟩
  · dsimp only; split <;> omega
  · dsimp only; rw [if_pos (by omega), if_neg (by omega)]; exact hxy
  · rcases e with e | e
    · exact ⟨0, by omega, e.symm⟩
    · exact ⟨1, by omega, e.symm⟩
  · dsimp only at e; split at e <;> omega
theorem goes_good (off num : Nat) (cs : Array Value) (ty : TypeId) (a b : Int) (hI : InsOk cs off num) (h0 : num ≠ 0) : Good Try.prog (boolR true) 1 (goC off num a b) (rawM cs ty) := by
  obtain ⟨hR, _⟩ := of_row hI
  have hmo := may_of hI
  refine run_vc EGo_ok 8000 (sH_vc off num cs ty a b
    (fun k' i' n' t' rs' ts' => num ≤ 200 ∧ mayV cs off num = true ∧ k' = (0 : Nat) ∧ i' = (0 : Nat) ∧ num = n' ∧ rs' = ofRow cs off num ∧ ∃ l : Nat → Nat, t' ≤ 2 ∧ (∀ j, j < t' → IsInt .i64 ts' (0 + j * 1) ∧ intAt ts' (0 + j * 1) = (l j : Int)) ∧ (∀ j, j < t' → l j ≤ num) ∧ (∀ j j', j < j' → j' < t' → l j < l j') ∧ ∀ i : Nat, edB (ofRow cs off num) 0 num a i = true ↔ ∃ j, j < t' ∧ l j = i)
    (fun k' i' n' rs' => mayV cs off num = true ∧ k' = (0 : Nat) ∧ i' = (0 : Nat) ∧ num = n' ∧ rs' = ofRow cs off num ∧ ∀ i : Nat, edB (ofRow cs off num) 0 num a i = false)) ?_ (fun _ _ h => h)
    (fun fs m hb => sH_go (fun k' i' n' t' rs' ts' h => ?_) (fun k' i' n' rs' h => ?_) hb)
  · have e200 : decide ((num : Int) > 200) = true ∨ decide ((num : Int) > 200) = false := by cases decide ((num : Int) > 200) <;> simp
    rcases e200 with e2 | e2
    · simp only [e2, Bool.true_eq_false, Bool.false_eq_true, false_implies, true_implies, true_and, and_true]
    have h200 : num ≤ 200 := by have := of_decide_eq_false e2; omega
    cases hM : mayV cs off num with
    | false =>
      rw [hM] at hmo
      simp only [e2, hI, h0, h200, hR, hmo, hM, Bool.not_true, Bool.not_false, Bool.true_eq_false, Bool.false_eq_true, false_implies, true_implies, true_and, and_true, ne_eq, not_false_eq_true]
    | true =>
      rw [hM] at hmo
      simp only [e2, hI, h0, h200, hR, hmo, Bool.not_true, Bool.not_false, Bool.true_eq_false, Bool.false_eq_true, false_implies, true_implies, true_and, and_true, ne_eq, not_false_eq_true, hN_d0_ok]
      obtain ⟨n64, hA⟩ := mayV_iff.1 hM
      by_cases a0 : 0 ≤ a ∧ a < (num : Int)
      rotate_left
      · have hz := ed_out (cs := ofRow cs off num) (off := 0) a0
        refine ⟨fun c => ⟨fun c2 => ?_, fun c2 => ?_⟩, fun c => ?_⟩
        · exact ⟨rfl, rfl, fun i => hz i⟩
        · have c := eq_of_beq c
          have c1 := of_decide_eq_false c; have c2 := of_decide_eq_false c2
          exact (a0 (by omega)).elim
        · exact ⟨rfl, rfl, fun i => hz i⟩
      obtain ⟨a00, a1⟩ := a0
      obtain ⟨i, rfl⟩ := Int.eq_ofNat_of_zero_le a00
      have hi : i < num := by omega
      have e0 : decide ((i : Int) < 0) = false := decide_eq_false (by omega)
      have e3 : decide ((i : Int) ≥ (num : Int)) = false := decide_eq_false (by omega)
      obtain ⟨⟨i1, i2, i3, i4, i5⟩, r1, r2, r3, r4, r5⟩ := hI.2 i hi
      obtain ⟨_, _, _, _, k5⟩ := Ins.okN_iff.1 (hA i hi)
      have et := toL_eq (cs := cs) (off := off) (show ¬ num ≤ i by omega)
      have hed := ed_to hI i
      simp only [ins] at r1 r5 k5
      have eA : ari BinOp.add IntKind.i64 (i : Int) 1 = ((i + 1 : Nat) : Int) := by rw [ari_add, i64_nat (by omega)]
      have eN : IntKind.i64.wrap (intAt cs (off + i * 5 + 4)) = ((intAt cs (off + i * 5 + 4)).toNat : Int) := by rw [Go.IntWalk.i64_in _ (by omega)]; omega
      simp only [e0, e3, i1, i5, a00, a1, beqT, beqF, Int.toNat_natCast, Bool.not_true, Bool.not_false, Bool.true_eq_false, Bool.false_eq_true, false_implies, true_implies, true_and, and_true]
      rw [eA, eN]
      simp only [et] at hed
      generalize hnn : (intAt cs (off + i * 5 + 4)).toNat = nn at hed ⊢
      generalize ho : intAt cs (off + i * 5) = o at hed r1 k5 ⊢
      by_cases o0 : o = 0
      · have f0 : (o == 0) = true := by rw [o0]; rfl
        simp only [if_pos o0, List.not_mem_nil, iff_false] at hed
        simp only [f0, Bool.true_eq_false, false_implies, true_implies, and_true]
        exact ⟨rfl, rfl, fun j => by simpa using hed j⟩
      have f0 : (o == 0) = false := by rw [beq_eq_false_iff_ne]; exact o0
      simp only [if_neg o0] at hed
      by_cases o5 : o = 5
      · have f5 : (o == 5) = true := by rw [o5]; rfl
        simp only [if_pos o5, List.mem_singleton] at hed
        simp only [f0, f5, Bool.true_eq_false, Bool.false_eq_true, false_implies, true_implies, true_and, and_true]
        exact ⟨rfl, rfl, one_ok rfl rfl (by omega) hed⟩
      have f5 : (o == 5) = false := by rw [beq_eq_false_iff_ne]; exact o5
      simp only [if_neg o5] at hed
      by_cases o6 : o = 6
      · have f6 : (o == 6) = true := by rw [o6]; rfl
        simp only [if_pos o6] at hed
        simp only [f0, f5, f6, Bool.true_eq_false, Bool.false_eq_true, false_implies, true_implies, true_and, and_true]
        by_cases hc : nn = i + 1
        · subst hc
          simp only [if_pos, List.mem_singleton] at hed
          have g1 : ¬ (((i + 1 : Nat) : Int) > ((i + 1 : Nat) : Int)) := by omega
          have g2 : ¬ (((i + 1 : Nat) : Int) < ((i + 1 : Nat) : Int)) := by omega
          simp only [if_neg g1, if_neg g2, beq_self_eq_true, Bool.true_eq_false, false_implies, true_implies, and_true]
          exact ⟨rfl, rfl, one_ok rfl rfl (by omega) hed⟩
        · simp only [if_neg hc, List.mem_cons, List.not_mem_nil, or_false] at hed
          by_cases hlt : nn < i + 1
          · have g1 : ((i + 1 : Nat) : Int) > (nn : Int) := by omega
            have g2 : ¬ (((i + 1 : Nat) : Int) < (nn : Int)) := by omega
            have g3 : ((((i + 1 : Nat) : Int)) == (nn : Int)) = false := by rw [beq_eq_false_iff_ne]; omega
            simp only [if_pos g1, if_neg g2, g3, Bool.true_eq_false, Bool.false_eq_true, false_implies, true_implies, true_and, and_true]
            exact ⟨rfl, rfl, two_ok rfl rfl rfl rfl hlt (by omega) (fun j => (hed j).trans (by omega))⟩
          · have g1 : ¬ (((i + 1 : Nat) : Int) > (nn : Int)) := by omega
            have g2 : (((i + 1 : Nat) : Int) < (nn : Int)) := by omega
            have g3 : ((nn : Int) == (((i + 1 : Nat) : Int))) = false := by rw [beq_eq_false_iff_ne]; omega
            simp only [if_neg g1, if_pos g2, g3, Bool.true_eq_false, Bool.false_eq_true, false_implies, true_implies, true_and, and_true]
            exact ⟨rfl, rfl, two_ok rfl rfl rfl rfl (show i + 1 < nn by omega) (by omega) (fun j => (hed j).trans (by omega))⟩
      have f6 : (o == 6) = false := by rw [beq_eq_false_iff_ne]; exact o6
      simp only [if_neg o6, List.mem_singleton] at hed
      simp only [f0, f5, f6, Bool.true_eq_false, Bool.false_eq_true, false_implies, true_implies, true_and, and_true]
      exact ⟨rfl, rfl, one_ok rfl rfl (by omega) hed⟩
  · obtain ⟨_, hM, rfl, rfl, e, rfl, l, h1, h2, h3, h4, h5⟩ := h
    subst e
    exact hR_round off _ cs ty a hI hM h1 h2 h3 h4 h5 (num + 2) 0 0 (by omega) (by omega) (by omega) (fun j _ => by omega)
  · obtain ⟨hM, rfl, rfl, e, rfl, h⟩ := h
    subst e
    exact hN_round off _ cs ty a hI hM h (num + 2) 0 (by omega) (by omega)
end Go.Proofs.Ytebkbihhnoellaa
/- How a call of data enters the symbolic machine, and how what it leaves is told; without package-level variables. No condition. -/
namespace Go.Proofs.Ytebkbihhnoellaa
noncomputable section
open Go.ChangeShapes Go.WideShapes Go.ChangeAt Go.RowKit Go.Deep

theorem own : ownKnob Try.prog.godebug = none := by kernel_rfl
theorem laidOut : laidOutB Try.prog = true := by kernel_rfl
theorem sub_get {l : List Value} {a b o : Nat} {v : Value} (h : ((l.drop a).take b)[o]? = some v) : l[a + o]? = some v := by
  rw [List.getElem?_take] at h
  split at h
  · rw [List.getElem?_drop] at h; exact h
  · cases h
theorem sub_one {l : List Value} {a b : Nat} {v : Value} (h : (l.drop a).take b = [v]) : l[a]? = some v := by
  have : ((l.drop a).take b)[0]? = some v := by rw [h]; rfl
  exact sub_get this
section
variable {H : Type} {enc : TypeId × Value → H} {P : Program} {w : World} {base : Nat} {spare : Nat → Bool} {held : Bool}
theorem field_of {t : TypeId} {fs : Array Field} {fuel : Nat} {cs : List Value} {x : DataW H × List MemPlace} (ht : P.underlying t = some (.struct fs)) (h : DataW.trod enc P w base spare held fuel t cs = some x)
    (i : Nat) {f : Field} (hf : fs[i]? = some f) : ∃ n y, DataW.trod enc P w base spare held n f.type ((cs.drop f.offset).take (P.cellsOf f.type)) = some y := by
  obtain ⟨ys, n, _, _, _, hyl, hg⟩ := DataW.trod_struct ht h
  have hlt : i < fs.size := (Array.getElem?_eq_some_iff.1 hf).1
  have hys : ys[i]? = some (ys[i]'(by omega)) := List.getElem?_eq_getElem (by omega)
  exact ⟨n, _, (hg i f hf).trans hys⟩
theorem add_none (b off n : Nat) : (⟨b, off, none⟩ : Addr).add n = ⟨b, off + n, none⟩ := by
  unfold Addr.add
  split
  · rename_i e; subst e; rfl
  · rfl
/-- A slice that came in: where it lies, and each element as it reads. -/
theorem slice_cells {t e : TypeId} {base' C : Nat} {fuel : Nat} {A : Option Addr} {len cap : Nat} {x : DataW H × List MemPlace} (ht : P.underlying t = some (.slice e)) (hC : P.cellsOf e = C)
    (hok : Value.okWide P w .any base t (.slice A len cap)) (h : DataW.trod enc P w base' (fun _ => true) held fuel t [.slice A len cap] = some x) :
    (A = none ∧ len = 0 ∧ cap = 0) ∨ ∃ b off cs ty fz, A = some ⟨b, off, none⟩ ∧ len ≤ cap ∧ cap ≤ maxLen ∧ w.heap[b]? = some (.cells cs ty fz) ∧
      ∀ j, j < len → ∃ n y, DataW.trod enc P w base' (fun _ => true) held n e ((cs.toList.drop (off + j * C)).take C) = some y := by
  rcases open_slice ht h with ⟨hcs, hx⟩ | ⟨a, len', cap', m, n, D, Pl, hcs, _, hl, hmx, hm, hx, hi⟩
  · simp at hcs
    exact .inl hcs
  · simp at hcs
    obtain ⟨rfl, rfl, rfl⟩ := hcs
    simp at hm
    subst hm
    obtain ⟨b, off, spot⟩ := a
    simp only [Value.okWide, ht, Cell.okWide, Cell.ok] at hok
    obtain ⟨_, _, _, hs, _, _, hsh, _⟩ := hok
    have hs : spot = none := hs
    subst hs
    cases ho : w.heap[b]? with
    | none => simp [World.shape?, ho] at hsh
    | some o =>
      have hcells : ∃ cs ty fz, o = .cells cs ty fz := by
        cases o <;> first | exact ⟨_, _, _, rfl⟩ | simp [World.shape?, ho] at hsh
      obtain ⟨cs, ty, fz, rfl⟩ := hcells
      refine .inr ⟨b, off, cs, ty, fz, rfl, hl, hmx, ho, fun j hj => ?_⟩
      obtain ⟨cs', hc, ht'⟩ := hi j (by omega)
      rw [hC] at hc
      obtain ⟨_, hcl, hat⟩ := World.cells?_some hc
      refine ⟨n, (D j, Pl j), ?_⟩
      rw [← ht']
      congr 1
      apply List.ext_getElem?
      intro i
      rw [List.getElem?_take]
      by_cases hi' : i < C
      · rw [if_pos hi', ← hat i hi', add_none, add_none]
        simp [World.cell?, ho, Nat.add_assoc]
      · rw [if_neg hi', List.getElem?_eq_none (by omega)]
theorem post_of_below {f : Func} {s : ChangeSpec} {apart fresh handsOn again : Bool} {W W' : World} {args : Array Value} {v : Value} {ds gs : List (DataW H)} {before pa pv : List MemPlace}
    (hW : DataW.Whole enc P f.params.toList s.vars apart W args.toList ds gs before)
    (hres : ∀ (b : Nat) (sp : Nat → Bool) (hd : Bool), DataW.TrodAll enc P W' b sp hd f.resultTypes.toList (v.resultList f.resultTypes.size) (s.fn H (ds ++ gs)).results [])
    (hargs : ∀ sp : Nat → Bool, (∀ p ∈ before, sp p.block = true) → DataW.TrodAll enc P W' 0 sp true f.params.toList args.toList (s.fn H (ds ++ gs)).args pa)
    (hvars : ∀ sp : Nat → Bool, (∀ p ∈ before, sp p.block = true) → DataW.TrodVars enc P W' sp s.vars (s.fn H (ds ++ gs)).vars pv)
    (hps : before = pa ++ pv) (hb : Below W.heap.size W W')
    (hok : ∀ (j : Nat) (t : TypeId) (r : Value), f.resultTypes[j]? = some t → (v.resultList f.resultTypes.size)[j]? = some r → Value.okWide P W' .any 0 t r) :
    s.post enc P f apart fresh handsOn again W args v W' := by
  have hlt : ∀ p ∈ before, p.block < W.heap.size := fun p hp => hW.lt p hp
  have hold : ∀ p ∈ before, (fun b => decide (b < W.heap.size)) p.block = true := fun p hp => by simpa using hlt p hp
  refine ⟨ds, gs, before, [], pa, pv, hW, hres _ _ _, hargs _ hold, hvars _ hold, World.keptBut_mono (fun p hp => ⟨hp, ?_⟩) (hb.frame (· ∈ before)), fun _ => ?_⟩
  · rw [hps, List.mem_append] at hp
    exact Or.inr hp
  · obtain ⟨_, _, _, _, _, hz, hn⟩ := hW
    refine ⟨hok, _, _, ([] ++ pa) ++ pv, ⟨[] ++ pa, pv, trodAll_append (hargs _ (fun _ _ => rfl)) (hres _ _ _), hvars _ (fun _ _ => rfl), rfl, ?_, ?_⟩, ?_⟩
    · intro b off hp
      have hin : MemPlace.cell b off ∈ before := by rw [hps]; simpa using hp
      rw [hb.frozen (hlt _ hin)]
      exact hz b off hin
    · intro ha
      have := hn ha
      rw [hps] at this
      simpa using this
    · intro p hp _
      rw [hps]
      simpa using hp
end
theorem below_of {n0 : Nat} {w0 w : World} (h : BelowF n0 (fun _ => False) w0 w) : Below n0 w0 w := ⟨h.os, h.tape, h.output, h.size, fun k hk => h.block k hk fun x => x⟩
theorem rel_empty (hg : glTab = []) (W : World) (n : Nat) : Rel W.heap.size (fun _ => False) W (fun _ => none) ⟨n, .nil, []⟩ W :=
  ⟨fun _ _ _ _ _ _ h => by (cases h), fun _ _ h => by (cases h), fun _ _ h => by (cases h), fun i b h => by (have h : (Tr.nil : Tr SBlk).get i = some b := h; rw [Tr.get_nil] at h; cases h), Nat.le_refl _, BelowF.refl _ _ _,
    fun _ _ h => by (cases h), fun _ _ _ _ _ _ h => by (cases h), fun g cs h => by rw [hg] at h; cases h⟩
/-- One block came in, at which nothing is written. -/
def oneD (ds : Array Value) (ty : TypeId) : SMem := ⟨1, Tr.node .nil (some ⟨.raw ds, ty, false⟩) .nil, []⟩
theorem one_get {ds : Array Value} {ty : TypeId} {i : Nat} {b : SBlk} (h : getB (oneD ds ty).bl i = some b) : i = 0 ∧ b = ⟨.raw ds, ty, false⟩ := by
  unfold getB oneD at h
  cases i with
  | zero => cases h; exact ⟨rfl, rfl⟩
  | succ i =>
    rw [Tr.get_succ, Tr.get_nil, ite_self] at h
    cases h
theorem rel_one (hg : glTab = []) {W : World} {b : Nat} {cs : Array Value} {ty : TypeId} {fz : Nat × Nat} (hb : W.heap[b]? = some (.cells cs ty fz)) :
    Rel W.heap.size (fun _ => False) W (fun i => if i = 0 then some ⟨b, cs.size⟩ else none) (oneD cs ty) W := by
  have key : ∀ {i : Nat} {g : Loc}, (if i = 0 then some (⟨b, cs.size⟩ : Loc) else none) = some g → i = 0 ∧ g = ⟨b, cs.size⟩ := by
    intro i g h
    split at h
    · rename_i e; cases h; exact ⟨e, rfl⟩
    · cases h
  have hlt : b < W.heap.size := (Array.getElem?_eq_some_iff.1 hb).1
  refine ⟨fun i j g h b c h1 h2 _ _ _ _ => by rw [(key h1).1, (key h2).1], fun i g h => by rw [(key h).2]; exact hlt, fun i g h => by rw [(key h).1]; exact Nat.zero_lt_one, fun i c hc => ?_, Nat.le_refl _, BelowF.refl _ _ _,
    fun _ _ h => by (cases h), fun _ _ _ _ _ _ _ _ _ h => by (cases h), fun g cs h => by rw [hg] at h; cases h⟩
  obtain ⟨rfl, rfl⟩ := one_get hc
  exact ⟨⟨b, cs.size⟩, cs, fz, rfl, hb, rfl, rfl, fun h => by cases h⟩
end
end Go.Proofs.Ytebkbihhnoellaa
/- Of flow: rows of instructions that came in. No condition. -/
namespace Go.Proofs.Ytebkbihhnoellaa
set_option maxRecDepth 100000
open Go.ChangeShapes Go.WideShapes Go.ChangeAt Go.RowKit Go.Deep
theorem cells52 : Try.prog.cellsOf 52 = 5 := by kernel_rfl
theorem gl_nil : glTab = [] := rfl
theorem isInt_of {k : IntKind} {cs : Array Value} {i : Nat} {n : Int} (h : cs.toList[i]? = some (.int k n)) : IsInt k cs i ∧ intAt cs i = n := by
  rw [Array.getElem?_toList] at h
  exact ⟨isI_of h, intAt_of h⟩
theorem wf_u8 {n : Int} (h : (Lit.int .u8 n).wf = true) : 0 ≤ n ∧ n ≤ 255 := by
  simp only [Lit.wf, Bool.and_eq_true, decide_eq_true_eq] at h
  exact h
theorem wf_u16 {n : Int} (h : (Lit.int .u16 n).wf = true) : 0 ≤ n ∧ n ≤ 65535 := by
  simp only [Lit.wf, Bool.and_eq_true, decide_eq_true_eq] at h
  exact h
theorem ins_of {H : Type} {enc : TypeId × Value → H} {W : World} {base : Nat} {held : Bool} {n : Nat} {cs : Array Value} {off i : Nat} {y : DataW H × List MemPlace}
    (h : DataW.trod enc Try.prog W base (fun _ => true) held n 52 ((cs.toList.drop (off + i * 5)).take 5) = some y) : InsAt cs (off + i * 5) ∧ (ins cs off i).In := by
  obtain ⟨n0, y0, h0⟩ := field_of Try.underlying52 h 0 rfl
  obtain ⟨n1, y1, h1⟩ := field_of Try.underlying52 h 1 rfl
  obtain ⟨n2, y2, h2⟩ := field_of Try.underlying52 h 2 rfl
  obtain ⟨n3, y3, h3⟩ := field_of Try.underlying52 h 3 rfl
  obtain ⟨n4, y4, h4⟩ := field_of Try.underlying52 h 4 rfl
  obtain ⟨m0, e0, _, w0⟩ := DataW.trod_int Try.underlying5 h0
  obtain ⟨m1, e1, _, w1⟩ := DataW.trod_int Try.underlying5 h1
  obtain ⟨m2, e2, _, w2⟩ := DataW.trod_int Try.underlying5 h2
  obtain ⟨m3, e3, _, w3⟩ := DataW.trod_int Try.underlying5 h3
  obtain ⟨m4, e4, _, w4⟩ := DataW.trod_int Try.underlying50 h4
  obtain ⟨a0, b0⟩ := isInt_of (sub_get (sub_one e0))
  obtain ⟨a1, b1⟩ := isInt_of (sub_get (sub_one e1))
  obtain ⟨a2, b2⟩ := isInt_of (sub_get (sub_one e2))
  obtain ⟨a3, b3⟩ := isInt_of (sub_get (sub_one e3))
  obtain ⟨a4, b4⟩ := isInt_of (sub_get (sub_one e4))
  refine ⟨⟨a0, a1, a2, a3, a4⟩, ?_⟩
  have w0 := wf_u8 w0
  have w1 := wf_u8 w1
  have w2 := wf_u8 w2
  have w3 := wf_u8 w3
  have w4 := wf_u16 w4
  rw [← b0] at w0
  rw [← b1] at w1
  rw [← b2] at w2
  rw [← b3] at w3
  rw [← b4] at w4
  exact ⟨w0, w1, w2, w3, w4⟩
/-- A row of instructions that came in: empty, or so many cells of a block. -/
def InsIn (W : World) (v : Value) : Prop :=
  (∃ a c, v = .slice a 0 c) ∨ ∃ b off n cap cs ty fz, v = .slice (some ⟨b, off, none⟩) n cap ∧ n ≠ 0 ∧ n ≤ cap ∧ W.heap[b]? = some (.cells cs ty fz) ∧ (n ≤ 200 → InsOk cs off n)
theorem ins_in {H : Type} {enc : TypeId × Value → H} {W : World} {base base' : Nat} {fuel : Nat} {v : Value} {held : Bool} {x : DataW H × List MemPlace}
    (hok : Value.okWide Try.prog W .any base 22 v) (h : DataW.trod enc Try.prog W base' (fun _ => true) held fuel 22 [v] = some x) : InsIn W v := by
  obtain ⟨A, len, cap, rfl⟩ := okWide_slice Try.underlying22 hok
  rcases slice_cells Try.underlying22 cells52 hok h with ⟨rfl, rfl, rfl⟩ | ⟨b, off, cs, ty, fz, rfl, hl, _, ho, hj⟩
  · exact .inl ⟨_, _, rfl⟩
  · by_cases h0 : len = 0
    · subst h0; exact .inl ⟨_, _, rfl⟩
    · refine .inr ⟨b, off, len, cap, cs, ty, fz, rfl, h0, hl, ho, fun hn => ⟨by omega, fun i hi => ?_⟩⟩
      obtain ⟨n, y, hy⟩ := hj i hi
      exact ins_of hy
theorem boolR_true {R : Ren} {s : SV} {m : SMem} {v : Value} (h : boolR true s m) (hv : s.ok R v) : v = .bool true := by
  unfold boolR at h
  split at h
  · have hv : v = .bool _ := hv
    rw [hv, h]
  · exact h.elim
theorem calls_of {W : World} {g : FuncId} {fn : Func} {c : Code} {l : List SV} {args : Array Value} {m : SMem} {R : Ren} (h1 : Try.prog.funcs[g]? = some fn) (h2 : fn.body = some c) (hg : Good Try.prog (boolR true) m.next [callFr g fn.ntmps l c] m) (hl : All2 (SV.ok R) l args.toList) (hR : Rel W.heap.size (fun _ => False) W R m W) :
    Calls Try.prog g args W fun e w' => e = .returned (.bool true) ∧ Below W.heap.size W w' := by
  have h := answers_of_good h1 h2 hg hl hR
  unfold Answers at h
  refine h.mono ?_
  rintro e w' ⟨v, rfl, s', m', R', hr, _, hR', hv⟩
  exact ⟨by rw [boolR_true hr hv], below_of hR'.fr⟩
end Go.Proofs.Ytebkbihhnoellaa
/- Of flow: rows of instructions that came in, of bounded bulk. No condition. -/
namespace Go.Proofs.Ytebkbihhnoellaa
set_option maxRecDepth 100000
open Go.ChangeShapes Go.WideShapes Go.ChangeAt Go.RowKit Go.Deep
theorem bulk_one {H : Type} (d : DataW H) : 1 ≤ Rows.uptoBulk d := by
  cases d with
  | lit l => cases l <;> simp [Rows.uptoBulk]
  | nil => simp [Rows.uptoBulk]
  | ptr d => simp [Rows.uptoBulk]
  | slice elems spare => simp [Rows.uptoBulk]
  | agg parts => simp [Rows.uptoBulk]
  | iface t d => simp [Rows.uptoBulk]
  | map entries => simp [Rows.uptoBulk]
  | held h => simp [Rows.uptoBulk]
theorem bulk_length {H : Type} (l : List (DataW H)) : l.length ≤ Rows.uptoBulkAll l := by
  induction l with
  | nil => simp [Rows.uptoBulkAll]
  | cons x r ih => have := bulk_one x; simp only [Rows.uptoBulkAll, List.length_cons]; omega
theorem bulk_head {H : Type} {d : DataW H} {l : List (DataW H)} (h : Rows.uptoSmall H (d :: l) = true) : Rows.uptoBulk d ≤ 1048576 := by
  have h : Rows.uptoBulkAll (d :: l) ≤ 1048576 := of_decide_eq_true h
  simp only [Rows.uptoBulkAll] at h
  omega
/-- A row of instructions that came in: empty, or so many cells of a block, not too many. -/
def InsUp (W : World) (v : Value) : Prop :=
  (∃ a c, v = .slice a 0 c) ∨ ∃ b off n cap cs ty fz, v = .slice (some ⟨b, off, none⟩) n cap ∧ n ≠ 0 ∧ n ≤ 1048576 ∧ n ≤ cap ∧ W.heap[b]? = some (.cells cs ty fz) ∧ InsOk cs off n
theorem ins_up {H : Type} {enc : TypeId × Value → H} {W : World} {base base' : Nat} {fuel : Nat} {v : Value} {held : Bool} {d : DataW H} {p : List MemPlace}
    (hok : Value.okWide Try.prog W .any base 22 v) (h : DataW.trod enc Try.prog W base' (fun _ => true) held fuel 22 [v] = some (d, p)) (hb : Rows.uptoBulk d ≤ 1048576) : InsUp W v := by
  obtain ⟨A, len, cap, rfl⟩ := okWide_slice Try.underlying22 hok
  rcases slice_cells Try.underlying22 cells52 hok h with ⟨rfl, rfl, rfl⟩ | ⟨b, off, cs, ty, fz, rfl, hl, _, ho, hj⟩
  · exact .inl ⟨_, _, rfl⟩
  · by_cases h0 : len = 0
    · subst h0; exact .inl ⟨_, _, rfl⟩
    · have hlen : len ≤ 1048576 := by
        rcases open_slice Try.underlying22 h with ⟨hcs, _⟩ | ⟨a, len', cap', m, n, D, Pl, hcs, _, _, _, _, hx, _⟩
        · simp at hcs
        · simp at hcs
          obtain ⟨_, rfl, _⟩ := hcs
          have hd := congrArg Prod.fst hx
          simp only at hd
          rw [hd] at hb
          have := bulk_length ((List.range len).map D)
          simp only [Rows.uptoBulk, List.length_map, List.length_range] at hb this
          omega
      refine .inr ⟨b, off, len, cap, cs, ty, fz, rfl, h0, hlen, hl, ho, ⟨by omega, fun i hi => ?_⟩⟩
      obtain ⟨n, y, hy⟩ := hj i hi
      exact ins_of hy
end Go.Proofs.Ytebkbihhnoellaa
/- Of flow: Trim: what a row of chosen places is. No condition. -/
namespace Go.Proofs.Ytebkbihhnoellaa
set_option maxRecDepth 100000
/-- How many places there are, below one, of which it is said. -/
def cnt (f : Nat → Bool) : Nat → Nat
  | 0 => 0
  | i + 1 => cnt f i + (if f i = true then 1 else 0)
theorem cnt_yes {f : Nat → Bool} {i : Nat} (h : f i = true) : cnt f (i + 1) = cnt f i + 1 := by show _ + _ = _; rw [if_pos h]
theorem cnt_no {f : Nat → Bool} {i : Nat} (h : f i = false) : cnt f (i + 1) = cnt f i := by show _ + _ = _; rw [if_neg (by rw [h]; decide), Nat.add_zero]
theorem cnt_le (f : Nat → Bool) : ∀ i, cnt f i ≤ i
  | 0 => Nat.le_refl _
  | i + 1 => by have := cnt_le f i; show cnt f i + _ ≤ _; split <;> omega
theorem cnt_mono (f : Nat → Bool) {i j : Nat} (h : i ≤ j) : cnt f i ≤ cnt f j := by
  induction j with
  | zero => obtain rfl : i = 0 := by omega
            exact Nat.le_refl _
  | succ j ih =>
    by_cases e : i = j + 1
    · rw [e]; exact Nat.le_refl _
    · have := ih (by omega); show _ ≤ cnt f j + _; omega
theorem cnt_lt {f : Nat → Bool} {i j : Nat} (h : f i = true) (hj : i < j) : cnt f i < cnt f j := by
  have h1 := cnt_mono f (show i + 1 ≤ j from hj)
  rw [cnt_yes h] at h1; omega
theorem cnt_inj {f : Nat → Bool} {i j : Nat} (hi : f i = true) (hj : f j = true) (h : cnt f i = cnt f j) : i = j := by
  rcases Nat.lt_trichotomy i j with e | e | e
  · have := cnt_lt hi e; omega
  · exact e
  · have := cnt_lt hj e; omega
theorem cnt_sur {f : Nat → Bool} : ∀ {n k : Nat}, k < cnt f n → ∃ i, i < n ∧ f i = true ∧ cnt f i = k
  | 0, k, h => absurd h (Nat.not_lt_zero _)
  | n + 1, k, h => by
    by_cases e : k < cnt f n
    · obtain ⟨i, h1, h2, h3⟩ := cnt_sur e
      exact ⟨i, by omega, h2, h3⟩
    · cases hf : f n with
      | true => rw [cnt_yes hf] at h; exact ⟨n, by omega, hf, by omega⟩
      | false => rw [cnt_no hf] at h; omega
theorem cnt_congr {f g : Nat → Bool} : ∀ {n : Nat}, (∀ i, i < n → f i = g i) → cnt f n = cnt g n
  | 0, _ => rfl
  | n + 1, h => by show cnt f n + _ = cnt g n + _; rw [cnt_congr (fun i hi => h i (by omega)), h n (by omega)]
/-- The chosen places' values, one behind the other. -/
def grow (f : Nat → Bool) (g : Nat → List Value) : Nat → List Value
  | 0 => []
  | i + 1 => if f i = true then grow f g i ++ g i else grow f g i
theorem grow_yes {f : Nat → Bool} {g : Nat → List Value} {i : Nat} (h : f i = true) : grow f g (i + 1) = grow f g i ++ g i := if_pos h
theorem grow_no {f : Nat → Bool} {g : Nat → List Value} {i : Nat} (h : f i = false) : grow f g (i + 1) = grow f g i := if_neg (by rw [h]; decide)
theorem grow_len {f : Nat → Bool} {g : Nat → List Value} (hg : ∀ i, (g i).length = 5) : ∀ n, (grow f g n).length = cnt f n * 5
  | 0 => rfl
  | n + 1 => by
    cases h : f n with
    | true => rw [grow_yes h, cnt_yes h, List.length_append, grow_len hg n, hg]; omega
    | false => rw [grow_no h, cnt_no h, grow_len hg n]
theorem grow_at {f : Nat → Bool} {g : Nat → List Value} (hg : ∀ i, (g i).length = 5) {i t : Nat} (hf : f i = true) (ht : t < 5) : ∀ {n : Nat}, i < n → (grow f g n)[cnt f i * 5 + t]? = (g i)[t]?
  | 0, h => absurd h (Nat.not_lt_zero _)
  | n + 1, h => by
    have hl := grow_len (f := f) hg n
    cases hn : f n with
    | true =>
      rw [grow_yes hn]
      by_cases e : i = n
      · subst e
        rw [List.getElem?_append_right (by omega), hl]
        congr 1; omega
      · have := cnt_lt hf (show i < n by omega)
        rw [List.getElem?_append_left (by omega)]
        exact grow_at hg hf ht (by omega)
    | false =>
      rw [grow_no hn]
      have e : i ≠ n := fun e => by rw [e, hn] at hf; cases hf
      exact grow_at hg hf ht (by omega)
/-- A row that says so is that one. -/
theorem grow_ext {f : Nat → Bool} {g : Nat → List Value} (hg : ∀ i, (g i).length = 5) {n : Nat} {ts : Array Value} (hs : ts.size = cnt f n * 5) (h : ∀ i, i < n → f i = true → ∀ t, t < 5 → ts[cnt f i * 5 + t]? = (g i)[t]?) : ts = (grow f g n).toArray := by
  have hl := grow_len (f := f) hg n
  apply Array.ext
  · rw [hs, List.size_toArray, hl]
  intro p h1 h2
  obtain ⟨i, hi, hf, hc⟩ := cnt_sur (f := f) (n := n) (k := p / 5) (by omega)
  have e : cnt f i * 5 + p % 5 = p := by omega
  have a := h i hi hf (p % 5) (by omega)
  have b := grow_at hg hf (show p % 5 < 5 by omega) hi
  rw [e] at a b
  have : ts[p]? = ((grow f g n).toArray)[p]? := by rw [a, List.getElem?_toArray, b]
  rw [Array.getElem?_eq_getElem h1, Array.getElem?_eq_getElem h2] at this
  exact Option.some.inj this
end Go.Proofs.Ytebkbihhnoellaa
/- Of flow: Trim and the reference's: their states. No condition. -/
namespace Go.Proofs.Ytebkbihhnoellaa
set_option linter.unusedVariables false
noncomputable def tsS (i k : Nat) : SV := .s (.c (.f (.slice i (.l 0) (.o k) (.full 5))))
noncomputable def trE (ok : Bool) (k : Nat) (rs : Array Value) (s : SV) (m : SMem) : Prop := match s with
  | .tup [.c (.f (.slice sid _ _ _)), .c (.f (.int .i64 _))] => retOk 1 [(1, sid)] (.tup [.c (.f (.slice 1 (.l 0) (.o k) .any)), .c (.f (.int .i64 (.l 0)))]) ⟨2, Tr.nil.set 1 (some ⟨.pop rs, 52, true⟩), []⟩ s m
  | _ => False
noncomputable def reE (k : Nat) (rs : Array Value) (s : SV) (m : SMem) : Prop := match s with
  | .s (.c (.f (.slice sid _ _ _))) => retOk 1 [(1, sid)] (.s (.c (.f (.slice 1 (.l 0) (.o k) .any)))) ⟨2, Tr.nil.set 1 (some ⟨.pop rs, 46, true⟩), []⟩ s m
  | _ => False
noncomputable def boS (i n : Nat) : SV := .s (.c (.f (.slice i (.l 0) (.o n) .any)))
noncomputable def ET : Env := ⟨Try.prog, fnOf, conE, haltAt [20007, 20014, 21004, 21011]⟩
noncomputable def tA_d0 : List SIt := sekF Try.f20 7
noncomputable def tA_F (off : Nat) (num : Nat) (cs : Array Value) (ty : TypeId) (kF : Nat) (rF : Array Value) (b : Int) (i : Int) (n : Nat) (bs : Array Value) (ns : Array Value) : List SFr := [frOf 20 Try.f20 [(0, prS off num), (4, boS 1 n), (6, ptr 2 (.l 0)), (7, nilV), (20, i64 (.o b)), (21, i64 (.o i))] tA_d0]
noncomputable def tA_M (off : Nat) (num : Nat) (cs : Array Value) (ty : TypeId) (kF : Nat) (rF : Array Value) (b : Int) (i : Int) (n : Nat) (bs : Array Value) (ns : Array Value) : SMem := mkM 3 [(0, ⟨.raw cs, ty, false⟩), (1, ⟨.pop bs, 4, true⟩), (2, ⟨.op ns, 68, true⟩)]
noncomputable def tA_n (off : Nat) (num : Nat) (cs : Array Value) (ty : TypeId) (kF : Nat) (rF : Array Value) (Q : Int → Int → Nat → Array Value → Array Value → Prop) (fs : List SFr) (m : SMem) : Prop := (match frNth fs 0 with | some f0 => (match rdI f0 20 with | some b => (match rdI f0 21 with | some i => (match rdSI f0 4 with | some p1 => (match rdSN f0 4 with | some n => (match rdP f0 6 with | some p2 => (match rdA m p1 with | some bs => (match rdA m p2 with | some ns => Q b i n bs ns ∧ subOk 1 [(1, p1), (2, p2)] (tA_F off num cs ty kF rF b i n bs ns) (tA_M off num cs ty kF rF b i n bs ns) fs m | none => False) | none => False) | none => False) | none => False) | none => False) | none => False) | none => False) | none => False)
noncomputable def tB_d0 : List SIt := sekF Try.f20 7
noncomputable def tB_F (off : Nat) (num : Nat) (cs : Array Value) (ty : TypeId) (kF : Nat) (rF : Array Value) (b : Int) (i : Int) (n : Nat) (k : Nat) (bs : Array Value) (ns : Array Value) (ts : Array Value) : List SFr := [frOf 20 Try.f20 [(0, prS off num), (4, boS 1 n), (6, ptr 2 (.l 0)), (7, tsS 3 k), (20, i64 (.o b)), (21, i64 (.o i))] tB_d0]
noncomputable def tB_M (off : Nat) (num : Nat) (cs : Array Value) (ty : TypeId) (kF : Nat) (rF : Array Value) (b : Int) (i : Int) (n : Nat) (k : Nat) (bs : Array Value) (ns : Array Value) (ts : Array Value) : SMem := mkM 4 [(0, ⟨.raw cs, ty, false⟩), (1, ⟨.pop bs, 4, true⟩), (2, ⟨.op ns, 68, true⟩), (3, ⟨.pop ts, 52, true⟩)]
noncomputable def tB_n (off : Nat) (num : Nat) (cs : Array Value) (ty : TypeId) (kF : Nat) (rF : Array Value) (Q : Int → Int → Nat → Nat → Array Value → Array Value → Array Value → Prop) (fs : List SFr) (m : SMem) : Prop := (match frNth fs 0 with | some f0 => (match rdI f0 20 with | some b => (match rdI f0 21 with | some i => (match rdSI f0 4 with | some p1 => (match rdSN f0 4 with | some n => (match rdP f0 6 with | some p2 => (match rdSI f0 7 with | some p3 => (match rdSN f0 7 with | some k => (match rdA m p1 with | some bs => (match rdA m p2 with | some ns => (match rdA m p3 with | some ts => Q b i n k bs ns ts ∧ subOk 1 [(1, p1), (2, p2), (3, p3)] (tB_F off num cs ty kF rF b i n k bs ns ts) (tB_M off num cs ty kF rF b i n k bs ns ts) fs m | none => False) | none => False) | none => False) | none => False) | none => False) | none => False) | none => False) | none => False) | none => False) | none => False) | none => False)
noncomputable def tC_d0 : List SIt := sekF Try.f20 14
noncomputable def tC_F (off : Nat) (num : Nat) (cs : Array Value) (ty : TypeId) (kF : Nat) (rF : Array Value) (b : Int) (i : Int) (k : Nat) (ns : Array Value) (ts : Array Value) : List SFr := [frOf 20 Try.f20 [(6, ptr 1 (.l 0)), (7, tsS 2 k), (42, i64 (.o b)), (43, i64 (.o i))] tC_d0]
noncomputable def tC_M (off : Nat) (num : Nat) (cs : Array Value) (ty : TypeId) (kF : Nat) (rF : Array Value) (b : Int) (i : Int) (k : Nat) (ns : Array Value) (ts : Array Value) : SMem := mkM 3 [(0, ⟨.raw cs, ty, false⟩), (1, ⟨.op ns, 68, true⟩), (2, ⟨.pop ts, 52, true⟩)]
noncomputable def tC_n (off : Nat) (num : Nat) (cs : Array Value) (ty : TypeId) (kF : Nat) (rF : Array Value) (Q : Int → Int → Nat → Array Value → Array Value → Prop) (fs : List SFr) (m : SMem) : Prop := (match frNth fs 0 with | some f0 => (match rdI f0 42 with | some b => (match rdI f0 43 with | some i => (match rdP f0 6 with | some p1 => (match rdSI f0 7 with | some p2 => (match rdSN f0 7 with | some k => (match rdA m p1 with | some ns => (match rdA m p2 with | some ts => Q b i k ns ts ∧ subOk 1 [(1, p1), (2, p2)] (tC_F off num cs ty kF rF b i k ns ts) (tC_M off num cs ty kF rF b i k ns ts) fs m | none => False) | none => False) | none => False) | none => False) | none => False) | none => False) | none => False) | none => False)
noncomputable def uA_d0 : List SIt := sekF Try.f21 4
noncomputable def uA_F (off : Nat) (num : Nat) (cs : Array Value) (ty : TypeId) (kF : Nat) (rF : Array Value) (i : Int) (n : Nat) (bs : Array Value) : List SFr := [frOf 21 Try.f21 [(0, prS off num), (3, boS 1 n), (4, nilV), (5, i64 (.o i))] uA_d0]
noncomputable def uA_M (off : Nat) (num : Nat) (cs : Array Value) (ty : TypeId) (kF : Nat) (rF : Array Value) (i : Int) (n : Nat) (bs : Array Value) : SMem := mkM 2 [(0, ⟨.pop cs, ty, false⟩), (1, ⟨.pop bs, 4, true⟩)]
noncomputable def uA_n (off : Nat) (num : Nat) (cs : Array Value) (ty : TypeId) (kF : Nat) (rF : Array Value) (Q : Int → Nat → Array Value → Prop) (fs : List SFr) (m : SMem) : Prop := (match frNth fs 0 with | some f0 => (match rdI f0 5 with | some i => (match rdSI f0 3 with | some p1 => (match rdSN f0 3 with | some n => (match rdA m p1 with | some bs => Q i n bs ∧ subOk 1 [(1, p1)] (uA_F off num cs ty kF rF i n bs) (uA_M off num cs ty kF rF i n bs) fs m | none => False) | none => False) | none => False) | none => False) | none => False)
noncomputable def uB_d0 : List SIt := sekF Try.f21 4
noncomputable def uB_F (off : Nat) (num : Nat) (cs : Array Value) (ty : TypeId) (kF : Nat) (rF : Array Value) (i : Int) (n : Nat) (k : Nat) (bs : Array Value) (ts : Array Value) : List SFr := [frOf 21 Try.f21 [(0, prS off num), (3, boS 1 n), (4, tsS 2 k), (5, i64 (.o i))] uB_d0]
noncomputable def uB_M (off : Nat) (num : Nat) (cs : Array Value) (ty : TypeId) (kF : Nat) (rF : Array Value) (i : Int) (n : Nat) (k : Nat) (bs : Array Value) (ts : Array Value) : SMem := mkM 3 [(0, ⟨.pop cs, ty, false⟩), (1, ⟨.pop bs, 4, true⟩), (2, ⟨.pop ts, 46, true⟩)]
noncomputable def uB_n (off : Nat) (num : Nat) (cs : Array Value) (ty : TypeId) (kF : Nat) (rF : Array Value) (Q : Int → Nat → Nat → Array Value → Array Value → Prop) (fs : List SFr) (m : SMem) : Prop := (match frNth fs 0 with | some f0 => (match rdI f0 5 with | some i => (match rdSI f0 3 with | some p1 => (match rdSN f0 3 with | some n => (match rdSI f0 4 with | some p2 => (match rdSN f0 4 with | some k => (match rdA m p1 with | some bs => (match rdA m p2 with | some ts => Q i n k bs ts ∧ subOk 1 [(1, p1), (2, p2)] (uB_F off num cs ty kF rF i n k bs ts) (uB_M off num cs ty kF rF i n k bs ts) fs m | none => False) | none => False) | none => False) | none => False) | none => False) | none => False) | none => False) | none => False)
noncomputable def vA_d0 : List SIt := sekF Try.f21 11
noncomputable def vA_F (off : Nat) (num : Nat) (cs : Array Value) (ty : TypeId) (kF : Nat) (rF : Array Value) (i : Int) (n : Nat) (c : Int) (j : Int) (xo : Int) (xa : Int) (xb : Int) (xc : Int) (xn : Int) (bs : Array Value) : List SFr := [frOf 21 Try.f21 [(0, prS off num), (3, boS 1 n), (4, nilV), (5, i64 (.o i)), (6, ptr 2 (.l 0)), (7, i64 (.o c)), (8, i64 (.o j))] vA_d0]
noncomputable def vA_M (off : Nat) (num : Nat) (cs : Array Value) (ty : TypeId) (kF : Nat) (rF : Array Value) (i : Int) (n : Nat) (c : Int) (j : Int) (xo : Int) (xa : Int) (xb : Int) (xc : Int) (xn : Int) (bs : Array Value) : SMem := mkM 3 [(0, ⟨.pop cs, ty, false⟩), (1, ⟨.pop bs, 4, true⟩), (2, ⟨.ls [.f (.int .i64 (.o xo)), .f (.int .i64 (.o xa)), .f (.int .i64 (.o xb)), .f (.int .i64 (.o xc)), .f (.int .i64 (.o xn))], 46, true⟩)]
noncomputable def vA_n (off : Nat) (num : Nat) (cs : Array Value) (ty : TypeId) (kF : Nat) (rF : Array Value) (Q : Int → Nat → Int → Int → Int → Int → Int → Int → Int → Array Value → Prop) (fs : List SFr) (m : SMem) : Prop := (match frNth fs 0 with | some f0 => (match rdI f0 5 with | some i => (match rdI f0 7 with | some c => (match rdI f0 8 with | some j => (match rdSI f0 3 with | some p1 => (match rdSN f0 3 with | some n => (match rdP f0 6 with | some p2 => (match rdCI m p2 0 with | some xo => (match rdCI m p2 1 with | some xa => (match rdCI m p2 2 with | some xb => (match rdCI m p2 3 with | some xc => (match rdCI m p2 4 with | some xn => (match rdA m p1 with | some bs => Q i n c j xo xa xb xc xn bs ∧ subOk 1 [(1, p1), (2, p2)] (vA_F off num cs ty kF rF i n c j xo xa xb xc xn bs) (vA_M off num cs ty kF rF i n c j xo xa xb xc xn bs) fs m | none => False) | none => False) | none => False) | none => False) | none => False) | none => False) | none => False) | none => False) | none => False) | none => False) | none => False) | none => False) | none => False)
noncomputable def vB_d0 : List SIt := sekF Try.f21 11
noncomputable def vB_F (off : Nat) (num : Nat) (cs : Array Value) (ty : TypeId) (kF : Nat) (rF : Array Value) (i : Int) (n : Nat) (k : Nat) (c : Int) (j : Int) (xo : Int) (xa : Int) (xb : Int) (xc : Int) (xn : Int) (bs : Array Value) (ts : Array Value) : List SFr := [frOf 21 Try.f21 [(0, prS off num), (3, boS 1 n), (4, tsS 3 k), (5, i64 (.o i)), (6, ptr 2 (.l 0)), (7, i64 (.o c)), (8, i64 (.o j))] vB_d0]
noncomputable def vB_M (off : Nat) (num : Nat) (cs : Array Value) (ty : TypeId) (kF : Nat) (rF : Array Value) (i : Int) (n : Nat) (k : Nat) (c : Int) (j : Int) (xo : Int) (xa : Int) (xb : Int) (xc : Int) (xn : Int) (bs : Array Value) (ts : Array Value) : SMem := mkM 4 [(0, ⟨.pop cs, ty, false⟩), (1, ⟨.pop bs, 4, true⟩), (2, ⟨.ls [.f (.int .i64 (.o xo)), .f (.int .i64 (.o xa)), .f (.int .i64 (.o xb)), .f (.int .i64 (.o xc)), .f (.int .i64 (.o xn))], 46, true⟩), (3, ⟨.pop ts, 46, true⟩)]
noncomputable def vB_n (off : Nat) (num : Nat) (cs : Array Value) (ty : TypeId) (kF : Nat) (rF : Array Value) (Q : Int → Nat → Nat → Int → Int → Int → Int → Int → Int → Int → Array Value → Array Value → Prop) (fs : List SFr) (m : SMem) : Prop := (match frNth fs 0 with | some f0 => (match rdI f0 5 with | some i => (match rdI f0 7 with | some c => (match rdI f0 8 with | some j => (match rdSI f0 3 with | some p1 => (match rdSN f0 3 with | some n => (match rdP f0 6 with | some p2 => (match rdSI f0 4 with | some p3 => (match rdSN f0 4 with | some k => (match rdCI m p2 0 with | some xo => (match rdCI m p2 1 with | some xa => (match rdCI m p2 2 with | some xb => (match rdCI m p2 3 with | some xc => (match rdCI m p2 4 with | some xn => (match rdA m p1 with | some bs => (match rdA m p3 with | some ts => Q i n k c j xo xa xb xc xn bs ts ∧ subOk 1 [(1, p1), (2, p2), (3, p3)] (vB_F off num cs ty kF rF i n k c j xo xa xb xc xn bs ts) (vB_M off num cs ty kF rF i n k c j xo xa xb xc xn bs ts) fs m | none => False) | none => False) | none => False) | none => False) | none => False) | none => False) | none => False) | none => False) | none => False) | none => False) | none => False) | none => False) | none => False) | none => False) | none => False) | none => False)
noncomputable def sT_t (off : Nat) (num : Nat) (cs : Array Value) (ty : TypeId) (kF : Nat) (rF : Array Value) : Tree := run ET 8000 1 [callFr 20 Try.f20.ntmps [prS off num] (Try.f20.body.getD .skip)] (rawM cs ty)
noncomputable def sT_x (off : Nat) (num : Nat) (cs : Array Value) (ty : TypeId) (kF : Nat) (rF : Array Value) (QtA : Int → Int → Nat → Array Value → Array Value → Prop) (fs : List SFr) (m : SMem) : Prop := tA_n off num cs ty kF rF QtA fs m
noncomputable def jTA_t (off : Nat) (num : Nat) (cs : Array Value) (ty : TypeId) (kF : Nat) (rF : Array Value) (b : Int) (i : Int) (n : Nat) (bs : Array Value) (ns : Array Value) : Tree := stepT ET.go (run ET 1000) 1 (tA_F off num cs ty kF rF b i n bs ns) (tA_M off num cs ty kF rF b i n bs ns)
noncomputable def jTA_x (off : Nat) (num : Nat) (cs : Array Value) (ty : TypeId) (kF : Nat) (rF : Array Value) (b : Int) (i : Int) (n : Nat) (bs : Array Value) (ns : Array Value) (QtB : Int → Int → Nat → Nat → Array Value → Array Value → Array Value → Prop) (fs : List SFr) (m : SMem) : Prop := tB_n off num cs ty kF rF QtB fs m
noncomputable def jTB_t (off : Nat) (num : Nat) (cs : Array Value) (ty : TypeId) (kF : Nat) (rF : Array Value) (b : Int) (i : Int) (n : Nat) (k : Nat) (bs : Array Value) (ns : Array Value) (ts : Array Value) : Tree := stepT ET.go (run ET 1000) 1 (tB_F off num cs ty kF rF b i n k bs ns ts) (tB_M off num cs ty kF rF b i n k bs ns ts)
noncomputable def jTB_x (off : Nat) (num : Nat) (cs : Array Value) (ty : TypeId) (kF : Nat) (rF : Array Value) (b : Int) (i : Int) (n : Nat) (k : Nat) (bs : Array Value) (ns : Array Value) (ts : Array Value) (QtB : Int → Int → Nat → Nat → Array Value → Array Value → Array Value → Prop) (QtC : Int → Int → Nat → Array Value → Array Value → Prop) (fs : List SFr) (m : SMem) : Prop := (match Nat.beq (atR fs) 20007 with | true => tB_n off num cs ty kF rF QtB fs m | false => tC_n off num cs ty kF rF QtC fs m)
noncomputable def jTC_t (off : Nat) (num : Nat) (cs : Array Value) (ty : TypeId) (kF : Nat) (rF : Array Value) (b : Int) (i : Int) (k : Nat) (ns : Array Value) (ts : Array Value) : Tree := stepT ET.go (run ET 1000) 1 (tC_F off num cs ty kF rF b i k ns ts) (tC_M off num cs ty kF rF b i k ns ts)
noncomputable def jTC_x (off : Nat) (num : Nat) (cs : Array Value) (ty : TypeId) (kF : Nat) (rF : Array Value) (b : Int) (i : Int) (k : Nat) (ns : Array Value) (ts : Array Value) (QtC : Int → Int → Nat → Array Value → Array Value → Prop) (fs : List SFr) (m : SMem) : Prop := tC_n off num cs ty kF rF QtC fs m
noncomputable def sU_t (off : Nat) (num : Nat) (cs : Array Value) (ty : TypeId) (kF : Nat) (rF : Array Value) : Tree := run ET 8000 1 [callFr 21 Try.f21.ntmps [prS off num] (Try.f21.body.getD .skip)] (prM false cs ty)
noncomputable def sU_x (off : Nat) (num : Nat) (cs : Array Value) (ty : TypeId) (kF : Nat) (rF : Array Value) (QuA : Int → Nat → Array Value → Prop) (fs : List SFr) (m : SMem) : Prop := uA_n off num cs ty kF rF QuA fs m
noncomputable def jUA_t (off : Nat) (num : Nat) (cs : Array Value) (ty : TypeId) (kF : Nat) (rF : Array Value) (i : Int) (n : Nat) (bs : Array Value) : Tree := stepT ET.go (run ET 1000) 1 (uA_F off num cs ty kF rF i n bs) (uA_M off num cs ty kF rF i n bs)
noncomputable def jUA_x (off : Nat) (num : Nat) (cs : Array Value) (ty : TypeId) (kF : Nat) (rF : Array Value) (i : Int) (n : Nat) (bs : Array Value) (QvA : Int → Nat → Int → Int → Int → Int → Int → Int → Int → Array Value → Prop) (QuB : Int → Nat → Nat → Array Value → Array Value → Prop) (fs : List SFr) (m : SMem) : Prop := (match Nat.beq (atR fs) 21011 with | true => vA_n off num cs ty kF rF QvA fs m | false => uB_n off num cs ty kF rF QuB fs m)
noncomputable def jUB_t (off : Nat) (num : Nat) (cs : Array Value) (ty : TypeId) (kF : Nat) (rF : Array Value) (i : Int) (n : Nat) (k : Nat) (bs : Array Value) (ts : Array Value) : Tree := stepT ET.go (run ET 1000) 1 (uB_F off num cs ty kF rF i n k bs ts) (uB_M off num cs ty kF rF i n k bs ts)
noncomputable def jUB_x (off : Nat) (num : Nat) (cs : Array Value) (ty : TypeId) (kF : Nat) (rF : Array Value) (i : Int) (n : Nat) (k : Nat) (bs : Array Value) (ts : Array Value) (QvB : Int → Nat → Nat → Int → Int → Int → Int → Int → Int → Int → Array Value → Array Value → Prop) (QuB : Int → Nat → Nat → Array Value → Array Value → Prop) (fs : List SFr) (m : SMem) : Prop := (match Nat.beq (atR fs) 21011 with | true => vB_n off num cs ty kF rF QvB fs m | false => uB_n off num cs ty kF rF QuB fs m)
noncomputable def jUC_t (off : Nat) (num : Nat) (cs : Array Value) (ty : TypeId) (kF : Nat) (rF : Array Value) (i : Int) (n : Nat) (c : Int) (j : Int) (xo : Int) (xa : Int) (xb : Int) (xc : Int) (xn : Int) (bs : Array Value) : Tree := stepT ET.go (run ET 1000) 1 (vA_F off num cs ty kF rF i n c j xo xa xb xc xn bs) (vA_M off num cs ty kF rF i n c j xo xa xb xc xn bs)
noncomputable def jUC_x (off : Nat) (num : Nat) (cs : Array Value) (ty : TypeId) (kF : Nat) (rF : Array Value) (i : Int) (n : Nat) (c : Int) (j : Int) (xo : Int) (xa : Int) (xb : Int) (xc : Int) (xn : Int) (bs : Array Value) (QvA : Int → Nat → Int → Int → Int → Int → Int → Int → Int → Array Value → Prop) (QuB : Int → Nat → Nat → Array Value → Array Value → Prop) (fs : List SFr) (m : SMem) : Prop := (match Nat.beq (atR fs) 21011 with | true => vA_n off num cs ty kF rF QvA fs m | false => uB_n off num cs ty kF rF QuB fs m)
noncomputable def jUD_t (off : Nat) (num : Nat) (cs : Array Value) (ty : TypeId) (kF : Nat) (rF : Array Value) (i : Int) (n : Nat) (k : Nat) (c : Int) (j : Int) (xo : Int) (xa : Int) (xb : Int) (xc : Int) (xn : Int) (bs : Array Value) (ts : Array Value) : Tree := stepT ET.go (run ET 1000) 1 (vB_F off num cs ty kF rF i n k c j xo xa xb xc xn bs ts) (vB_M off num cs ty kF rF i n k c j xo xa xb xc xn bs ts)
noncomputable def jUD_x (off : Nat) (num : Nat) (cs : Array Value) (ty : TypeId) (kF : Nat) (rF : Array Value) (i : Int) (n : Nat) (k : Nat) (c : Int) (j : Int) (xo : Int) (xa : Int) (xb : Int) (xc : Int) (xn : Int) (bs : Array Value) (ts : Array Value) (QvB : Int → Nat → Nat → Int → Int → Int → Int → Int → Int → Int → Array Value → Array Value → Prop) (QuB : Int → Nat → Nat → Array Value → Array Value → Prop) (fs : List SFr) (m : SMem) : Prop := (match Nat.beq (atR fs) 21011 with | true => vB_n off num cs ty kF rF QvB fs m | false => uB_n off num cs ty kF rF QuB fs m)
theorem tA_d0_ok (r : Nat → Option Nat) : TodoOk r tA_d0 tA_d0 := TodoOk.it (by kernel_rfl)
theorem tB_d0_ok (r : Nat → Option Nat) : TodoOk r tB_d0 tB_d0 := TodoOk.it (by kernel_rfl)
theorem tC_d0_ok (r : Nat → Option Nat) : TodoOk r tC_d0 tC_d0 := TodoOk.it (by kernel_rfl)
theorem uA_d0_ok (r : Nat → Option Nat) : TodoOk r uA_d0 uA_d0 := TodoOk.it (by kernel_rfl)
theorem uB_d0_ok (r : Nat → Option Nat) : TodoOk r uB_d0 uB_d0 := TodoOk.it (by kernel_rfl)
theorem vA_d0_ok (r : Nat → Option Nat) : TodoOk r vA_d0 vA_d0 := TodoOk.it (by kernel_rfl)
theorem vB_d0_ok (r : Nat → Option Nat) : TodoOk r vB_d0 vB_d0 := TodoOk.it (by kernel_rfl)
theorem tA_good {A : SV → SMem → Prop} {off : Nat} {num : Nat} {cs : Array Value} {ty : TypeId} {kF : Nat} {rF : Array Value} {Q : Int → Int → Nat → Array Value → Array Value → Prop} {fs : List SFr} {m : SMem} (H : ∀ b i n bs ns, Q b i n bs ns → Good Try.prog A 1 (tA_F off num cs ty kF rF b i n bs ns) (tA_M off num cs ty kF rF b i n bs ns)) (hb : tA_n off num cs ty kF rF Q fs m) : Good Try.prog A 1 fs m := by
  unfold tA_n at hb
  split at hb
  rotate_left
  · exact hb.elim
  split at hb
  rotate_left
  · exact hb.elim
  split at hb
  rotate_left
  · exact hb.elim
  split at hb
  rotate_left
  · exact hb.elim
  split at hb
  rotate_left
  · exact hb.elim
  split at hb
  rotate_left
  · exact hb.elim
  split at hb
  rotate_left
  · exact hb.elim
  split at hb
  rotate_left
  · exact hb.elim
  exact Good.of_sub hb.2 (H _ _ _ _ _ hb.1)
theorem tB_good {A : SV → SMem → Prop} {off : Nat} {num : Nat} {cs : Array Value} {ty : TypeId} {kF : Nat} {rF : Array Value} {Q : Int → Int → Nat → Nat → Array Value → Array Value → Array Value → Prop} {fs : List SFr} {m : SMem} (H : ∀ b i n k bs ns ts, Q b i n k bs ns ts → Good Try.prog A 1 (tB_F off num cs ty kF rF b i n k bs ns ts) (tB_M off num cs ty kF rF b i n k bs ns ts)) (hb : tB_n off num cs ty kF rF Q fs m) : Good Try.prog A 1 fs m := by
  unfold tB_n at hb
  split at hb
  rotate_left
  · exact hb.elim
  split at hb
  rotate_left
  · exact hb.elim
  split at hb
  rotate_left
  · exact hb.elim
  split at hb
  rotate_left
  · exact hb.elim
  split at hb
  rotate_left
  · exact hb.elim
  split at hb
  rotate_left
  · exact hb.elim
  split at hb
  rotate_left
  · exact hb.elim
  split at hb
  rotate_left
  · exact hb.elim
  split at hb
  rotate_left
  · exact hb.elim
  split at hb
  rotate_left
  · exact hb.elim
  split at hb
  rotate_left
  · exact hb.elim
  exact Good.of_sub hb.2 (H _ _ _ _ _ _ _ hb.1)
theorem tC_good {A : SV → SMem → Prop} {off : Nat} {num : Nat} {cs : Array Value} {ty : TypeId} {kF : Nat} {rF : Array Value} {Q : Int → Int → Nat → Array Value → Array Value → Prop} {fs : List SFr} {m : SMem} (H : ∀ b i k ns ts, Q b i k ns ts → Good Try.prog A 1 (tC_F off num cs ty kF rF b i k ns ts) (tC_M off num cs ty kF rF b i k ns ts)) (hb : tC_n off num cs ty kF rF Q fs m) : Good Try.prog A 1 fs m := by
  unfold tC_n at hb
  split at hb
  rotate_left
  · exact hb.elim
  split at hb
  rotate_left
  · exact hb.elim
  split at hb
  rotate_left
  · exact hb.elim
  split at hb
  rotate_left
  · exact hb.elim
  split at hb
  rotate_left
  · exact hb.elim
  split at hb
  rotate_left
  · exact hb.elim
  split at hb
  rotate_left
  · exact hb.elim
  split at hb
  rotate_left
  · exact hb.elim
  exact Good.of_sub hb.2 (H _ _ _ _ _ hb.1)
theorem uA_good {A : SV → SMem → Prop} {off : Nat} {num : Nat} {cs : Array Value} {ty : TypeId} {kF : Nat} {rF : Array Value} {Q : Int → Nat → Array Value → Prop} {fs : List SFr} {m : SMem} (H : ∀ i n bs, Q i n bs → Good Try.prog A 1 (uA_F off num cs ty kF rF i n bs) (uA_M off num cs ty kF rF i n bs)) (hb : uA_n off num cs ty kF rF Q fs m) : Good Try.prog A 1 fs m := by
  unfold uA_n at hb
  split at hb
  rotate_left
  · exact hb.elim
  split at hb
  rotate_left
  · exact hb.elim
  split at hb
  rotate_left
  · exact hb.elim
  split at hb
  rotate_left
  · exact hb.elim
  split at hb
  rotate_left
  · exact hb.elim
  exact Good.of_sub hb.2 (H _ _ _ hb.1)
theorem uB_good {A : SV → SMem → Prop} {off : Nat} {num : Nat} {cs : Array Value} {ty : TypeId} {kF : Nat} {rF : Array Value} {Q : Int → Nat → Nat → Array Value → Array Value → Prop} {fs : List SFr} {m : SMem} (H : ∀ i n k bs ts, Q i n k bs ts → Good Try.prog A 1 (uB_F off num cs ty kF rF i n k bs ts) (uB_M off num cs ty kF rF i n k bs ts)) (hb : uB_n off num cs ty kF rF Q fs m) : Good Try.prog A 1 fs m := by
  unfold uB_n at hb
  split at hb
  rotate_left
  · exact hb.elim
  split at hb
  rotate_left
  · exact hb.elim
  split at hb
  rotate_left
  · exact hb.elim
  split at hb
  rotate_left
  · exact hb.elim
  split at hb
  rotate_left
  · exact hb.elim
  split at hb
  rotate_left
  · exact hb.elim
  split at hb
  rotate_left
  · exact hb.elim
  split at hb
  rotate_left
  · exact hb.elim
  exact Good.of_sub hb.2 (H _ _ _ _ _ hb.1)
theorem vA_good {A : SV → SMem → Prop} {off : Nat} {num : Nat} {cs : Array Value} {ty : TypeId} {kF : Nat} {rF : Array Value} {Q : Int → Nat → Int → Int → Int → Int → Int → Int → Int → Array Value → Prop} {fs : List SFr} {m : SMem} (H : ∀ i n c j xo xa xb xc xn bs, Q i n c j xo xa xb xc xn bs → Good Try.prog A 1 (vA_F off num cs ty kF rF i n c j xo xa xb xc xn bs) (vA_M off num cs ty kF rF i n c j xo xa xb xc xn bs)) (hb : vA_n off num cs ty kF rF Q fs m) : Good Try.prog A 1 fs m := by
  unfold vA_n at hb
  split at hb
  rotate_left
  · exact hb.elim
  split at hb
  rotate_left
  · exact hb.elim
  split at hb
  rotate_left
  · exact hb.elim
  split at hb
  rotate_left
  · exact hb.elim
  split at hb
  rotate_left
  · exact hb.elim
  split at hb
  rotate_left
  · exact hb.elim
  split at hb
  rotate_left
  · exact hb.elim
  split at hb
  rotate_left
  · exact hb.elim
  split at hb
  rotate_left
  · exact hb.elim
  split at hb
  rotate_left
  · exact hb.elim
  split at hb
  rotate_left
  · exact hb.elim
  split at hb
  rotate_left
  · exact hb.elim
  split at hb
  rotate_left
  · exact hb.elim
  exact Good.of_sub hb.2 (H _ _ _ _ _ _ _ _ _ _ hb.1)
theorem vB_good {A : SV → SMem → Prop} {off : Nat} {num : Nat} {cs : Array Value} {ty : TypeId} {kF : Nat} {rF : Array Value} {Q : Int → Nat → Nat → Int → Int → Int → Int → Int → Int → Int → Array Value → Array Value → Prop} {fs : List SFr} {m : SMem} (H : ∀ i n k c j xo xa xb xc xn bs ts, Q i n k c j xo xa xb xc xn bs ts → Good Try.prog A 1 (vB_F off num cs ty kF rF i n k c j xo xa xb xc xn bs ts) (vB_M off num cs ty kF rF i n k c j xo xa xb xc xn bs ts)) (hb : vB_n off num cs ty kF rF Q fs m) : Good Try.prog A 1 fs m := by
  unfold vB_n at hb
  split at hb
  rotate_left
  · exact hb.elim
  split at hb
  rotate_left
  · exact hb.elim
  split at hb
  rotate_left
  · exact hb.elim
  split at hb
  rotate_left
  · exact hb.elim
  split at hb
  rotate_left
  · exact hb.elim
  split at hb
  rotate_left
  · exact hb.elim
  split at hb
  rotate_left
  · exact hb.elim
  split at hb
  rotate_left
  · exact hb.elim
  split at hb
  rotate_left
  · exact hb.elim
  split at hb
  rotate_left
  · exact hb.elim
  split at hb
  rotate_left
  · exact hb.elim
  split at hb
  rotate_left
  · exact hb.elim
  split at hb
  rotate_left
  · exact hb.elim
  split at hb
  rotate_left
  · exact hb.elim
  split at hb
  rotate_left
  · exact hb.elim
  split at hb
  rotate_left
  · exact hb.elim
  exact Good.of_sub hb.2 (H _ _ _ _ _ _ _ _ _ _ _ _ hb.1)
theorem sT_go {A : SV → SMem → Prop} {off : Nat} {num : Nat} {cs : Array Value} {ty : TypeId} {kF : Nat} {rF : Array Value} {QtA : Int → Int → Nat → Array Value → Array Value → Prop} {fs : List SFr} {m : SMem} (htA : ∀ b' i' n' bs' ns', QtA b' i' n' bs' ns' → Good Try.prog A 1 (tA_F off num cs ty kF rF b' i' n' bs' ns') (tA_M off num cs ty kF rF b' i' n' bs' ns')) (hb : sT_x off num cs ty kF rF QtA fs m) : Good Try.prog A 1 fs m := by
  unfold sT_x at hb
  exact tA_good htA hb
theorem jTA_go {A : SV → SMem → Prop} {off : Nat} {num : Nat} {cs : Array Value} {ty : TypeId} {kF : Nat} {rF : Array Value} {b : Int} {i : Int} {n : Nat} {bs : Array Value} {ns : Array Value} {QtB : Int → Int → Nat → Nat → Array Value → Array Value → Array Value → Prop} {fs : List SFr} {m : SMem} (htB : ∀ b' i' n' k' bs' ns' ts', QtB b' i' n' k' bs' ns' ts' → Good Try.prog A 1 (tB_F off num cs ty kF rF b' i' n' k' bs' ns' ts') (tB_M off num cs ty kF rF b' i' n' k' bs' ns' ts')) (hb : jTA_x off num cs ty kF rF b i n bs ns QtB fs m) : Good Try.prog A 1 fs m := by
  unfold jTA_x at hb
  exact tB_good htB hb
theorem jTB_go {A : SV → SMem → Prop} {off : Nat} {num : Nat} {cs : Array Value} {ty : TypeId} {kF : Nat} {rF : Array Value} {b : Int} {i : Int} {n : Nat} {k : Nat} {bs : Array Value} {ns : Array Value} {ts : Array Value} {QtB : Int → Int → Nat → Nat → Array Value → Array Value → Array Value → Prop} {QtC : Int → Int → Nat → Array Value → Array Value → Prop} {fs : List SFr} {m : SMem} (htB : ∀ b' i' n' k' bs' ns' ts', QtB b' i' n' k' bs' ns' ts' → Good Try.prog A 1 (tB_F off num cs ty kF rF b' i' n' k' bs' ns' ts') (tB_M off num cs ty kF rF b' i' n' k' bs' ns' ts')) (htC : ∀ b' i' k' ns' ts', QtC b' i' k' ns' ts' → Good Try.prog A 1 (tC_F off num cs ty kF rF b' i' k' ns' ts') (tC_M off num cs ty kF rF b' i' k' ns' ts')) (hb : jTB_x off num cs ty kF rF b i n k bs ns ts QtB QtC fs m) : Good Try.prog A 1 fs m := by
  unfold jTB_x at hb
  split at hb
  · exact tB_good htB hb
  exact tC_good htC hb
theorem jTC_go {A : SV → SMem → Prop} {off : Nat} {num : Nat} {cs : Array Value} {ty : TypeId} {kF : Nat} {rF : Array Value} {b : Int} {i : Int} {k : Nat} {ns : Array Value} {ts : Array Value} {QtC : Int → Int → Nat → Array Value → Array Value → Prop} {fs : List SFr} {m : SMem} (htC : ∀ b' i' k' ns' ts', QtC b' i' k' ns' ts' → Good Try.prog A 1 (tC_F off num cs ty kF rF b' i' k' ns' ts') (tC_M off num cs ty kF rF b' i' k' ns' ts')) (hb : jTC_x off num cs ty kF rF b i k ns ts QtC fs m) : Good Try.prog A 1 fs m := by
  unfold jTC_x at hb
  exact tC_good htC hb
theorem sU_go {A : SV → SMem → Prop} {off : Nat} {num : Nat} {cs : Array Value} {ty : TypeId} {kF : Nat} {rF : Array Value} {QuA : Int → Nat → Array Value → Prop} {fs : List SFr} {m : SMem} (huA : ∀ i' n' bs', QuA i' n' bs' → Good Try.prog A 1 (uA_F off num cs ty kF rF i' n' bs') (uA_M off num cs ty kF rF i' n' bs')) (hb : sU_x off num cs ty kF rF QuA fs m) : Good Try.prog A 1 fs m := by
  unfold sU_x at hb
  exact uA_good huA hb
theorem jUA_go {A : SV → SMem → Prop} {off : Nat} {num : Nat} {cs : Array Value} {ty : TypeId} {kF : Nat} {rF : Array Value} {i : Int} {n : Nat} {bs : Array Value} {QvA : Int → Nat → Int → Int → Int → Int → Int → Int → Int → Array Value → Prop} {QuB : Int → Nat → Nat → Array Value → Array Value → Prop} {fs : List SFr} {m : SMem} (hvA : ∀ i' n' c' j' xo' xa' xb' xc' xn' bs', QvA i' n' c' j' xo' xa' xb' xc' xn' bs' → Good Try.prog A 1 (vA_F off num cs ty kF rF i' n' c' j' xo' xa' xb' xc' xn' bs') (vA_M off num cs ty kF rF i' n' c' j' xo' xa' xb' xc' xn' bs')) (huB : ∀ i' n' k' bs' ts', QuB i' n' k' bs' ts' → Good Try.prog A 1 (uB_F off num cs ty kF rF i' n' k' bs' ts') (uB_M off num cs ty kF rF i' n' k' bs' ts')) (hb : jUA_x off num cs ty kF rF i n bs QvA QuB fs m) : Good Try.prog A 1 fs m := by
  unfold jUA_x at hb
  split at hb
  · exact vA_good hvA hb
  exact uB_good huB hb
theorem jUB_go {A : SV → SMem → Prop} {off : Nat} {num : Nat} {cs : Array Value} {ty : TypeId} {kF : Nat} {rF : Array Value} {i : Int} {n : Nat} {k : Nat} {bs : Array Value} {ts : Array Value} {QvB : Int → Nat → Nat → Int → Int → Int → Int → Int → Int → Int → Array Value → Array Value → Prop} {QuB : Int → Nat → Nat → Array Value → Array Value → Prop} {fs : List SFr} {m : SMem} (hvB : ∀ i' n' k' c' j' xo' xa' xb' xc' xn' bs' ts', QvB i' n' k' c' j' xo' xa' xb' xc' xn' bs' ts' → Good Try.prog A 1 (vB_F off num cs ty kF rF i' n' k' c' j' xo' xa' xb' xc' xn' bs' ts') (vB_M off num cs ty kF rF i' n' k' c' j' xo' xa' xb' xc' xn' bs' ts')) (huB : ∀ i' n' k' bs' ts', QuB i' n' k' bs' ts' → Good Try.prog A 1 (uB_F off num cs ty kF rF i' n' k' bs' ts') (uB_M off num cs ty kF rF i' n' k' bs' ts')) (hb : jUB_x off num cs ty kF rF i n k bs ts QvB QuB fs m) : Good Try.prog A 1 fs m := by
  unfold jUB_x at hb
  split at hb
  · exact vB_good hvB hb
  exact uB_good huB hb
theorem jUC_go {A : SV → SMem → Prop} {off : Nat} {num : Nat} {cs : Array Value} {ty : TypeId} {kF : Nat} {rF : Array Value} {i : Int} {n : Nat} {c : Int} {j : Int} {xo : Int} {xa : Int} {xb : Int} {xc : Int} {xn : Int} {bs : Array Value} {QvA : Int → Nat → Int → Int → Int → Int → Int → Int → Int → Array Value → Prop} {QuB : Int → Nat → Nat → Array Value → Array Value → Prop} {fs : List SFr} {m : SMem} (hvA : ∀ i' n' c' j' xo' xa' xb' xc' xn' bs', QvA i' n' c' j' xo' xa' xb' xc' xn' bs' → Good Try.prog A 1 (vA_F off num cs ty kF rF i' n' c' j' xo' xa' xb' xc' xn' bs') (vA_M off num cs ty kF rF i' n' c' j' xo' xa' xb' xc' xn' bs')) (huB : ∀ i' n' k' bs' ts', QuB i' n' k' bs' ts' → Good Try.prog A 1 (uB_F off num cs ty kF rF i' n' k' bs' ts') (uB_M off num cs ty kF rF i' n' k' bs' ts')) (hb : jUC_x off num cs ty kF rF i n c j xo xa xb xc xn bs QvA QuB fs m) : Good Try.prog A 1 fs m := by
  unfold jUC_x at hb
  split at hb
  · exact vA_good hvA hb
  exact uB_good huB hb
theorem jUD_go {A : SV → SMem → Prop} {off : Nat} {num : Nat} {cs : Array Value} {ty : TypeId} {kF : Nat} {rF : Array Value} {i : Int} {n : Nat} {k : Nat} {c : Int} {j : Int} {xo : Int} {xa : Int} {xb : Int} {xc : Int} {xn : Int} {bs : Array Value} {ts : Array Value} {QvB : Int → Nat → Nat → Int → Int → Int → Int → Int → Int → Int → Array Value → Array Value → Prop} {QuB : Int → Nat → Nat → Array Value → Array Value → Prop} {fs : List SFr} {m : SMem} (hvB : ∀ i' n' k' c' j' xo' xa' xb' xc' xn' bs' ts', QvB i' n' k' c' j' xo' xa' xb' xc' xn' bs' ts' → Good Try.prog A 1 (vB_F off num cs ty kF rF i' n' k' c' j' xo' xa' xb' xc' xn' bs' ts') (vB_M off num cs ty kF rF i' n' k' c' j' xo' xa' xb' xc' xn' bs' ts')) (huB : ∀ i' n' k' bs' ts', QuB i' n' k' bs' ts' → Good Try.prog A 1 (uB_F off num cs ty kF rF i' n' k' bs' ts') (uB_M off num cs ty kF rF i' n' k' bs' ts')) (hb : jUD_x off num cs ty kF rF i n k c j xo xa xb xc xn bs ts QvB QuB fs m) : Good Try.prog A 1 fs m := by
  unfold jUD_x at hb
  split at hb
  · exact vB_good hvB hb
  exact uB_good huB hb
end Go.Proofs.Ytebkbihhnoellaa
/- Of flow: Trim and the reference's: their states. -/
namespace Go.Proofs.Ytebkbihhnoellaa
set_option maxRecDepth 100000
theorem sT_vc (off : Nat) (num : Nat) (cs : Array Value) (ty : TypeId) (kF : Nat) (rF : Array Value) (QtA : Int → Int → Nat → Array Value → Array Value → Prop) : (sT_t off num cs ty kF rF).vc ((trE true kF rF)) (sT_x off num cs ty kF rF QtA) =
    ((InsOk cs off num ∧ True) ∧ (mayV cs off num = true → QtA (↑num : Int) (0 : Int) (num + 1) (boL (metB cs off num) (num + 1)) #[Value.int IntKind.u16 (0 : Int), Value.int IntKind.u16 (0 : Int), Value.int IntKind.u16 (0 : Int), Value.int IntKind.u16 (0 : Int), Value.int IntKind.u16 (0 : Int), Value.int IntKind.u16 (0 : Int), Value.int IntKind.u16 (0 : Int), Value.int IntKind.u16 (0 : Int), Value.int IntKind.u16 (0 : Int), Value.int IntKind.u16 (0 : Int), Value.int IntKind.u16 (0 : Int), Value.int IntKind.u16 (0 : Int), Value.int IntKind.u16 (0 : Int), Value.int IntKind.u16 (0 : Int), Value.int IntKind.u16 (0 : Int), Value.int IntKind.u16 (0 : Int), Value.int IntKind.u16 (0 : Int), Value.int IntKind.u16 (0 : Int), Value.int IntKind.u16 (0 : Int), Value.int IntKind.u16 (0 : Int), Value.int IntKind.u16 (0 : Int), Value.int IntKind.u16 (0 : Int), Value.int IntKind.u16 (0 : Int), Value.int IntKind.u16 (0 : Int), Value.int IntKind.u16 (0 : Int), Value.int IntKind.u16 (0 : Int), Value.int IntKind.u16 (0 : Int), Value.int IntKind.u16 (0 : Int), Value.int IntKind.u16 (0 : Int), Value.int IntKind.u16 (0 : Int), Value.int IntKind.u16 (0 : Int), Value.int IntKind.u16 (0 : Int), Value.int IntKind.u16 (0 : Int), Value.int IntKind.u16 (0 : Int), Value.int IntKind.u16 (0 : Int), Value.int IntKind.u16 (0 : Int), Value.int IntKind.u16 (0 : Int), Value.int IntKind.u16 (0 : Int), Value.int IntKind.u16 (0 : Int), Value.int IntKind.u16 (0 : Int), Value.int IntKind.u16 (0 : Int), Value.int IntKind.u16 (0 : Int), Value.int IntKind.u16 (0 : Int), Value.int IntKind.u16 (0 : Int), Value.int IntKind.u16 (0 : Int), Value.int IntKind.u16 (0 : Int), Value.int IntKind.u16 (0 : Int), Value.int IntKind.u16 (0 : Int), Value.int IntKind.u16 (0 : Int), Value.int IntKind.u16 (0 : Int), Value.int IntKind.u16 (0 : Int), Value.int IntKind.u16 (0 : Int), Value.int IntKind.u16 (0 : Int), Value.int IntKind.u16 (0 : Int), Value.int IntKind.u16 (0 : Int), Value.int IntKind.u16 (0 : Int), Value.int IntKind.u16 (0 : Int), Value.int IntKind.u16 (0 : Int), Value.int IntKind.u16 (0 : Int), Value.int IntKind.u16 (0 : Int), Value.int IntKind.u16 (0 : Int), Value.int IntKind.u16 (0 : Int), Value.int IntKind.u16 (0 : Int), Value.int IntKind.u16 (0 : Int)] ∧ CallKind.normal = CallKind.normal ∧ TodoOk (ren 1 [(1, 1), (2, 2)]) tA_d0 tA_d0 ∧ off = off ∧ num = num ∧ Value.slice none (0 : Nat) (0 : Nat) = Value.slice none (0 : Nat) (0 : Nat) ∧ (0 : Int) = (0 : Int) ∧ num + 1 = num + 1 ∧ (↑num : Int) = (↑num : Int) ∧ ty = ty ∧ cs = cs ∧ (4 : TypeId) = (4 : TypeId) ∧ boL (metB cs off num) (num + 1) = boL (metB cs off num) (num + 1) ∧ (68 : TypeId) = (68 : Nat) ∧ #[Value.int IntKind.u16 (0 : Int), Value.int IntKind.u16 (0 : Int), Value.int IntKind.u16 (0 : Int), Value.int IntKind.u16 (0 : Int), Value.int IntKind.u16 (0 : Int), Value.int IntKind.u16 (0 : Int), Value.int IntKind.u16 (0 : Int), Value.int IntKind.u16 (0 : Int), Value.int IntKind.u16 (0 : Int), Value.int IntKind.u16 (0 : Int), Value.int IntKind.u16 (0 : Int), Value.int IntKind.u16 (0 : Int), Value.int IntKind.u16 (0 : Int), Value.int IntKind.u16 (0 : Int), Value.int IntKind.u16 (0 : Int), Value.int IntKind.u16 (0 : Int), Value.int IntKind.u16 (0 : Int), Value.int IntKind.u16 (0 : Int), Value.int IntKind.u16 (0 : Int), Value.int IntKind.u16 (0 : Int), Value.int IntKind.u16 (0 : Int), Value.int IntKind.u16 (0 : Int), Value.int IntKind.u16 (0 : Int), Value.int IntKind.u16 (0 : Int), Value.int IntKind.u16 (0 : Int), Value.int IntKind.u16 (0 : Int), Value.int IntKind.u16 (0 : Int), Value.int IntKind.u16 (0 : Int), Value.int IntKind.u16 (0 : Int), Value.int IntKind.u16 (0 : Int), Value.int IntKind.u16 (0 : Int), Value.int IntKind.u16 (0 : Int), Value.int IntKind.u16 (0 : Int), Value.int IntKind.u16 (0 : Int), Value.int IntKind.u16 (0 : Int), Value.int IntKind.u16 (0 : Int), Value.int IntKind.u16 (0 : Int), Value.int IntKind.u16 (0 : Int), Value.int IntKind.u16 (0 : Int), Value.int IntKind.u16 (0 : Int), Value.int IntKind.u16 (0 : Int), Value.int IntKind.u16 (0 : Int), Value.int IntKind.u16 (0 : Int), Value.int IntKind.u16 (0 : Int), Value.int IntKind.u16 (0 : Int), Value.int IntKind.u16 (0 : Int), Value.int IntKind.u16 (0 : Int), Value.int IntKind.u16 (0 : Int), Value.int IntKind.u16 (0 : Int), Value.int IntKind.u16 (0 : Int), Value.int IntKind.u16 (0 : Int), Value.int IntKind.u16 (0 : Int), Value.int IntKind.u16 (0 : Int), Value.int IntKind.u16 (0 : Int), Value.int IntKind.u16 (0 : Int), Value.int IntKind.u16 (0 : Int), Value.int IntKind.u16 (0 : Int), Value.int IntKind.u16 (0 : Int), Value.int IntKind.u16 (0 : Int), Value.int IntKind.u16 (0 : Int), Value.int IntKind.u16 (0 : Int), Value.int IntKind.u16 (0 : Int), Value.int IntKind.u16 (0 : Int), Value.int IntKind.u16 (0 : Int)] = #[Value.int IntKind.u16 (0 : Int), Value.int IntKind.u16 (0 : Int), Value.int IntKind.u16 (0 : Int), Value.int IntKind.u16 (0 : Int), Value.int IntKind.u16 (0 : Int), Value.int IntKind.u16 (0 : Int), Value.int IntKind.u16 (0 : Int), Value.int IntKind.u16 (0 : Int), Value.int IntKind.u16 (0 : Int), Value.int IntKind.u16 (0 : Int), Value.int IntKind.u16 (0 : Int), Value.int IntKind.u16 (0 : Int), Value.int IntKind.u16 (0 : Int), Value.int IntKind.u16 (0 : Int), Value.int IntKind.u16 (0 : Int), Value.int IntKind.u16 (0 : Int), Value.int IntKind.u16 (0 : Int), Value.int IntKind.u16 (0 : Int), Value.int IntKind.u16 (0 : Int), Value.int IntKind.u16 (0 : Int), Value.int IntKind.u16 (0 : Int), Value.int IntKind.u16 (0 : Int), Value.int IntKind.u16 (0 : Int), Value.int IntKind.u16 (0 : Int), Value.int IntKind.u16 (0 : Int), Value.int IntKind.u16 (0 : Int), Value.int IntKind.u16 (0 : Int), Value.int IntKind.u16 (0 : Int), Value.int IntKind.u16 (0 : Int), Value.int IntKind.u16 (0 : Int), Value.int IntKind.u16 (0 : Int), Value.int IntKind.u16 (0 : Int), Value.int IntKind.u16 (0 : Int), Value.int IntKind.u16 (0 : Int), Value.int IntKind.u16 (0 : Int), Value.int IntKind.u16 (0 : Int), Value.int IntKind.u16 (0 : Int), Value.int IntKind.u16 (0 : Int), Value.int IntKind.u16 (0 : Int), Value.int IntKind.u16 (0 : Int), Value.int IntKind.u16 (0 : Int), Value.int IntKind.u16 (0 : Int), Value.int IntKind.u16 (0 : Int), Value.int IntKind.u16 (0 : Int), Value.int IntKind.u16 (0 : Int), Value.int IntKind.u16 (0 : Int), Value.int IntKind.u16 (0 : Int), Value.int IntKind.u16 (0 : Int), Value.int IntKind.u16 (0 : Int), Value.int IntKind.u16 (0 : Int), Value.int IntKind.u16 (0 : Int), Value.int IntKind.u16 (0 : Int), Value.int IntKind.u16 (0 : Int), Value.int IntKind.u16 (0 : Int), Value.int IntKind.u16 (0 : Int), Value.int IntKind.u16 (0 : Int), Value.int IntKind.u16 (0 : Int), Value.int IntKind.u16 (0 : Int), Value.int IntKind.u16 (0 : Int), Value.int IntKind.u16 (0 : Int), Value.int IntKind.u16 (0 : Int), Value.int IntKind.u16 (0 : Int), Value.int IntKind.u16 (0 : Int), Value.int IntKind.u16 (0 : Int)] ∧ True) ∧ (mayV cs off num = false → False)) := by kernel_rfl
theorem jTA_vc (off : Nat) (num : Nat) (cs : Array Value) (ty : TypeId) (kF : Nat) (rF : Array Value) (b : Int) (i : Int) (n : Nat) (bs : Array Value) (ns : Array Value) (QtB : Int → Int → Nat → Nat → Array Value → Array Value → Array Value → Prop) : (jTA_t off num cs ty kF rF b i n bs ns).vc ((trE true kF rF)) (jTA_x off num cs ty kF rF b i n bs ns QtB) =
    ((decide (i < b) = true → (((0 : Int) ≤ i ∧ i < (64 : Int)) ∧ True) ∧ ((0 : Nat) + Int.toNat i * 1 < Array.size ns ∧ True) ∧ (((0 : Int) ≤ i ∧ i < (↑n : Int)) ∧ True) ∧ (IsBool bs ((0 : Nat) + Int.toNat i * 1) ∧ True) ∧ (boolAt bs ((0 : Nat) + Int.toNat i * 1) = true → (((0 : Int) ≤ i ∧ i < (↑num : Int)) ∧ True) ∧ (IsInt IntKind.u8 cs (off + Int.toNat i * 5) ∧ IsInt IntKind.u8 cs (off + Int.toNat i * 5 + 1) ∧ IsInt IntKind.u8 cs (off + Int.toNat i * 5 + 2) ∧ IsInt IntKind.u8 cs (off + Int.toNat i * 5 + 3) ∧ IsInt IntKind.u16 cs (off + Int.toNat i * 5 + 4) ∧ True) ∧ QtB b (ari BinOp.add IntKind.i64 i (1 : Int)) n (1 : Nat) bs (Array.setIfInBounds ns ((0 : Nat) + Int.toNat i * 1) (Value.int IntKind.u16 (0 : Int))) #[Value.int IntKind.u8 (intAt cs (off + Int.toNat i * 5)), Value.int IntKind.u8 (intAt cs (off + Int.toNat i * 5 + 1)), Value.int IntKind.u8 (intAt cs (off + Int.toNat i * 5 + 2)), Value.int IntKind.u8 (intAt cs (off + Int.toNat i * 5 + 3)), Value.int IntKind.u16 (intAt cs (off + Int.toNat i * 5 + 4))] ∧ CallKind.normal = CallKind.normal ∧ TodoOk (ren 1 [(1, 1), (2, 2), (3, 4)]) tA_d0 tA_d0 ∧ off = off ∧ num = num ∧ (1 : Nat) = (1 : Nat) ∧ ari BinOp.add IntKind.i64 i (1 : Int) = ari BinOp.add IntKind.i64 i (1 : Int) ∧ n = n ∧ b = b ∧ ty = ty ∧ cs = cs ∧ (4 : TypeId) = (4 : TypeId) ∧ bs = bs ∧ (52 : TypeId) = (52 : Nat) ∧ #[Value.int IntKind.u8 (intAt cs (off + Int.toNat i * 5)), Value.int IntKind.u8 (intAt cs (off + Int.toNat i * 5 + 1)), Value.int IntKind.u8 (intAt cs (off + Int.toNat i * 5 + 2)), Value.int IntKind.u8 (intAt cs (off + Int.toNat i * 5 + 3)), Value.int IntKind.u16 (intAt cs (off + Int.toNat i * 5 + 4))] = #[Value.int IntKind.u8 (intAt cs (off + Int.toNat i * 5)), Value.int IntKind.u8 (intAt cs (off + Int.toNat i * 5 + 1)), Value.int IntKind.u8 (intAt cs (off + Int.toNat i * 5 + 2)), Value.int IntKind.u8 (intAt cs (off + Int.toNat i * 5 + 3)), Value.int IntKind.u16 (intAt cs (off + Int.toNat i * 5 + 4))] ∧ (68 : TypeId) = (68 : TypeId) ∧ Array.setIfInBounds ns ((0 : Nat) + Int.toNat i * 1) (Value.int IntKind.u16 (0 : Int)) = Array.setIfInBounds ns ((0 : Nat) + Int.toNat i * 1) (Value.int IntKind.u16 (0 : Int)) ∧ True) ∧ (boolAt bs ((0 : Nat) + Int.toNat i * 1) = false → False)) ∧ (decide (i < b) = false → False)) := by kernel_rfl
theorem jTB_vc (off : Nat) (num : Nat) (cs : Array Value) (ty : TypeId) (kF : Nat) (rF : Array Value) (b : Int) (i : Int) (n : Nat) (k : Nat) (bs : Array Value) (ns : Array Value) (ts : Array Value) (QtB : Int → Int → Nat → Nat → Array Value → Array Value → Array Value → Prop) (QtC : Int → Int → Nat → Array Value → Array Value → Prop) : (jTB_t off num cs ty kF rF b i n k bs ns ts).vc ((trE true kF rF)) (jTB_x off num cs ty kF rF b i n k bs ns ts QtB QtC) =
    ((decide (i < b) = true → (((0 : Int) ≤ i ∧ i < (64 : Int)) ∧ True) ∧ ((0 : Nat) + Int.toNat i * 1 < Array.size ns ∧ True) ∧ (((0 : Int) ≤ i ∧ i < (↑n : Int)) ∧ True) ∧ (IsBool bs ((0 : Nat) + Int.toNat i * 1) ∧ True) ∧ (boolAt bs ((0 : Nat) + Int.toNat i * 1) = true → (((0 : Int) ≤ i ∧ i < (↑num : Int)) ∧ True) ∧ (IsInt IntKind.u8 cs (off + Int.toNat i * 5) ∧ IsInt IntKind.u8 cs (off + Int.toNat i * 5 + 1) ∧ IsInt IntKind.u8 cs (off + Int.toNat i * 5 + 2) ∧ IsInt IntKind.u8 cs (off + Int.toNat i * 5 + 3) ∧ IsInt IntKind.u16 cs (off + Int.toNat i * 5 + 4) ∧ True) ∧ (((k + 1) * 6 ≤ (140737488355328 : Nat) ∧ k + 1 ≤ (140737488355328 : Nat)) ∧ k * 5 = Array.size ts ∧ True) ∧ QtB b (ari BinOp.add IntKind.i64 i (1 : Int)) n (k + 1) bs (Array.setIfInBounds ns ((0 : Nat) + Int.toNat i * 1) (Value.int IntKind.u16 (IntKind.wrap IntKind.u16 (↑k : Int)))) (ts ++ #[Value.int IntKind.u8 (intAt cs (off + Int.toNat i * 5)), Value.int IntKind.u8 (intAt cs (off + Int.toNat i * 5 + 1)), Value.int IntKind.u8 (intAt cs (off + Int.toNat i * 5 + 2)), Value.int IntKind.u8 (intAt cs (off + Int.toNat i * 5 + 3)), Value.int IntKind.u16 (intAt cs (off + Int.toNat i * 5 + 4))]) ∧ CallKind.normal = CallKind.normal ∧ TodoOk (ren 1 [(1, 1), (2, 2), (3, 5)]) tA_d0 tA_d0 ∧ off = off ∧ num = num ∧ k + 1 = k + 1 ∧ ari BinOp.add IntKind.i64 i (1 : Int) = ari BinOp.add IntKind.i64 i (1 : Int) ∧ n = n ∧ b = b ∧ ty = ty ∧ cs = cs ∧ (4 : TypeId) = (4 : TypeId) ∧ bs = bs ∧ (52 : TypeId) = (52 : Nat) ∧ ts ++ #[Value.int IntKind.u8 (intAt cs (off + Int.toNat i * 5)), Value.int IntKind.u8 (intAt cs (off + Int.toNat i * 5 + 1)), Value.int IntKind.u8 (intAt cs (off + Int.toNat i * 5 + 2)), Value.int IntKind.u8 (intAt cs (off + Int.toNat i * 5 + 3)), Value.int IntKind.u16 (intAt cs (off + Int.toNat i * 5 + 4))] = ts ++ #[Value.int IntKind.u8 (intAt cs (off + Int.toNat i * 5)), Value.int IntKind.u8 (intAt cs (off + Int.toNat i * 5 + 1)), Value.int IntKind.u8 (intAt cs (off + Int.toNat i * 5 + 2)), Value.int IntKind.u8 (intAt cs (off + Int.toNat i * 5 + 3)), Value.int IntKind.u16 (intAt cs (off + Int.toNat i * 5 + 4))] ∧ (68 : TypeId) = (68 : TypeId) ∧ Array.setIfInBounds ns ((0 : Nat) + Int.toNat i * 1) (Value.int IntKind.u16 (IntKind.wrap IntKind.u16 (↑k : Int))) = Array.setIfInBounds ns ((0 : Nat) + Int.toNat i * 1) (Value.int IntKind.u16 (IntKind.wrap IntKind.u16 (↑k : Int))) ∧ True) ∧ (boolAt bs ((0 : Nat) + Int.toNat i * 1) = false → QtB b (ari BinOp.add IntKind.i64 i (1 : Int)) n k bs (Array.setIfInBounds ns ((0 : Nat) + Int.toNat i * 1) (Value.int IntKind.u16 (IntKind.wrap IntKind.u16 (↑k : Int)))) ts ∧ CallKind.normal = CallKind.normal ∧ TodoOk (ren 1 [(1, 1), (2, 2), (3, 3)]) tA_d0 tA_d0 ∧ off = off ∧ num = num ∧ k = k ∧ ari BinOp.add IntKind.i64 i (1 : Int) = ari BinOp.add IntKind.i64 i (1 : Int) ∧ n = n ∧ b = b ∧ ty = ty ∧ cs = cs ∧ (4 : TypeId) = (4 : TypeId) ∧ bs = bs ∧ (52 : TypeId) = (52 : TypeId) ∧ ts = ts ∧ (68 : TypeId) = (68 : TypeId) ∧ Array.setIfInBounds ns ((0 : Nat) + Int.toNat i * 1) (Value.int IntKind.u16 (IntKind.wrap IntKind.u16 (↑k : Int))) = Array.setIfInBounds ns ((0 : Nat) + Int.toNat i * 1) (Value.int IntKind.u16 (IntKind.wrap IntKind.u16 (↑k : Int))) ∧ True)) ∧ (decide (i < b) = false → QtC (↑k : Int) (0 : Int) k ns ts ∧ CallKind.normal = CallKind.normal ∧ TodoOk (ren 1 [(1, 2), (2, 3)]) tC_d0 tC_d0 ∧ k = k ∧ (0 : Int) = (0 : Int) ∧ (↑k : Int) = (↑k : Int) ∧ ty = ty ∧ cs = cs ∧ (68 : TypeId) = (68 : TypeId) ∧ ns = ns ∧ (52 : TypeId) = (52 : TypeId) ∧ ts = ts ∧ True)) := by kernel_rfl
theorem jTC_vc (off : Nat) (num : Nat) (cs : Array Value) (ty : TypeId) (kF : Nat) (rF : Array Value) (b : Int) (i : Int) (k : Nat) (ns : Array Value) (ts : Array Value) (QtC : Int → Int → Nat → Array Value → Array Value → Prop) : (jTC_t off num cs ty kF rF b i k ns ts).vc ((trE true kF rF)) (jTC_x off num cs ty kF rF b i k ns ts QtC) =
    ((decide (i < b) = true → (((0 : Int) ≤ i ∧ i < (↑k : Int)) ∧ True) ∧ (IsInt IntKind.u8 ts ((0 : Nat) + Int.toNat i * 5) ∧ True) ∧ (((intAt ts ((0 : Nat) + Int.toNat i * 5) == (5 : Int)) == false) = true → (IsInt IntKind.u8 ts ((0 : Nat) + Int.toNat i * 5) ∧ True) ∧ ((intAt ts ((0 : Nat) + Int.toNat i * 5) == (6 : Int)) = true → (IsInt IntKind.u16 ts ((0 : Nat) + Int.toNat i * 5 + 4) ∧ True) ∧ (((0 : Int) ≤ intAt ts ((0 : Nat) + Int.toNat i * 5 + 4) ∧ intAt ts ((0 : Nat) + Int.toNat i * 5 + 4) < (64 : Int)) ∧ True) ∧ (IsInt IntKind.u16 ns ((0 : Nat) + Int.toNat (intAt ts ((0 : Nat) + Int.toNat i * 5 + 4)) * 1) ∧ True) ∧ ((0 : Nat) + Int.toNat i * 5 + 4 < Array.size ts ∧ True) ∧ QtC b (ari BinOp.add IntKind.i64 i (1 : Int)) k ns (Array.setIfInBounds ts ((0 : Nat) + Int.toNat i * 5 + 4) (Value.int IntKind.u16 (intAt ns ((0 : Nat) + Int.toNat (intAt ts ((0 : Nat) + Int.toNat i * 5 + 4)) * 1)))) ∧ CallKind.normal = CallKind.normal ∧ TodoOk (ren 1 [(1, 1), (2, 2)]) tC_d0 tC_d0 ∧ k = k ∧ ari BinOp.add IntKind.i64 i (1 : Int) = ari BinOp.add IntKind.i64 i (1 : Int) ∧ b = b ∧ ty = ty ∧ cs = cs ∧ (68 : TypeId) = (68 : TypeId) ∧ ns = ns ∧ (52 : TypeId) = (52 : TypeId) ∧ Array.setIfInBounds ts ((0 : Nat) + Int.toNat i * 5 + 4) (Value.int IntKind.u16 (intAt ns ((0 : Nat) + Int.toNat (intAt ts ((0 : Nat) + Int.toNat i * 5 + 4)) * 1))) = Array.setIfInBounds ts ((0 : Nat) + Int.toNat i * 5 + 4) (Value.int IntKind.u16 (intAt ns ((0 : Nat) + Int.toNat (intAt ts ((0 : Nat) + Int.toNat i * 5 + 4)) * 1))) ∧ True) ∧ ((intAt ts ((0 : Nat) + Int.toNat i * 5) == (6 : Int)) = false → QtC b (ari BinOp.add IntKind.i64 i (1 : Int)) k ns ts ∧ CallKind.normal = CallKind.normal ∧ TodoOk (ren 1 [(1, 1), (2, 2)]) tC_d0 tC_d0 ∧ k = k ∧ ari BinOp.add IntKind.i64 i (1 : Int) = ari BinOp.add IntKind.i64 i (1 : Int) ∧ b = b ∧ ty = ty ∧ cs = cs ∧ (68 : TypeId) = (68 : TypeId) ∧ ns = ns ∧ (52 : TypeId) = (52 : TypeId) ∧ ts = ts ∧ True)) ∧ (((intAt ts ((0 : Nat) + Int.toNat i * 5) == (5 : Int)) == false) = false → (IsInt IntKind.u16 ts ((0 : Nat) + Int.toNat i * 5 + 4) ∧ True) ∧ (((0 : Int) ≤ intAt ts ((0 : Nat) + Int.toNat i * 5 + 4) ∧ intAt ts ((0 : Nat) + Int.toNat i * 5 + 4) < (64 : Int)) ∧ True) ∧ (IsInt IntKind.u16 ns ((0 : Nat) + Int.toNat (intAt ts ((0 : Nat) + Int.toNat i * 5 + 4)) * 1) ∧ True) ∧ ((0 : Nat) + Int.toNat i * 5 + 4 < Array.size ts ∧ True) ∧ QtC b (ari BinOp.add IntKind.i64 i (1 : Int)) k ns (Array.setIfInBounds ts ((0 : Nat) + Int.toNat i * 5 + 4) (Value.int IntKind.u16 (intAt ns ((0 : Nat) + Int.toNat (intAt ts ((0 : Nat) + Int.toNat i * 5 + 4)) * 1)))) ∧ CallKind.normal = CallKind.normal ∧ TodoOk (ren 1 [(1, 1), (2, 2)]) tC_d0 tC_d0 ∧ k = k ∧ ari BinOp.add IntKind.i64 i (1 : Int) = ari BinOp.add IntKind.i64 i (1 : Int) ∧ b = b ∧ ty = ty ∧ cs = cs ∧ (68 : TypeId) = (68 : TypeId) ∧ ns = ns ∧ (52 : TypeId) = (52 : TypeId) ∧ Array.setIfInBounds ts ((0 : Nat) + Int.toNat i * 5 + 4) (Value.int IntKind.u16 (intAt ns ((0 : Nat) + Int.toNat (intAt ts ((0 : Nat) + Int.toNat i * 5 + 4)) * 1))) = Array.setIfInBounds ts ((0 : Nat) + Int.toNat i * 5 + 4) (Value.int IntKind.u16 (intAt ns ((0 : Nat) + Int.toNat (intAt ts ((0 : Nat) + Int.toNat i * 5 + 4)) * 1))) ∧ True)) ∧ (decide (i < b) = false → kF = k ∧ (52 : TypeId) = (52 : TypeId) ∧ rF = ts ∧ True)) := by kernel_rfl
theorem sU_vc (off : Nat) (num : Nat) (cs : Array Value) (ty : TypeId) (kF : Nat) (rF : Array Value) (QuA : Int → Nat → Array Value → Prop) : (sU_t off num cs ty kF rF).vc ((reE kF rF)) (sU_x off num cs ty kF rF QuA) =
    ((RowOk cs off num ∧ num ≤ (64 : Nat) ∧ True) ∧ QuA (0 : Int) (num + 1) (boL (rchB cs off num) (num + 1)) ∧ CallKind.normal = CallKind.normal ∧ TodoOk (ren 1 [(1, 1)]) uA_d0 uA_d0 ∧ off = off ∧ num = num ∧ num + 1 = num + 1 ∧ (0 : Int) = (0 : Int) ∧ Value.slice none (0 : Nat) (0 : Nat) = Value.slice none (0 : Nat) (0 : Nat) ∧ ty = ty ∧ cs = cs ∧ (4 : TypeId) = (4 : TypeId) ∧ boL (rchB cs off num) (num + 1) = boL (rchB cs off num) (num + 1) ∧ True) := by kernel_rfl
theorem jUA_vc (off : Nat) (num : Nat) (cs : Array Value) (ty : TypeId) (kF : Nat) (rF : Array Value) (i : Int) (n : Nat) (bs : Array Value) (QvA : Int → Nat → Int → Int → Int → Int → Int → Int → Int → Array Value → Prop) (QuB : Int → Nat → Nat → Array Value → Array Value → Prop) : (jUA_t off num cs ty kF rF i n bs).vc ((reE kF rF)) (jUA_x off num cs ty kF rF i n bs QvA QuB) =
    ((decide (i < (↑num : Int)) = true → (((0 : Int) ≤ i ∧ i < (↑n : Int)) ∧ True) ∧ (IsBool bs ((0 : Nat) + Int.toNat i * 1) ∧ True) ∧ ((!boolAt bs ((0 : Nat) + Int.toNat i * 1)) = true → False) ∧ ((!boolAt bs ((0 : Nat) + Int.toNat i * 1)) = false → (((0 : Int) ≤ i ∧ i < (↑num : Int)) ∧ True) ∧ (IsInt IntKind.i64 cs (off + Int.toNat i * 5) ∧ IsInt IntKind.i64 cs (off + Int.toNat i * 5 + 1) ∧ IsInt IntKind.i64 cs (off + Int.toNat i * 5 + 2) ∧ IsInt IntKind.i64 cs (off + Int.toNat i * 5 + 3) ∧ IsInt IntKind.i64 cs (off + Int.toNat i * 5 + 4) ∧ True) ∧ (((intAt cs (off + Int.toNat i * 5) == (5 : Int)) == false) = true → ((intAt cs (off + Int.toNat i * 5) == (6 : Int)) = true → QvA i n (0 : Int) (0 : Int) (intAt cs (off + Int.toNat i * 5)) (intAt cs (off + Int.toNat i * 5 + 1)) (intAt cs (off + Int.toNat i * 5 + 2)) (intAt cs (off + Int.toNat i * 5 + 3)) (intAt cs (off + Int.toNat i * 5 + 4)) bs ∧ CallKind.normal = CallKind.normal ∧ TodoOk (ren 1 [(1, 1), (2, 2)]) vA_d0 vA_d0 ∧ off = off ∧ num = num ∧ n = n ∧ (0 : Int) = (0 : Int) ∧ i = i ∧ Value.slice none (0 : Nat) (0 : Nat) = Value.slice none (0 : Nat) (0 : Nat) ∧ (0 : Int) = (0 : Int) ∧ ty = ty ∧ cs = cs ∧ (4 : TypeId) = (4 : TypeId) ∧ bs = bs ∧ (46 : TypeId) = (46 : Nat) ∧ intAt cs (off + Int.toNat i * 5) = intAt cs (off + Int.toNat i * 5) ∧ intAt cs (off + Int.toNat i * 5 + 1) = intAt cs (off + Int.toNat i * 5 + 1) ∧ intAt cs (off + Int.toNat i * 5 + 2) = intAt cs (off + Int.toNat i * 5 + 2) ∧ intAt cs (off + Int.toNat i * 5 + 3) = intAt cs (off + Int.toNat i * 5 + 3) ∧ intAt cs (off + Int.toNat i * 5 + 4) = intAt cs (off + Int.toNat i * 5 + 4) ∧ True) ∧ ((intAt cs (off + Int.toNat i * 5) == (6 : Int)) = false → QuB (ari BinOp.add IntKind.i64 i (1 : Int)) n (1 : Nat) bs #[Value.int IntKind.i64 (intAt cs (off + Int.toNat i * 5)), Value.int IntKind.i64 (intAt cs (off + Int.toNat i * 5 + 1)), Value.int IntKind.i64 (intAt cs (off + Int.toNat i * 5 + 2)), Value.int IntKind.i64 (intAt cs (off + Int.toNat i * 5 + 3)), Value.int IntKind.i64 (intAt cs (off + Int.toNat i * 5 + 4))] ∧ CallKind.normal = CallKind.normal ∧ TodoOk (ren 1 [(1, 1), (2, 4)]) uA_d0 uA_d0 ∧ off = off ∧ num = num ∧ n = n ∧ ari BinOp.add IntKind.i64 i (1 : Int) = ari BinOp.add IntKind.i64 i (1 : Int) ∧ (1 : Nat) = (1 : Nat) ∧ ty = ty ∧ cs = cs ∧ (4 : TypeId) = (4 : TypeId) ∧ bs = bs ∧ (46 : TypeId) = (46 : Nat) ∧ #[Value.int IntKind.i64 (intAt cs (off + Int.toNat i * 5)), Value.int IntKind.i64 (intAt cs (off + Int.toNat i * 5 + 1)), Value.int IntKind.i64 (intAt cs (off + Int.toNat i * 5 + 2)), Value.int IntKind.i64 (intAt cs (off + Int.toNat i * 5 + 3)), Value.int IntKind.i64 (intAt cs (off + Int.toNat i * 5 + 4))] = #[Value.int IntKind.i64 (intAt cs (off + Int.toNat i * 5)), Value.int IntKind.i64 (intAt cs (off + Int.toNat i * 5 + 1)), Value.int IntKind.i64 (intAt cs (off + Int.toNat i * 5 + 2)), Value.int IntKind.i64 (intAt cs (off + Int.toNat i * 5 + 3)), Value.int IntKind.i64 (intAt cs (off + Int.toNat i * 5 + 4))] ∧ True)) ∧ (((intAt cs (off + Int.toNat i * 5) == (5 : Int)) == false) = false → QvA i n (0 : Int) (0 : Int) (intAt cs (off + Int.toNat i * 5)) (intAt cs (off + Int.toNat i * 5 + 1)) (intAt cs (off + Int.toNat i * 5 + 2)) (intAt cs (off + Int.toNat i * 5 + 3)) (intAt cs (off + Int.toNat i * 5 + 4)) bs ∧ CallKind.normal = CallKind.normal ∧ TodoOk (ren 1 [(1, 1), (2, 2)]) vA_d0 vA_d0 ∧ off = off ∧ num = num ∧ n = n ∧ (0 : Int) = (0 : Int) ∧ i = i ∧ Value.slice none (0 : Nat) (0 : Nat) = Value.slice none (0 : Nat) (0 : Nat) ∧ (0 : Int) = (0 : Int) ∧ ty = ty ∧ cs = cs ∧ (4 : TypeId) = (4 : TypeId) ∧ bs = bs ∧ (46 : TypeId) = (46 : Nat) ∧ intAt cs (off + Int.toNat i * 5) = intAt cs (off + Int.toNat i * 5) ∧ intAt cs (off + Int.toNat i * 5 + 1) = intAt cs (off + Int.toNat i * 5 + 1) ∧ intAt cs (off + Int.toNat i * 5 + 2) = intAt cs (off + Int.toNat i * 5 + 2) ∧ intAt cs (off + Int.toNat i * 5 + 3) = intAt cs (off + Int.toNat i * 5 + 3) ∧ intAt cs (off + Int.toNat i * 5 + 4) = intAt cs (off + Int.toNat i * 5 + 4) ∧ True))) ∧ (decide (i < (↑num : Int)) = false → False)) := by kernel_rfl
theorem jUB_vc (off : Nat) (num : Nat) (cs : Array Value) (ty : TypeId) (kF : Nat) (rF : Array Value) (i : Int) (n : Nat) (k : Nat) (bs : Array Value) (ts : Array Value) (QvB : Int → Nat → Nat → Int → Int → Int → Int → Int → Int → Int → Array Value → Array Value → Prop) (QuB : Int → Nat → Nat → Array Value → Array Value → Prop) : (jUB_t off num cs ty kF rF i n k bs ts).vc ((reE kF rF)) (jUB_x off num cs ty kF rF i n k bs ts QvB QuB) =
    ((decide (i < (↑num : Int)) = true → (((0 : Int) ≤ i ∧ i < (↑n : Int)) ∧ True) ∧ (IsBool bs ((0 : Nat) + Int.toNat i * 1) ∧ True) ∧ ((!boolAt bs ((0 : Nat) + Int.toNat i * 1)) = true → QuB (ari BinOp.add IntKind.i64 i (1 : Int)) n k bs ts ∧ CallKind.normal = CallKind.normal ∧ TodoOk (ren 1 [(1, 1), (2, 2)]) uA_d0 uA_d0 ∧ off = off ∧ num = num ∧ n = n ∧ ari BinOp.add IntKind.i64 i (1 : Int) = ari BinOp.add IntKind.i64 i (1 : Int) ∧ k = k ∧ ty = ty ∧ cs = cs ∧ (4 : TypeId) = (4 : TypeId) ∧ bs = bs ∧ (46 : TypeId) = (46 : TypeId) ∧ ts = ts ∧ True) ∧ ((!boolAt bs ((0 : Nat) + Int.toNat i * 1)) = false → (((0 : Int) ≤ i ∧ i < (↑num : Int)) ∧ True) ∧ (IsInt IntKind.i64 cs (off + Int.toNat i * 5) ∧ IsInt IntKind.i64 cs (off + Int.toNat i * 5 + 1) ∧ IsInt IntKind.i64 cs (off + Int.toNat i * 5 + 2) ∧ IsInt IntKind.i64 cs (off + Int.toNat i * 5 + 3) ∧ IsInt IntKind.i64 cs (off + Int.toNat i * 5 + 4) ∧ True) ∧ (((intAt cs (off + Int.toNat i * 5) == (5 : Int)) == false) = true → ((intAt cs (off + Int.toNat i * 5) == (6 : Int)) = true → QvB i n k (0 : Int) (0 : Int) (intAt cs (off + Int.toNat i * 5)) (intAt cs (off + Int.toNat i * 5 + 1)) (intAt cs (off + Int.toNat i * 5 + 2)) (intAt cs (off + Int.toNat i * 5 + 3)) (intAt cs (off + Int.toNat i * 5 + 4)) bs ts ∧ CallKind.normal = CallKind.normal ∧ TodoOk (ren 1 [(1, 1), (2, 3), (3, 2)]) vA_d0 vA_d0 ∧ off = off ∧ num = num ∧ n = n ∧ (0 : Int) = (0 : Int) ∧ i = i ∧ k = k ∧ (0 : Int) = (0 : Int) ∧ ty = ty ∧ cs = cs ∧ (4 : TypeId) = (4 : TypeId) ∧ bs = bs ∧ (46 : TypeId) = (46 : TypeId) ∧ ts = ts ∧ (46 : TypeId) = (46 : Nat) ∧ intAt cs (off + Int.toNat i * 5) = intAt cs (off + Int.toNat i * 5) ∧ intAt cs (off + Int.toNat i * 5 + 1) = intAt cs (off + Int.toNat i * 5 + 1) ∧ intAt cs (off + Int.toNat i * 5 + 2) = intAt cs (off + Int.toNat i * 5 + 2) ∧ intAt cs (off + Int.toNat i * 5 + 3) = intAt cs (off + Int.toNat i * 5 + 3) ∧ intAt cs (off + Int.toNat i * 5 + 4) = intAt cs (off + Int.toNat i * 5 + 4) ∧ True) ∧ ((intAt cs (off + Int.toNat i * 5) == (6 : Int)) = false → (((k + 1) * 40 ≤ (140737488355328 : Nat) ∧ k + 1 ≤ (140737488355328 : Nat)) ∧ k * 5 = Array.size ts ∧ True) ∧ QuB (ari BinOp.add IntKind.i64 i (1 : Int)) n (k + 1) bs (ts ++ #[Value.int IntKind.i64 (intAt cs (off + Int.toNat i * 5)), Value.int IntKind.i64 (intAt cs (off + Int.toNat i * 5 + 1)), Value.int IntKind.i64 (intAt cs (off + Int.toNat i * 5 + 2)), Value.int IntKind.i64 (intAt cs (off + Int.toNat i * 5 + 3)), Value.int IntKind.i64 (intAt cs (off + Int.toNat i * 5 + 4))]) ∧ CallKind.normal = CallKind.normal ∧ TodoOk (ren 1 [(1, 1), (2, 5)]) uA_d0 uA_d0 ∧ off = off ∧ num = num ∧ n = n ∧ ari BinOp.add IntKind.i64 i (1 : Int) = ari BinOp.add IntKind.i64 i (1 : Int) ∧ k + 1 = k + 1 ∧ ty = ty ∧ cs = cs ∧ (4 : TypeId) = (4 : TypeId) ∧ bs = bs ∧ (46 : TypeId) = (46 : Nat) ∧ ts ++ #[Value.int IntKind.i64 (intAt cs (off + Int.toNat i * 5)), Value.int IntKind.i64 (intAt cs (off + Int.toNat i * 5 + 1)), Value.int IntKind.i64 (intAt cs (off + Int.toNat i * 5 + 2)), Value.int IntKind.i64 (intAt cs (off + Int.toNat i * 5 + 3)), Value.int IntKind.i64 (intAt cs (off + Int.toNat i * 5 + 4))] = ts ++ #[Value.int IntKind.i64 (intAt cs (off + Int.toNat i * 5)), Value.int IntKind.i64 (intAt cs (off + Int.toNat i * 5 + 1)), Value.int IntKind.i64 (intAt cs (off + Int.toNat i * 5 + 2)), Value.int IntKind.i64 (intAt cs (off + Int.toNat i * 5 + 3)), Value.int IntKind.i64 (intAt cs (off + Int.toNat i * 5 + 4))] ∧ True)) ∧ (((intAt cs (off + Int.toNat i * 5) == (5 : Int)) == false) = false → QvB i n k (0 : Int) (0 : Int) (intAt cs (off + Int.toNat i * 5)) (intAt cs (off + Int.toNat i * 5 + 1)) (intAt cs (off + Int.toNat i * 5 + 2)) (intAt cs (off + Int.toNat i * 5 + 3)) (intAt cs (off + Int.toNat i * 5 + 4)) bs ts ∧ CallKind.normal = CallKind.normal ∧ TodoOk (ren 1 [(1, 1), (2, 3), (3, 2)]) vA_d0 vA_d0 ∧ off = off ∧ num = num ∧ n = n ∧ (0 : Int) = (0 : Int) ∧ i = i ∧ k = k ∧ (0 : Int) = (0 : Int) ∧ ty = ty ∧ cs = cs ∧ (4 : TypeId) = (4 : TypeId) ∧ bs = bs ∧ (46 : TypeId) = (46 : TypeId) ∧ ts = ts ∧ (46 : TypeId) = (46 : Nat) ∧ intAt cs (off + Int.toNat i * 5) = intAt cs (off + Int.toNat i * 5) ∧ intAt cs (off + Int.toNat i * 5 + 1) = intAt cs (off + Int.toNat i * 5 + 1) ∧ intAt cs (off + Int.toNat i * 5 + 2) = intAt cs (off + Int.toNat i * 5 + 2) ∧ intAt cs (off + Int.toNat i * 5 + 3) = intAt cs (off + Int.toNat i * 5 + 3) ∧ intAt cs (off + Int.toNat i * 5 + 4) = intAt cs (off + Int.toNat i * 5 + 4) ∧ True))) ∧ (decide (i < (↑num : Int)) = false → kF = k ∧ (46 : TypeId) = (46 : TypeId) ∧ rF = ts ∧ True)) := by kernel_rfl
theorem jUC_vc (off : Nat) (num : Nat) (cs : Array Value) (ty : TypeId) (kF : Nat) (rF : Array Value) (i : Int) (n : Nat) (c : Int) (j : Int) (xo : Int) (xa : Int) (xb : Int) (xc : Int) (xn : Int) (bs : Array Value) (QvA : Int → Nat → Int → Int → Int → Int → Int → Int → Int → Array Value → Prop) (QuB : Int → Nat → Nat → Array Value → Array Value → Prop) : (jUC_t off num cs ty kF rF i n c j xo xa xb xc xn bs).vc ((reE kF rF)) (jUC_x off num cs ty kF rF i n c j xo xa xb xc xn bs QvA QuB) =
    ((decide (j < xn) = true → (((0 : Int) ≤ j ∧ j < (↑n : Int)) ∧ True) ∧ (IsBool bs ((0 : Nat) + Int.toNat j * 1) ∧ True) ∧ (boolAt bs ((0 : Nat) + Int.toNat j * 1) = true → QvA i n (ari BinOp.add IntKind.i64 c (1 : Int)) (ari BinOp.add IntKind.i64 j (1 : Int)) xo xa xb xc xn bs ∧ CallKind.normal = CallKind.normal ∧ TodoOk (ren 1 [(1, 1), (2, 2)]) vA_d0 vA_d0 ∧ off = off ∧ num = num ∧ n = n ∧ ari BinOp.add IntKind.i64 c (1 : Int) = ari BinOp.add IntKind.i64 c (1 : Int) ∧ i = i ∧ Value.slice none (0 : Nat) (0 : Nat) = Value.slice none (0 : Nat) (0 : Nat) ∧ ari BinOp.add IntKind.i64 j (1 : Int) = ari BinOp.add IntKind.i64 j (1 : Int) ∧ ty = ty ∧ cs = cs ∧ (4 : TypeId) = (4 : TypeId) ∧ bs = bs ∧ (46 : TypeId) = (46 : TypeId) ∧ xo = xo ∧ xa = xa ∧ xb = xb ∧ xc = xc ∧ xn = xn ∧ True) ∧ (boolAt bs ((0 : Nat) + Int.toNat j * 1) = false → QvA i n c (ari BinOp.add IntKind.i64 j (1 : Int)) xo xa xb xc xn bs ∧ CallKind.normal = CallKind.normal ∧ TodoOk (ren 1 [(1, 1), (2, 2)]) vA_d0 vA_d0 ∧ off = off ∧ num = num ∧ n = n ∧ c = c ∧ i = i ∧ Value.slice none (0 : Nat) (0 : Nat) = Value.slice none (0 : Nat) (0 : Nat) ∧ ari BinOp.add IntKind.i64 j (1 : Int) = ari BinOp.add IntKind.i64 j (1 : Int) ∧ ty = ty ∧ cs = cs ∧ (4 : TypeId) = (4 : TypeId) ∧ bs = bs ∧ (46 : TypeId) = (46 : TypeId) ∧ xo = xo ∧ xa = xa ∧ xb = xb ∧ xc = xc ∧ xn = xn ∧ True)) ∧ (decide (j < xn) = false → QuB (ari BinOp.add IntKind.i64 i (1 : Int)) n (1 : Nat) bs #[Value.int IntKind.i64 xo, Value.int IntKind.i64 xa, Value.int IntKind.i64 xb, Value.int IntKind.i64 xc, Value.int IntKind.i64 c] ∧ CallKind.normal = CallKind.normal ∧ TodoOk (ren 1 [(1, 1), (2, 4)]) uA_d0 uA_d0 ∧ off = off ∧ num = num ∧ n = n ∧ ari BinOp.add IntKind.i64 i (1 : Int) = ari BinOp.add IntKind.i64 i (1 : Int) ∧ (1 : Nat) = (1 : Nat) ∧ ty = ty ∧ cs = cs ∧ (4 : TypeId) = (4 : TypeId) ∧ bs = bs ∧ (46 : TypeId) = (46 : Nat) ∧ #[Value.int IntKind.i64 xo, Value.int IntKind.i64 xa, Value.int IntKind.i64 xb, Value.int IntKind.i64 xc, Value.int IntKind.i64 c] = #[Value.int IntKind.i64 xo, Value.int IntKind.i64 xa, Value.int IntKind.i64 xb, Value.int IntKind.i64 xc, Value.int IntKind.i64 c] ∧ True)) := by kernel_rfl
theorem jUD_vc (off : Nat) (num : Nat) (cs : Array Value) (ty : TypeId) (kF : Nat) (rF : Array Value) (i : Int) (n : Nat) (k : Nat) (c : Int) (j : Int) (xo : Int) (xa : Int) (xb : Int) (xc : Int) (xn : Int) (bs : Array Value) (ts : Array Value) (QvB : Int → Nat → Nat → Int → Int → Int → Int → Int → Int → Int → Array Value → Array Value → Prop) (QuB : Int → Nat → Nat → Array Value → Array Value → Prop) : (jUD_t off num cs ty kF rF i n k c j xo xa xb xc xn bs ts).vc ((reE kF rF)) (jUD_x off num cs ty kF rF i n k c j xo xa xb xc xn bs ts QvB QuB) =
    ((decide (j < xn) = true → (((0 : Int) ≤ j ∧ j < (↑n : Int)) ∧ True) ∧ (IsBool bs ((0 : Nat) + Int.toNat j * 1) ∧ True) ∧ (boolAt bs ((0 : Nat) + Int.toNat j * 1) = true → QvB i n k (ari BinOp.add IntKind.i64 c (1 : Int)) (ari BinOp.add IntKind.i64 j (1 : Int)) xo xa xb xc xn bs ts ∧ CallKind.normal = CallKind.normal ∧ TodoOk (ren 1 [(1, 1), (2, 2), (3, 3)]) vA_d0 vA_d0 ∧ off = off ∧ num = num ∧ n = n ∧ ari BinOp.add IntKind.i64 c (1 : Int) = ari BinOp.add IntKind.i64 c (1 : Int) ∧ i = i ∧ k = k ∧ ari BinOp.add IntKind.i64 j (1 : Int) = ari BinOp.add IntKind.i64 j (1 : Int) ∧ ty = ty ∧ cs = cs ∧ (4 : TypeId) = (4 : TypeId) ∧ bs = bs ∧ (46 : TypeId) = (46 : TypeId) ∧ ts = ts ∧ (46 : TypeId) = (46 : TypeId) ∧ xo = xo ∧ xa = xa ∧ xb = xb ∧ xc = xc ∧ xn = xn ∧ True) ∧ (boolAt bs ((0 : Nat) + Int.toNat j * 1) = false → QvB i n k c (ari BinOp.add IntKind.i64 j (1 : Int)) xo xa xb xc xn bs ts ∧ CallKind.normal = CallKind.normal ∧ TodoOk (ren 1 [(1, 1), (2, 2), (3, 3)]) vA_d0 vA_d0 ∧ off = off ∧ num = num ∧ n = n ∧ c = c ∧ i = i ∧ k = k ∧ ari BinOp.add IntKind.i64 j (1 : Int) = ari BinOp.add IntKind.i64 j (1 : Int) ∧ ty = ty ∧ cs = cs ∧ (4 : TypeId) = (4 : TypeId) ∧ bs = bs ∧ (46 : TypeId) = (46 : TypeId) ∧ ts = ts ∧ (46 : TypeId) = (46 : TypeId) ∧ xo = xo ∧ xa = xa ∧ xb = xb ∧ xc = xc ∧ xn = xn ∧ True)) ∧ (decide (j < xn) = false → (((k + 1) * 40 ≤ (140737488355328 : Nat) ∧ k + 1 ≤ (140737488355328 : Nat)) ∧ k * 5 = Array.size ts ∧ True) ∧ QuB (ari BinOp.add IntKind.i64 i (1 : Int)) n (k + 1) bs (ts ++ #[Value.int IntKind.i64 xo, Value.int IntKind.i64 xa, Value.int IntKind.i64 xb, Value.int IntKind.i64 xc, Value.int IntKind.i64 c]) ∧ CallKind.normal = CallKind.normal ∧ TodoOk (ren 1 [(1, 1), (2, 5)]) uA_d0 uA_d0 ∧ off = off ∧ num = num ∧ n = n ∧ ari BinOp.add IntKind.i64 i (1 : Int) = ari BinOp.add IntKind.i64 i (1 : Int) ∧ k + 1 = k + 1 ∧ ty = ty ∧ cs = cs ∧ (4 : TypeId) = (4 : TypeId) ∧ bs = bs ∧ (46 : TypeId) = (46 : Nat) ∧ ts ++ #[Value.int IntKind.i64 xo, Value.int IntKind.i64 xa, Value.int IntKind.i64 xb, Value.int IntKind.i64 xc, Value.int IntKind.i64 c] = ts ++ #[Value.int IntKind.i64 xo, Value.int IntKind.i64 xa, Value.int IntKind.i64 xb, Value.int IntKind.i64 xc, Value.int IntKind.i64 c] ∧ True)) := by kernel_rfl
end Go.Proofs.Ytebkbihhnoellaa
/- Of flow: Trim. No condition. -/
namespace Go.Proofs.Ytebkbihhnoellaa
set_option linter.unusedSectionVars false
set_option maxRecDepth 100000
theorem ET_ok : EnvOk ET := EnvOk.with E0_ok _ _ conE_ok
def fiveI (x : Ins) : List Value := [.int .u8 x.o, .int .u8 x.a, .int .u8 x.b, .int .u8 x.c, .int .u16 x.n]
/-- An instruction, its place told by how many are left ahead of it. -/
def trimI (f : Nat → Bool) (x : Ins) : Ins := if x.o = 5 ∨ x.o = 6 then ⟨x.o, x.a, x.b, x.c, (cnt f x.n.toNat : Int)⟩ else x
/-- What is left of a program. -/
def trR (cs : Array Value) (off num : Nat) : Array Value := (grow (metB cs off num) (fun j => fiveI (trimI (metB cs off num) (ins cs off j))) num).toArray
def NsOk (f : Nat → Bool) (ns : Array Value) (i : Nat) : Prop := ns.size = 64 ∧ ∀ j, j < i → ns[j]? = some (.int .u16 (cnt f j : Int))
def MidOk (cs : Array Value) (off num : Nat) (f : Nat → Bool) (i : Nat) (ts : Array Value) : Prop := ts.size = cnt f num * 5 ∧ ∀ j, j < num → f j = true → ∀ t, t < 5 → ts[cnt f j * 5 + t]? = (fiveI (if cnt f j < i then trimI f (ins cs off j) else ins cs off j))[t]?
theorem bo_at (f : Nat → Bool) {n i : Nat} (h : i < n) : IsBool (boL f n) (0 + i * 1) ∧ boolAt (boL f n) (0 + i * 1) = f i := ⟨isBo_of (boL_get f h), boolAt_of (boL_get f h)⟩
theorem trimI_in {f : Nat → Bool} {x : Ins} (h : x.In) : (trimI f x).In := by
  unfold trimI
  split
  · obtain ⟨a, b, c, d, e⟩ := h
    have := cnt_le f x.n.toNat
    exact ⟨a, b, c, d, by dsimp only; omega⟩
  · exact h
section
variable (off num : Nat) (cs : Array Value) (ty : TypeId) (hI : InsOk cs off num) (hM : mayV cs off num = true) (h0 : num ≠ 0)
include hI hM h0
theorem met0 : metB cs off num 0 = true := (frW_iff hI hM (Nat.zero_le _) 0).2 (.refl (by decide))
theorem tC_round {ns : Array Value} (hns : NsOk (metB cs off num) ns num) : ∀ (K i : Nat) (ts : Array Value), cnt (metB cs off num) num - i < K → i ≤ cnt (metB cs off num) num → MidOk cs off num (metB cs off num) i ts →
    Good Try.prog (trE true (cnt (metB cs off num) num) (trR cs off num)) 1 (tC_F off num cs ty (cnt (metB cs off num) num) (trR cs off num) (cnt (metB cs off num) num : Nat) i (cnt (metB cs off num) num) ns ts) (tC_M off num cs ty (cnt (metB cs off num) num) (trR cs off num) (cnt (metB cs off num) num : Nat) i (cnt (metB cs off num) num) ns ts) := by
  obtain ⟨n64, hA⟩ := mayV_iff.1 hM
  have hcn := cnt_le (metB cs off num) num
  intro K
  induction K with
  | zero => intro i ts h; omega
  | succ K ih =>
    intro i ts hK hi hm
    generalize hf : metB cs off num = f at *
    refine past_vc ET_ok 1000 (jTC_vc off num cs ty (cnt f num) (trR cs off num) (cnt f num : Nat) i (cnt f num) ns ts (fun b' i' k' ns' ts' => b' = (cnt f num : Nat) ∧ i' = (i + 1 : Nat) ∧ k' = cnt f num ∧ ns' = ns ∧ i < cnt f num ∧ MidOk cs off num f (i + 1) ts')) ?_ (fun _ _ h => h)
      (fun fs m hb => jTC_go (fun b' i' k' ns' ts' h => ?_) hb)
    · rw [i64_add1 (show i < 1000 by omega), Int.toNat_natCast]
      obtain ⟨ms, mc⟩ := hm
      by_cases d : i < cnt f num
      · have e1 : decide ((i : Int) < ((cnt f num : Nat) : Int)) = true := decide_eq_true (by omega)
        obtain ⟨j, hj, hfj, hc⟩ := cnt_sur d
        obtain ⟨_, r1, r2, r3, r4, r5⟩ := hI.2 j hj
        obtain ⟨_, _, _, _, k5⟩ := Ins.okN_iff.1 (hA j hj)
        have mj := mc j hj hfj
        rw [hc, if_neg (by omega)] at mj
        have c0 : ts[0 + i * 5]? = some (.int .u8 (ins cs off j).o) := by rw [Nat.zero_add]; exact mj 0 (by omega)
        have c4 : ts[0 + i * 5 + 4]? = some (.int .u16 (ins cs off j).n) := by rw [Nat.zero_add]; exact mj 4 (by omega)
        have w1 : (0 : Int) ≤ (i : Int) ∧ (i : Int) < ((cnt f num : Nat) : Int) := by omega
        have hsz : 0 + i * 5 + 4 < ts.size := by omega
        have next : ∀ ts' : Array Value, ts'.size = cnt f num * 5 → (∀ t, t < 5 → ts'[i * 5 + t]? = (fiveI (trimI f (ins cs off j)))[t]?) → (∀ p, p / 5 ≠ i → ts'[p]? = ts[p]?) → MidOk cs off num f (i + 1) ts' := by
          intro ts' h1 h2 h3
          refine ⟨h1, fun j' hj' hfj' t ht => ?_⟩
          by_cases e : j' = j
          · subst e
            rw [hc, if_pos (by omega)]
            exact h2 t ht
          · have hne : cnt f j' ≠ i := fun e' => e (cnt_inj hfj' hfj (by omega))
            rw [h3 _ (by omega), mc j' hj' hfj' t ht]
            by_cases e' : cnt f j' < i
            · rw [if_pos e', if_pos (by omega)]
            · rw [if_neg e', if_neg (by omega)]
        rw [intAt_of c0, intAt_of c4]
        by_cases o : (ins cs off j).o = 5 ∨ (ins cs off j).o = 6
        · have hn : (ins cs off j).n < num := by omega
          have hnn : (ins cs off j).n.toNat < num := by omega
          have b4 := hns.2 _ hnn
          have b4' : ns[0 + (ins cs off j).n.toNat * 1]? = some (.int .u16 (cnt f (ins cs off j).n.toNat : Int)) := by rw [Nat.zero_add, Nat.mul_one]; exact b4
          have w2 : (0 : Int) ≤ (ins cs off j).n ∧ (ins cs off j).n < 64 := by omega
          rw [intAt_of b4']
          have hq : MidOk cs off num f (i + 1) (ts.setIfInBounds (0 + i * 5 + 4) (.int .u16 (cnt f (ins cs off j).n.toNat : Int))) := by
            refine next _ (by rw [Array.size_setIfInBounds]; exact ms) (fun t ht => ?_) (fun p hp => set_out (by omega))
            unfold trimI
            rw [if_pos o]
            by_cases e : t = 4
            · subst e
              rw [show i * 5 + 4 = 0 + i * 5 + 4 by omega]
              exact set_in hsz
            · rw [set_out (by omega), mj t ht]
              match t, ht, e with
              | 0, _, _ => rfl
              | 1, _, _ => rfl
              | 2, _, _ => rfl
              | 3, _, _ => rfl
              | k + 4, h, h2 => omega
          rcases o with o | o
          · have f5 : ((ins cs off j).o == 5) = true := by rw [o]; rfl
            simp only [e1, decide_true, f5, w1, w2, d, hsz, hq, isI_of c0, isI_of c4, isI_of b4', beqT, beqF, Bool.not_true, Bool.not_false, Bool.true_eq_false, Bool.false_eq_true, false_implies, true_implies, true_and, and_true, tC_d0_ok]
          · have f5 : ((ins cs off j).o == 5) = false := by rw [o]; rfl
            have f6 : ((ins cs off j).o == 6) = true := by rw [o]; rfl
            simp only [e1, decide_true, f5, f6, w1, w2, d, hsz, hq, isI_of c0, isI_of c4, isI_of b4', beqT, beqF, Bool.not_true, Bool.not_false, Bool.true_eq_false, Bool.false_eq_true, false_implies, true_implies, true_and, and_true, tC_d0_ok]
        · have f5 : ((ins cs off j).o == 5) = false := by rw [beq_eq_false_iff_ne]; omega
          have f6 : ((ins cs off j).o == 6) = false := by rw [beq_eq_false_iff_ne]; omega
          have hq : MidOk cs off num f (i + 1) ts := next ts ms (fun t ht => by unfold trimI; rw [if_neg o]; exact mj t ht) (fun p hp => rfl)
          simp only [e1, decide_true, f5, f6, w1, d, hq, isI_of c0, beqT, beqF, Bool.not_true, Bool.not_false, Bool.true_eq_false, Bool.false_eq_true, false_implies, true_implies, true_and, and_true, tC_d0_ok]
      · have e1 : decide ((i : Int) < ((cnt f num : Nat) : Int)) = false := decide_eq_false (by omega)
        have hts : trR cs off num = ts := by
          unfold trR
          rw [hf]
          refine (grow_ext (fun _ => rfl) ms fun j hj hfj t ht => ?_).symm
          rw [mc j hj hfj t ht, if_pos (by have := cnt_lt hfj hj; omega)]
        simp only [e1, decide_true, Bool.true_eq_false, Bool.false_eq_true, false_implies, true_implies, true_and, and_true]
        exact hts
    · obtain ⟨rfl, rfl, rfl, rfl, h1, h2⟩ := h
      exact ih (i + 1) ts' (by omega) (by omega) h2
end
end Go.Proofs.Ytebkbihhnoellaa
/- Of flow: Trim: its first loop, and all of it. No condition. -/
namespace Go.Proofs.Ytebkbihhnoellaa
set_option linter.unusedSectionVars false
set_option maxRecDepth 100000
section
variable (off num : Nat) (cs : Array Value) (ty : TypeId) (hI : InsOk cs off num) (hM : mayV cs off num = true) (h0 : num ≠ 0)
include hI hM h0
theorem tB_round : ∀ (K i : Nat) (ns : Array Value), num - i < K → 1 ≤ i → i ≤ num → NsOk (metB cs off num) ns i →
    Good Try.prog (trE true (cnt (metB cs off num) num) (trR cs off num)) 1 (tB_F off num cs ty (cnt (metB cs off num) num) (trR cs off num) (num : Nat) i (num + 1) (cnt (metB cs off num) i) (boL (metB cs off num) (num + 1)) ns (grow (metB cs off num) (fun j => fiveI (ins cs off j)) i).toArray) (tB_M off num cs ty (cnt (metB cs off num) num) (trR cs off num) (num : Nat) i (num + 1) (cnt (metB cs off num) i) (boL (metB cs off num) (num + 1)) ns (grow (metB cs off num) (fun j => fiveI (ins cs off j)) i).toArray) := by
  obtain ⟨n64, hA⟩ := mayV_iff.1 hM
  intro K
  induction K with
  | zero => intro i ns h; omega
  | succ K ih =>
    intro i ns hK h1 hi hns
    refine past_vc ET_ok 1000 (jTB_vc off num cs ty (cnt (metB cs off num) num) (trR cs off num) (num : Nat) i (num + 1) (cnt (metB cs off num) i) (boL (metB cs off num) (num + 1)) ns (grow (metB cs off num) (fun j => fiveI (ins cs off j)) i).toArray
      (fun b' i' n' k' bs' ns' ts' => b' = (num : Nat) ∧ i' = (i + 1 : Nat) ∧ n' = num + 1 ∧ k' = cnt (metB cs off num) (i + 1) ∧ bs' = boL (metB cs off num) (num + 1) ∧ i < num ∧ NsOk (metB cs off num) ns' (i + 1) ∧ ts' = (grow (metB cs off num) (fun j => fiveI (ins cs off j)) (i + 1)).toArray)
      (fun b' i' k' ns' ts' => b' = (cnt (metB cs off num) num : Nat) ∧ i' = (0 : Nat) ∧ k' = cnt (metB cs off num) num ∧ NsOk (metB cs off num) ns' num ∧ MidOk cs off num (metB cs off num) 0 ts')) ?_ (fun _ _ h => h)
      (fun fs m hb => jTB_go (fun b' i' n' k' bs' ns' ts' h => ?_) (fun b' i' k' ns' ts' h => ?_) hb)
    · generalize hf : metB cs off num = f at *
      have hci := cnt_le f i
      rw [i64_add1 (show i < 1000 by omega), Int.toNat_natCast]
      by_cases d : i < num
      · have e1 : decide ((i : Int) < ((num : Nat) : Int)) = true := decide_eq_true (by omega)
        obtain ⟨⟨i1, i2, i3, i4, i5⟩, _⟩ := hI.2 i d
        obtain ⟨b1, b2⟩ := bo_at f (n := num + 1) (i := i) (by omega)
        have w1 : (0 : Int) ≤ (i : Int) ∧ (i : Int) < 64 := by omega
        have w2 : (0 : Int) ≤ (i : Int) ∧ (i : Int) < ((num + 1 : Nat) : Int) := by omega
        have w3 : (0 : Int) ≤ (i : Int) ∧ (i : Int) < (num : Int) := by omega
        have hsz : 0 + i * 1 < ns.size := by rw [hns.1]; omega
        have eW : IntKind.u16.wrap ((cnt f i : Nat) : Int) = ((cnt f i : Nat) : Int) := Go.IntWalk.u16_in _ (by omega)
        have hq : NsOk f (ns.setIfInBounds (0 + i * 1) (.int .u16 (IntKind.u16.wrap ((cnt f i : Nat) : Int)))) (i + 1) := by
          refine ⟨by rw [Array.size_setIfInBounds]; exact hns.1, fun j hj => ?_⟩
          by_cases e : j = i
          · subst e
            have := set_in (v := (.int .u16 (IntKind.u16.wrap ((cnt f j : Nat) : Int)) : Value)) hsz
            rw [eW] at this ⊢
            rwa [show 0 + j * 1 = j by omega] at this ⊢
          · rw [set_out (by omega)]; exact hns.2 j (by omega)
        rw [b2]
        cases hfi : f i with
        | true =>
          have c1 : cnt f (i + 1) * 6 ≤ 140737488355328 ∧ cnt f (i + 1) ≤ 140737488355328 := by rw [cnt_yes hfi]; omega
          have c2 : cnt f i * 5 = ((grow f (fun j => fiveI (ins cs off j)) i).toArray).size := by rw [List.size_toArray, grow_len (fun _ => rfl)]
          have c3 : (grow f (fun j => fiveI (ins cs off j)) i).toArray ++ #[Value.int .u8 (intAt cs (off + i * 5)), Value.int .u8 (intAt cs (off + i * 5 + 1)), Value.int .u8 (intAt cs (off + i * 5 + 2)), Value.int .u8 (intAt cs (off + i * 5 + 3)), Value.int .u16 (intAt cs (off + i * 5 + 4))] = (grow f (fun j => fiveI (ins cs off j)) (i + 1)).toArray := by
            rw [grow_yes hfi, ← List.append_toArray]; rfl
          rw [c3]
          simp only [e1, decide_true, b1, w1, w2, w3, i1, i2, i3, i4, i5, hsz, hq, d, ← cnt_yes hfi, Bool.true_eq_false, Bool.false_eq_true, false_implies, true_implies, true_and, and_true, tA_d0_ok, tB_d0_ok]
          exact ⟨c1, c2⟩
        | false =>
          simp only [e1, decide_true, b1, w1, w2, hsz, hq, d, cnt_no hfi, grow_no hfi, Bool.true_eq_false, Bool.false_eq_true, false_implies, true_implies, true_and, and_true, tA_d0_ok, tB_d0_ok]
      · obtain rfl : i = num := by omega
        have e1 : decide ((i : Int) < ((i : Nat) : Int)) = false := decide_eq_false (by omega)
        have hq : MidOk cs off i f 0 (grow f (fun j => fiveI (ins cs off j)) i).toArray := by
          refine ⟨by rw [List.size_toArray, grow_len (fun _ => rfl)], fun j hj hfj t ht => ?_⟩
          rw [if_neg (Nat.not_lt_zero _), List.getElem?_toArray]
          exact grow_at (g := fun j => fiveI (ins cs off j)) (fun _ => rfl) hfj ht hj
        simp only [e1, hq, hns, Bool.true_eq_false, Bool.false_eq_true, false_implies, true_implies, true_and, and_true, tC_d0_ok]
        rfl
    · obtain ⟨rfl, rfl, rfl, rfl, rfl, h2, h3, rfl⟩ := h
      exact ih (i + 1) ns' (by omega) (by omega) (by omega) h3
    · obtain ⟨rfl, rfl, rfl, h2, h3⟩ := h
      exact tC_round off num cs ty hI hM h0 h2 _ 0 ts' (Nat.lt_succ_self _) (Nat.zero_le _) h3
theorem trim_good : Good Try.prog (trE true (cnt (metB cs off num) num) (trR cs off num)) 1 [callFr 20 Try.f20.ntmps [prS off num] (Try.f20.body.getD .skip)] (rawM cs ty) := by
  obtain ⟨n64, hA⟩ := mayV_iff.1 hM
  have hm0 := met0 off num cs hI hM h0
  refine run_vc ET_ok 8000 (sT_vc off num cs ty (cnt (metB cs off num) num) (trR cs off num) (fun b' i' n' bs' ns' => b' = (num : Nat) ∧ i' = (0 : Nat) ∧ n' = num + 1 ∧ bs' = boL (metB cs off num) (num + 1) ∧ ns'.size = 64)) ?_ (fun _ _ h => h)
    (fun fs m hb => sT_go (fun b' i' n' bs' ns' h => ?_) hb)
  · simp only [hI, hM, Bool.true_eq_false, Bool.false_eq_true, false_implies, true_implies, true_and, and_true, tA_d0_ok]
    exact ⟨rfl, rfl⟩
  · obtain ⟨rfl, rfl, rfl, rfl, hs⟩ := h
    refine past_vc ET_ok 1000 (jTA_vc off num cs ty (cnt (metB cs off num) num) (trR cs off num) (num : Nat) (0 : Nat) (num + 1) (boL (metB cs off num) (num + 1)) ns'
      (fun b' i' n' k' bs' ns' ts' => b' = (num : Nat) ∧ i' = (1 : Nat) ∧ n' = num + 1 ∧ k' = 1 ∧ bs' = boL (metB cs off num) (num + 1) ∧ NsOk (metB cs off num) ns' 1 ∧ ts' = (grow (metB cs off num) (fun j => fiveI (ins cs off j)) 1).toArray)) ?_ (fun _ _ h => h)
      (fun fs m hb => jTA_go (fun b' i' n' k' bs' ns' ts' h => ?_) hb)
    · generalize hf : metB cs off num = f at *
      have e1 : decide (((0 : Nat) : Int) < ((num : Nat) : Int)) = true := decide_eq_true (by omega)
      rw [i64_add1 (show 0 < 1000 by omega), Int.toNat_natCast]
      obtain ⟨⟨i1, i2, i3, i4, i5⟩, _⟩ := hI.2 0 (by omega)
      obtain ⟨b1, b2⟩ := bo_at f (n := num + 1) (i := 0) (by omega)
      have w1 : (0 : Int) ≤ ((0 : Nat) : Int) ∧ ((0 : Nat) : Int) < 64 := by omega
      have w2 : (0 : Int) ≤ ((0 : Nat) : Int) ∧ ((0 : Nat) : Int) < ((num + 1 : Nat) : Int) := by omega
      have w3 : (0 : Int) ≤ ((0 : Nat) : Int) ∧ ((0 : Nat) : Int) < (num : Int) := by omega
      have hsz : 0 + 0 * 1 < ns'.size := by rw [hs]; omega
      have hq : NsOk f (ns'.setIfInBounds (0 + 0 * 1) (.int .u16 0)) 1 := by
        refine ⟨by rw [Array.size_setIfInBounds]; exact hs, fun j hj => ?_⟩
        obtain rfl : j = 0 := by omega
        exact set_in hsz
      have c3 : #[Value.int .u8 (intAt cs (off + 0 * 5)), Value.int .u8 (intAt cs (off + 0 * 5 + 1)), Value.int .u8 (intAt cs (off + 0 * 5 + 2)), Value.int .u8 (intAt cs (off + 0 * 5 + 3)), Value.int .u16 (intAt cs (off + 0 * 5 + 4))] = (grow f (fun j => fiveI (ins cs off j)) 1).toArray := by
        rw [grow_yes hm0]; rfl
      rw [b2, hm0, c3]
      simp only [e1, decide_true, b1, w1, w2, w3, i1, i2, i3, i4, i5, hsz, hq, Bool.true_eq_false, Bool.false_eq_true, false_implies, true_implies, true_and, and_true, tA_d0_ok, tB_d0_ok]
    · obtain ⟨rfl, rfl, rfl, rfl, rfl, h2, rfl⟩ := h
      have := tB_round off num cs ty hI hM h0 num 1 ns' (by omega) (by omega) (by omega) h2
      rwa [show cnt (metB cs off num) 1 = 1 by rw [cnt_yes hm0]; rfl] at this
end
end Go.Proofs.Ytebkbihhnoellaa
/- Of flow: the reference's Trim. No condition. -/
namespace Go.Proofs.Ytebkbihhnoellaa
set_option linter.unusedSectionVars false
set_option maxRecDepth 100000
def fiveJ (x : Ins) : List Value := [.int .i64 x.o, .int .i64 x.a, .int .i64 x.b, .int .i64 x.c, .int .i64 x.n]
def gW (cs : Array Value) (off num j : Nat) : List Value := fiveJ (trimI (rchB cs off num) (ins cs off j))
/-- What the reference leaves of a program. -/
def twR (cs : Array Value) (off num : Nat) : Array Value := (grow (rchB cs off num) (gW cs off num) num).toArray
section
variable (off num : Nat) (cs : Array Value) (ty : TypeId) (hR : RowOk cs off num) (hM : mayV cs off num = true) (h0 : num ≠ 0)
include hR hM h0
theorem vB_round {i : Nat} (hi : i < num) (hfi : rchB cs off num i = true) (ho : (ins cs off i).o = 5 ∨ (ins cs off i).o = 6)
    (H : Good Try.prog (reE (cnt (rchB cs off num) num) (twR cs off num)) 1 (uB_F off num cs ty (cnt (rchB cs off num) num) (twR cs off num) (i + 1 : Nat) (num + 1) (cnt (rchB cs off num) (i + 1)) (boL (rchB cs off num) (num + 1)) (grow (rchB cs off num) (gW cs off num) (i + 1)).toArray) (uB_M off num cs ty (cnt (rchB cs off num) num) (twR cs off num) (i + 1 : Nat) (num + 1) (cnt (rchB cs off num) (i + 1)) (boL (rchB cs off num) (num + 1)) (grow (rchB cs off num) (gW cs off num) (i + 1)).toArray)) :
    ∀ (K j : Nat), (ins cs off i).n.toNat - j < K → j ≤ (ins cs off i).n.toNat → Good Try.prog (reE (cnt (rchB cs off num) num) (twR cs off num)) 1
      (vB_F off num cs ty (cnt (rchB cs off num) num) (twR cs off num) i (num + 1) (cnt (rchB cs off num) i) (cnt (rchB cs off num) j : Nat) j (ins cs off i).o (ins cs off i).a (ins cs off i).b (ins cs off i).c (ins cs off i).n (boL (rchB cs off num) (num + 1)) (grow (rchB cs off num) (gW cs off num) i).toArray)
      (vB_M off num cs ty (cnt (rchB cs off num) num) (twR cs off num) i (num + 1) (cnt (rchB cs off num) i) (cnt (rchB cs off num) j : Nat) j (ins cs off i).o (ins cs off i).a (ins cs off i).b (ins cs off i).c (ins cs off i).n (boL (rchB cs off num) (num + 1)) (grow (rchB cs off num) (gW cs off num) i).toArray) := by
  obtain ⟨n64, hA⟩ := mayV_iff.1 hM
  obtain ⟨_, _, _, _, k5⟩ := Ins.okN_iff.1 (hA i hi)
  have hxn : (ins cs off i).n < num := by omega
  intro K
  induction K with
  | zero => intro j h; omega
  | succ K ih =>
    intro j hK hj
    refine past_vc ET_ok 1000 (jUD_vc off num cs ty (cnt (rchB cs off num) num) (twR cs off num) i (num + 1) (cnt (rchB cs off num) i) (cnt (rchB cs off num) j : Nat) j (ins cs off i).o (ins cs off i).a (ins cs off i).b (ins cs off i).c (ins cs off i).n (boL (rchB cs off num) (num + 1)) (grow (rchB cs off num) (gW cs off num) i).toArray
      (fun i' n' k' c' j' xo xa xb xc xn bs' ts' => i' = i ∧ n' = num + 1 ∧ k' = cnt (rchB cs off num) i ∧ c' = (cnt (rchB cs off num) (j + 1) : Nat) ∧ j' = (j + 1 : Nat) ∧ xo = (ins cs off i).o ∧ xa = (ins cs off i).a ∧ xb = (ins cs off i).b ∧ xc = (ins cs off i).c ∧ xn = (ins cs off i).n ∧ bs' = boL (rchB cs off num) (num + 1) ∧ ts' = (grow (rchB cs off num) (gW cs off num) i).toArray ∧ j < (ins cs off i).n.toNat)
      (fun i' n' k' bs' ts' => i' = (i + 1 : Nat) ∧ n' = num + 1 ∧ k' = cnt (rchB cs off num) (i + 1) ∧ bs' = boL (rchB cs off num) (num + 1) ∧ ts' = (grow (rchB cs off num) (gW cs off num) (i + 1)).toArray)) ?_ (fun _ _ h => h)
      (fun fs m hb => jUD_go (fun i' n' k' c' j' xo xa xb xc xn bs' ts' h => ?_) (fun i' n' k' bs' ts' h => ?_) hb)
    · generalize hf : rchB cs off num = f at *
      have hci := cnt_le f i
      have hcj := cnt_le f j
      rw [i64_add1 (show j < 1000 by omega), i64_add1 (show i < 1000 by omega), i64_add1 (show cnt f j < 1000 by omega), Int.toNat_natCast]
      by_cases d : j < (ins cs off i).n.toNat
      · have e1 : decide ((j : Int) < (ins cs off i).n) = true := decide_eq_true (by omega)
        obtain ⟨b1, b2⟩ := bo_at f (n := num + 1) (i := j) (by omega)
        have w2 : (0 : Int) ≤ (j : Int) ∧ (j : Int) < ((num + 1 : Nat) : Int) := by omega
        rw [b2]
        cases hfj : f j with
        | true => simp only [e1, decide_true, b1, w2, d, cnt_yes hfj, Bool.true_eq_false, Bool.false_eq_true, false_implies, true_implies, true_and, and_true, vA_d0_ok, vB_d0_ok]
        | false => simp only [e1, decide_true, b1, w2, d, cnt_no hfj, Bool.true_eq_false, Bool.false_eq_true, false_implies, true_implies, true_and, and_true, vA_d0_ok, vB_d0_ok]
      · have e1 : decide ((j : Int) < (ins cs off i).n) = false := decide_eq_false (by omega)
        have c1 : (cnt f i + 1) * 40 ≤ 140737488355328 ∧ cnt f i + 1 ≤ 140737488355328 := by omega
        have c2 : cnt f i * 5 = ((grow f (gW cs off num) i).toArray).size := by rw [List.size_toArray, grow_len (fun _ => rfl)]
        have ej : (ins cs off i).n.toNat = j := by omega
        have c3 : (grow f (gW cs off num) i).toArray ++ #[Value.int .i64 (ins cs off i).o, Value.int .i64 (ins cs off i).a, Value.int .i64 (ins cs off i).b, Value.int .i64 (ins cs off i).c, Value.int .i64 ((cnt f j : Nat) : Int)] = (grow f (gW cs off num) (i + 1)).toArray := by
          rw [grow_yes hfi, ← List.append_toArray]
          unfold gW trimI fiveJ
          rw [hf, if_pos ho, ej]
        rw [c3]
        simp only [e1, cnt_yes hfi, Bool.true_eq_false, Bool.false_eq_true, false_implies, true_implies, true_and, and_true, uA_d0_ok, uB_d0_ok]
        exact ⟨c1, c2⟩
    · obtain ⟨rfl, rfl, rfl, rfl, rfl, rfl, rfl, rfl, rfl, rfl, rfl, rfl, h⟩ := h
      exact ih (j + 1) (by omega) (by omega)
    · obtain ⟨rfl, rfl, rfl, rfl, rfl⟩ := h
      exact H
theorem uB_round : ∀ (K i : Nat), num - i < K → 1 ≤ i → i ≤ num → Good Try.prog (reE (cnt (rchB cs off num) num) (twR cs off num)) 1 (uB_F off num cs ty (cnt (rchB cs off num) num) (twR cs off num) i (num + 1) (cnt (rchB cs off num) i) (boL (rchB cs off num) (num + 1)) (grow (rchB cs off num) (gW cs off num) i).toArray) (uB_M off num cs ty (cnt (rchB cs off num) num) (twR cs off num) i (num + 1) (cnt (rchB cs off num) i) (boL (rchB cs off num) (num + 1)) (grow (rchB cs off num) (gW cs off num) i).toArray) := by
  obtain ⟨n64, hA⟩ := mayV_iff.1 hM
  intro K
  induction K with
  | zero => intro i h; omega
  | succ K ih =>
    intro i hK h1 hi
    refine past_vc ET_ok 1000 (jUB_vc off num cs ty (cnt (rchB cs off num) num) (twR cs off num) i (num + 1) (cnt (rchB cs off num) i) (boL (rchB cs off num) (num + 1)) (grow (rchB cs off num) (gW cs off num) i).toArray
      (fun i' n' k' c' j' xo xa xb xc xn bs' ts' => i' = i ∧ n' = num + 1 ∧ k' = cnt (rchB cs off num) i ∧ c' = (0 : Nat) ∧ j' = (0 : Nat) ∧ xo = (ins cs off i).o ∧ xa = (ins cs off i).a ∧ xb = (ins cs off i).b ∧ xc = (ins cs off i).c ∧ xn = (ins cs off i).n ∧ bs' = boL (rchB cs off num) (num + 1) ∧ ts' = (grow (rchB cs off num) (gW cs off num) i).toArray ∧ i < num ∧ rchB cs off num i = true ∧ ((ins cs off i).o = 5 ∨ (ins cs off i).o = 6))
      (fun i' n' k' bs' ts' => i' = (i + 1 : Nat) ∧ n' = num + 1 ∧ k' = cnt (rchB cs off num) (i + 1) ∧ bs' = boL (rchB cs off num) (num + 1) ∧ ts' = (grow (rchB cs off num) (gW cs off num) (i + 1)).toArray ∧ i < num)) ?_ (fun _ _ h => h)
      (fun fs m hb => jUB_go (fun i' n' k' c' j' xo xa xb xc xn bs' ts' h => ?_) (fun i' n' k' bs' ts' h => ?_) hb)
    · generalize hf : rchB cs off num = f at *
      have hci := cnt_le f i
      rw [i64_add1 (show i < 1000 by omega), Int.toNat_natCast]
      by_cases d : i < num
      · have e1 : decide ((i : Int) < (num : Int)) = true := decide_eq_true (by omega)
        obtain ⟨b1, b2⟩ := bo_at f (n := num + 1) (i := i) (by omega)
        have w2 : (0 : Int) ≤ (i : Int) ∧ (i : Int) < ((num + 1 : Nat) : Int) := by omega
        have w3 : (0 : Int) ≤ (i : Int) ∧ (i : Int) < (num : Int) := by omega
        obtain ⟨i1, i2, i3, i4, i5⟩ := hR.2 i d
        rw [b2]
        cases hfi : f i with
        | false => simp only [e1, decide_true, b1, w2, d, cnt_no hfi, grow_no hfi, Bool.not_true, Bool.not_false, Bool.true_eq_false, Bool.false_eq_true, false_implies, true_implies, true_and, and_true, uA_d0_ok, uB_d0_ok]
        | true =>
          have c1 : (cnt f i + 1) * 40 ≤ 140737488355328 ∧ cnt f i + 1 ≤ 140737488355328 := by omega
          have c2 : cnt f i * 5 = ((grow f (gW cs off num) i).toArray).size := by rw [List.size_toArray, grow_len (fun _ => rfl)]
          by_cases o5 : intAt cs (off + i * 5) = 5
          · have f5 : (intAt cs (off + i * 5) == 5) = true := by rw [o5]; rfl
            have hq : (ins cs off i).o = 5 ∨ (ins cs off i).o = 6 := .inl o5
            simp only [e1, decide_true, f5, b1, w2, w3, d, hq, i1, i2, i3, i4, i5, beqT, beqF, Bool.not_true, Bool.not_false, Bool.true_eq_false, Bool.false_eq_true, false_implies, true_implies, true_and, and_true, vA_d0_ok, vB_d0_ok]
            exact ⟨rfl, rfl, rfl, rfl, rfl, rfl, rfl⟩
          · have f5 : (intAt cs (off + i * 5) == 5) = false := by rw [beq_eq_false_iff_ne]; exact o5
            by_cases o6 : intAt cs (off + i * 5) = 6
            · have f6 : (intAt cs (off + i * 5) == 6) = true := by rw [o6]; rfl
              have hq : (ins cs off i).o = 5 ∨ (ins cs off i).o = 6 := .inr o6
              simp only [e1, decide_true, f5, f6, b1, w2, w3, d, hq, i1, i2, i3, i4, i5, beqT, beqF, Bool.not_true, Bool.not_false, Bool.true_eq_false, Bool.false_eq_true, false_implies, true_implies, true_and, and_true, vA_d0_ok, vB_d0_ok]
              exact ⟨rfl, rfl, rfl, rfl, rfl, rfl, rfl⟩
            · have f6 : (intAt cs (off + i * 5) == 6) = false := by rw [beq_eq_false_iff_ne]; exact o6
              have hq : ¬ ((ins cs off i).o = 5 ∨ (ins cs off i).o = 6) := fun h => h.elim o5 o6
              have c3 : (grow f (gW cs off num) i).toArray ++ #[Value.int .i64 (intAt cs (off + i * 5)), Value.int .i64 (intAt cs (off + i * 5 + 1)), Value.int .i64 (intAt cs (off + i * 5 + 2)), Value.int .i64 (intAt cs (off + i * 5 + 3)), Value.int .i64 (intAt cs (off + i * 5 + 4))] = (grow f (gW cs off num) (i + 1)).toArray := by
                rw [grow_yes hfi, ← List.append_toArray]
                unfold gW trimI
                rw [if_neg hq]; rfl
              rw [c3]
              simp only [e1, decide_true, f5, f6, b1, w2, w3, d, i1, i2, i3, i4, i5, cnt_yes hfi, beqT, beqF, Bool.not_true, Bool.not_false, Bool.true_eq_false, Bool.false_eq_true, false_implies, true_implies, true_and, and_true, uA_d0_ok, uB_d0_ok]
              exact ⟨c1, c2⟩
      · obtain rfl : i = num := by omega
        have e1 : decide ((i : Int) < ((i : Nat) : Int)) = false := decide_eq_false (by omega)
        simp only [e1, Bool.true_eq_false, Bool.false_eq_true, false_implies, true_implies, true_and, and_true]
        unfold twR; rw [hf]
    · obtain ⟨rfl, rfl, rfl, rfl, rfl, rfl, rfl, rfl, rfl, rfl, rfl, rfl, h2, h3, h4⟩ := h
      exact vB_round off num cs ty hR hM h0 h2 h3 h4 (ih (i + 1) (by omega) (by omega) (by omega)) _ 0 (Nat.lt_succ_self _) (Nat.zero_le _)
    · obtain ⟨rfl, rfl, rfl, rfl, rfl, h⟩ := h
      exact ih (i + 1) (by omega) (by omega) (by omega)
end
end Go.Proofs.Ytebkbihhnoellaa
/- Of flow: the reference's Trim: its first place, and all of it. No condition. -/
namespace Go.Proofs.Ytebkbihhnoellaa
set_option linter.unusedSectionVars false
set_option maxRecDepth 100000
section
variable (off num : Nat) (cs : Array Value) (ty : TypeId) (hR : RowOk cs off num) (hM : mayV cs off num = true) (h0 : num ≠ 0)
include hR hM h0
theorem vA_round (hi : (0 : Nat) < num) (hfi : rchB cs off num 0 = true) (ho : (ins cs off 0).o = 5 ∨ (ins cs off 0).o = 6)
    (H : Good Try.prog (reE (cnt (rchB cs off num) num) (twR cs off num)) 1 (uB_F off num cs ty (cnt (rchB cs off num) num) (twR cs off num) (1 : Nat) (num + 1) 1 (boL (rchB cs off num) (num + 1)) (grow (rchB cs off num) (gW cs off num) 1).toArray) (uB_M off num cs ty (cnt (rchB cs off num) num) (twR cs off num) (1 : Nat) (num + 1) 1 (boL (rchB cs off num) (num + 1)) (grow (rchB cs off num) (gW cs off num) 1).toArray)) :
    ∀ (K j : Nat), (ins cs off 0).n.toNat - j < K → j ≤ (ins cs off 0).n.toNat → Good Try.prog (reE (cnt (rchB cs off num) num) (twR cs off num)) 1
      (vA_F off num cs ty (cnt (rchB cs off num) num) (twR cs off num) (0 : Nat) (num + 1) (cnt (rchB cs off num) j : Nat) j (ins cs off 0).o (ins cs off 0).a (ins cs off 0).b (ins cs off 0).c (ins cs off 0).n (boL (rchB cs off num) (num + 1)))
      (vA_M off num cs ty (cnt (rchB cs off num) num) (twR cs off num) (0 : Nat) (num + 1) (cnt (rchB cs off num) j : Nat) j (ins cs off 0).o (ins cs off 0).a (ins cs off 0).b (ins cs off 0).c (ins cs off 0).n (boL (rchB cs off num) (num + 1))) := by
  obtain ⟨n64, hA⟩ := mayV_iff.1 hM
  obtain ⟨_, _, _, _, k5⟩ := Ins.okN_iff.1 (hA 0 hi)
  have hxn : (ins cs off 0).n < num := by omega
  intro K
  induction K with
  | zero => intro j h; omega
  | succ K ih =>
    intro j hK hj
    refine past_vc ET_ok 1000 (jUC_vc off num cs ty (cnt (rchB cs off num) num) (twR cs off num) (0 : Nat) (num + 1) (cnt (rchB cs off num) j : Nat) j (ins cs off 0).o (ins cs off 0).a (ins cs off 0).b (ins cs off 0).c (ins cs off 0).n (boL (rchB cs off num) (num + 1))
      (fun i' n' c' j' xo xa xb xc xn bs' => i' = (0 : Nat) ∧ n' = num + 1 ∧ c' = (cnt (rchB cs off num) (j + 1) : Nat) ∧ j' = (j + 1 : Nat) ∧ xo = (ins cs off 0).o ∧ xa = (ins cs off 0).a ∧ xb = (ins cs off 0).b ∧ xc = (ins cs off 0).c ∧ xn = (ins cs off 0).n ∧ bs' = boL (rchB cs off num) (num + 1) ∧ j < (ins cs off 0).n.toNat)
      (fun i' n' k' bs' ts' => i' = (1 : Nat) ∧ n' = num + 1 ∧ k' = 1 ∧ bs' = boL (rchB cs off num) (num + 1) ∧ ts' = (grow (rchB cs off num) (gW cs off num) 1).toArray)) ?_ (fun _ _ h => h)
      (fun fs m hb => jUC_go (fun i' n' c' j' xo xa xb xc xn bs' h => ?_) (fun i' n' k' bs' ts' h => ?_) hb)
    · generalize hf : rchB cs off num = f at *
      have hcj := cnt_le f j
      rw [i64_add1 (show j < 1000 by omega), i64_add1 (show 0 < 1000 by omega), i64_add1 (show cnt f j < 1000 by omega), Int.toNat_natCast]
      by_cases d : j < (ins cs off 0).n.toNat
      · have e1 : decide ((j : Int) < (ins cs off 0).n) = true := decide_eq_true (by omega)
        obtain ⟨b1, b2⟩ := bo_at f (n := num + 1) (i := j) (by omega)
        have w2 : (0 : Int) ≤ (j : Int) ∧ (j : Int) < ((num + 1 : Nat) : Int) := by omega
        rw [b2]
        cases hfj : f j with
        | true => simp only [e1, decide_true, b1, w2, d, cnt_yes hfj, Bool.true_eq_false, Bool.false_eq_true, false_implies, true_implies, true_and, and_true, vA_d0_ok, vB_d0_ok]
        | false => simp only [e1, decide_true, b1, w2, d, cnt_no hfj, Bool.true_eq_false, Bool.false_eq_true, false_implies, true_implies, true_and, and_true, vA_d0_ok, vB_d0_ok]
      · have e1 : decide ((j : Int) < (ins cs off 0).n) = false := decide_eq_false (by omega)
        have ej : (ins cs off 0).n.toNat = j := by omega
        have c3 : #[Value.int .i64 (ins cs off 0).o, Value.int .i64 (ins cs off 0).a, Value.int .i64 (ins cs off 0).b, Value.int .i64 (ins cs off 0).c, Value.int .i64 ((cnt f j : Nat) : Int)] = (grow f (gW cs off num) 1).toArray := by
          rw [grow_yes hfi]; show _ = ([] ++ gW cs off num 0).toArray; rw [List.nil_append]
          unfold gW trimI fiveJ
          rw [hf, if_pos ho, ej]
        rw [c3]
        simp only [e1, Bool.true_eq_false, Bool.false_eq_true, false_implies, true_implies, true_and, and_true, uA_d0_ok, uB_d0_ok]
    · obtain ⟨rfl, rfl, rfl, rfl, rfl, rfl, rfl, rfl, rfl, rfl, h⟩ := h
      exact ih (j + 1) (by omega) (by omega)
    · obtain ⟨rfl, rfl, rfl, rfl, rfl⟩ := h
      exact H
theorem retrim_good : Good Try.prog (reE (cnt (rchB cs off num) num) (twR cs off num)) 1 [callFr 21 Try.f21.ntmps [prS off num] (Try.f21.body.getD .skip)] (prM false cs ty) := by
  obtain ⟨n64, hA⟩ := mayV_iff.1 hM
  have hm0 : rchB cs off num 0 = true := by unfold rchB; rfl
  have hB := uB_round off num cs ty hR hM h0 num 1 (by omega) (by omega) (by omega)
  rw [show cnt (rchB cs off num) 1 = 1 by rw [cnt_yes hm0]; rfl] at hB
  refine run_vc ET_ok 8000 (sU_vc off num cs ty (cnt (rchB cs off num) num) (twR cs off num) (fun i' n' bs' => i' = (0 : Nat) ∧ n' = num + 1 ∧ bs' = boL (rchB cs off num) (num + 1))) ?_ (fun _ _ h => h)
    (fun fs m hb => sU_go (fun i' n' bs' h => ?_) hb)
  · simp only [hR, n64, true_and, and_true, uA_d0_ok]
    rfl
  · obtain ⟨rfl, rfl, rfl⟩ := h
    refine past_vc ET_ok 1000 (jUA_vc off num cs ty (cnt (rchB cs off num) num) (twR cs off num) (0 : Nat) (num + 1) (boL (rchB cs off num) (num + 1))
      (fun i' n' c' j' xo xa xb xc xn bs' => i' = (0 : Nat) ∧ n' = num + 1 ∧ c' = (0 : Nat) ∧ j' = (0 : Nat) ∧ xo = (ins cs off 0).o ∧ xa = (ins cs off 0).a ∧ xb = (ins cs off 0).b ∧ xc = (ins cs off 0).c ∧ xn = (ins cs off 0).n ∧ bs' = boL (rchB cs off num) (num + 1) ∧ ((ins cs off 0).o = 5 ∨ (ins cs off 0).o = 6))
      (fun i' n' k' bs' ts' => i' = (1 : Nat) ∧ n' = num + 1 ∧ k' = 1 ∧ bs' = boL (rchB cs off num) (num + 1) ∧ ts' = (grow (rchB cs off num) (gW cs off num) 1).toArray)) ?_ (fun _ _ h => h)
      (fun fs m hb => jUA_go (fun i' n' c' j' xo xa xb xc xn bs' h => ?_) (fun i' n' k' bs' ts' h => ?_) hb)
    · generalize hf : rchB cs off num = f at *
      rw [i64_add1 (show 0 < 1000 by omega), Int.toNat_natCast]
      have e1 : decide (((0 : Nat) : Int) < (num : Int)) = true := decide_eq_true (by omega)
      obtain ⟨b1, b2⟩ := bo_at f (n := num + 1) (i := 0) (by omega)
      have w2 : (0 : Int) ≤ ((0 : Nat) : Int) ∧ ((0 : Nat) : Int) < ((num + 1 : Nat) : Int) := by omega
      have w3 : (0 : Int) ≤ ((0 : Nat) : Int) ∧ ((0 : Nat) : Int) < (num : Int) := by omega
      obtain ⟨i1, i2, i3, i4, i5⟩ := hR.2 0 (by omega)
      rw [b2, hm0]
      by_cases o5 : intAt cs (off + 0 * 5) = 5
      · have f5 : (intAt cs (off + 0 * 5) == 5) = true := by rw [o5]; rfl
        have hq : (ins cs off 0).o = 5 ∨ (ins cs off 0).o = 6 := .inl o5
        simp only [e1, decide_true, f5, b1, w2, w3, hq, i1, i2, i3, i4, i5, beqT, beqF, Bool.not_true, Bool.not_false, Bool.true_eq_false, Bool.false_eq_true, false_implies, true_implies, true_and, and_true, vA_d0_ok, vB_d0_ok]
        repeat' first | apply And.intro | rfl
      · have f5 : (intAt cs (off + 0 * 5) == 5) = false := by rw [beq_eq_false_iff_ne]; exact o5
        by_cases o6 : intAt cs (off + 0 * 5) = 6
        · have f6 : (intAt cs (off + 0 * 5) == 6) = true := by rw [o6]; rfl
          have hq : (ins cs off 0).o = 5 ∨ (ins cs off 0).o = 6 := .inr o6
          simp only [e1, decide_true, f5, f6, b1, w2, w3, hq, i1, i2, i3, i4, i5, beqT, beqF, Bool.not_true, Bool.not_false, Bool.true_eq_false, Bool.false_eq_true, false_implies, true_implies, true_and, and_true, vA_d0_ok, vB_d0_ok]
          repeat' first | apply And.intro | rfl
        · have f6 : (intAt cs (off + 0 * 5) == 6) = false := by rw [beq_eq_false_iff_ne]; exact o6
          have hq : ¬ ((ins cs off 0).o = 5 ∨ (ins cs off 0).o = 6) := fun h => h.elim o5 o6
          have c3 : #[Value.int .i64 (intAt cs (off + 0 * 5)), Value.int .i64 (intAt cs (off + 0 * 5 + 1)), Value.int .i64 (intAt cs (off + 0 * 5 + 2)), Value.int .i64 (intAt cs (off + 0 * 5 + 3)), Value.int .i64 (intAt cs (off + 0 * 5 + 4))] = (grow f (gW cs off num) 1).toArray := by
            rw [grow_yes hm0]
            show _ = ([] ++ gW cs off num 0).toArray
            rw [List.nil_append]
            unfold gW trimI
            rw [if_neg hq]; rfl
          rw [c3]
          simp only [e1, decide_true, f5, f6, b1, w2, w3, i1, i2, i3, i4, i5, beqT, beqF, Bool.not_true, Bool.not_false, Bool.true_eq_false, Bool.false_eq_true, false_implies, true_implies, true_and, and_true, uA_d0_ok, uB_d0_ok]
    · obtain ⟨rfl, rfl, rfl, rfl, rfl, rfl, rfl, rfl, rfl, rfl, h⟩ := h
      exact vA_round off num cs ty hR hM h0 (by omega) hm0 h hB _ 0 (Nat.lt_succ_self _) (Nat.zero_le _)
    · obtain ⟨rfl, rfl, rfl, rfl, rfl⟩ := h
      exact hB
end
end Go.Proofs.Ytebkbihhnoellaa/- Of flow: Rules: what it answers with. No condition. -/
namespace Go.Proofs.Ytebkbihhnoellaa
noncomputable def rlR (r : Bool) (s : SV) (_ : SMem) : Prop := match s with
  | .tup [.c (.f (.bool x)), .c (.f (.int .i64 e))] => x.den = r ∧ e.den = 0
  | _ => False
end Go.Proofs.Ytebkbihhnoellaa
/- Of flow: Rules and the reference's. -/
namespace Go.Proofs.Ytebkbihhnoellaa
set_option maxRecDepth 100000
theorem ru_vc (off num : Nat) (cs : Array Value) (ty : TypeId) (a b : Int) (r : Bool) : (run ET 8000 1 [callFr 22 Try.f22.ntmps [prS off num, i64 (.o a), i64 (.o b)] (Try.f22.body.getD .skip)] (rawM cs ty)).vc (rlR r) (fun _ _ => False) =
    ((InsOk cs off num ∧ True) ∧ (mayV cs off num = true → ((decide (a < (0 : Int)) == false) = true → ((decide (a > (↑num : Int)) == false) = true → ((decide (b < (0 : Int)) == false) = true → ((decide (b > (↑num : Int)) == false) = true → (((0 : Int) ≤ a ∧ a < (↑(num + 1) : Int)) ∧ True) ∧ (IsBool (boL (metB cs off num) (num + 1)) ((0 : Nat) + Int.toNat a * 1) ∧ True) ∧ (((!boolAt (boL (metB cs off num) (num + 1)) ((0 : Nat) + Int.toNat a * 1)) == false) = true → (((0 : Int) ≤ b ∧ b < (↑(num + 1) : Int)) ∧ True) ∧ (IsBool (boL (metB cs off num) (num + 1)) ((0 : Nat) + Int.toNat b * 1) ∧ True) ∧ ((!boolAt (boL (metB cs off num) (num + 1)) ((0 : Nat) + Int.toNat b * 1)) = true → false = r ∧ (0 : Int) = (0 : Int)) ∧ ((!boolAt (boL (metB cs off num) (num + 1)) ((0 : Nat) + Int.toNat b * 1)) = false → (InsOk cs off num ∧ mayV cs off num = true ∧ (0 : Int) ≤ (0 : Int) ∧ (0 : Int) ≤ (↑num : Int) ∧ True) ∧ (((0 : Int) ≤ ari BinOp.quo IntKind.i64 b (64 : Int) ∧ ari BinOp.quo IntKind.i64 b (64 : Int) < (2 : Int)) ∧ True) ∧ (IsInt IntKind.u64 (frW cs off num (0 : Int) a) ((0 : Nat) + Int.toNat (ari BinOp.quo IntKind.i64 b (64 : Int)) * 1) ∧ True) ∧ ((0 : Int) ≤ ari BinOp.rem IntKind.i64 b (64 : Int) ∧ True) ∧ (!ari BinOp.and IntKind.u64 (ari BinOp.shr IntKind.u64 (intAt (frW cs off num (0 : Int) a) ((0 : Nat) + Int.toNat (ari BinOp.quo IntKind.i64 b (64 : Int)) * 1)) (ari BinOp.rem IntKind.i64 b (64 : Int))) (1 : Int) == (1 : Int)) = r ∧ (0 : Int) = (0 : Int))) ∧ (((!boolAt (boL (metB cs off num) (num + 1)) ((0 : Nat) + Int.toNat a * 1)) == false) = false → false = r ∧ (0 : Int) = (0 : Int))) ∧ ((decide (b > (↑num : Int)) == false) = false → false = r ∧ (0 : Int) = (0 : Int))) ∧ ((decide (b < (0 : Int)) == false) = false → false = r ∧ (0 : Int) = (0 : Int))) ∧ ((decide (a > (↑num : Int)) == false) = false → false = r ∧ (0 : Int) = (0 : Int))) ∧ ((decide (a < (0 : Int)) == false) = false → false = r ∧ (0 : Int) = (0 : Int))) ∧ (mayV cs off num = false → false = r ∧ (3 : Int) = (0 : Int))) := by kernel_rfl
theorem rr_vc (off num : Nat) (cs : Array Value) (ty : TypeId) (a b : Int) (r : Bool) : (run ET 8000 1 [callFr 23 Try.f23.ntmps [prS off num, i64 (.o a), i64 (.o b)] (Try.f23.body.getD .skip)] (prM false cs ty)).vc (boolR r) (fun _ _ => False) =
    ((RowOk cs off num ∧ num ≤ (64 : Nat) ∧ True) ∧ ((decide (a < (0 : Int)) == false) = true → ((decide (b < (0 : Int)) == false) = true → ((decide (a > (↑num : Int)) == false) = true → ((decide (b > (↑num : Int)) == false) = true → (((0 : Int) ≤ a ∧ a < (↑(num + 1) : Int)) ∧ True) ∧ (IsBool (boL (rchB cs off num) (num + 1)) ((0 : Nat) + Int.toNat a * 1) ∧ True) ∧ (((!boolAt (boL (rchB cs off num) (num + 1)) ((0 : Nat) + Int.toNat a * 1)) == false) = true → (((0 : Int) ≤ b ∧ b < (↑(num + 1) : Int)) ∧ True) ∧ (IsBool (boL (rchB cs off num) (num + 1)) ((0 : Nat) + Int.toNat b * 1) ∧ True) ∧ ((!boolAt (boL (rchB cs off num) (num + 1)) ((0 : Nat) + Int.toNat b * 1)) = true → false = r) ∧ ((!boolAt (boL (rchB cs off num) (num + 1)) ((0 : Nat) + Int.toNat b * 1)) = false → (((a == b) == false) = true → (((a == (0 : Int)) == false) = true → (((b != (0 : Int)) == true) = true → (RowOk cs off num ∧ num ≤ (64 : Nat) ∧ True) ∧ ((0 : Nat) + 65 ≤ Array.size (wyM cs off num a) ∧ True) ∧ (((0 : Int) ≤ b ∧ b < (65 : Int)) ∧ IsBool (Array.extract (wyM cs off num a) (0 : Nat) ((0 : Nat) + 65)) (Int.toNat b * 1) ∧ True) ∧ (!boolAt (Array.extract (wyM cs off num a) (0 : Nat) ((0 : Nat) + 65)) (Int.toNat b * 1)) = r) ∧ (((b != (0 : Int)) == true) = false → false = r)) ∧ (((a == (0 : Int)) == false) = false → true = r)) ∧ (((a == b) == false) = false → true = r))) ∧ (((!boolAt (boL (rchB cs off num) (num + 1)) ((0 : Nat) + Int.toNat a * 1)) == false) = false → false = r)) ∧ ((decide (b > (↑num : Int)) == false) = false → false = r)) ∧ ((decide (a > (↑num : Int)) == false) = false → false = r)) ∧ ((decide (b < (0 : Int)) == false) = false → false = r)) ∧ ((decide (a < (0 : Int)) == false) = false → false = r)) := by kernel_rfl
end Go.Proofs.Ytebkbihhnoellaa
/- Of flow: Rules, as mathematics. No condition. -/
namespace Go.Proofs.Ytebkbihhnoellaa
set_option linter.unusedSectionVars false
set_option maxRecDepth 100000
theorem Rch.fin {nx : Nat → List Nat} {s : Int} {a b : Nat} (h : Rch nx s a b) : (b : Int) ≠ s := by cases h <;> assumption
theorem Rch.beg {nx : Nat → List Nat} {s : Int} {a b : Nat} (h : Rch nx s a b) : (a : Int) ≠ s := by
  induction h with
  | refl h => exact h
  | step _ _ _ ih => exact ih
theorem Rch.one {nx : Nat → List Nat} {s : Int} {a b : Nat} (h : Rch nx s a b) : b = a ∨ ∃ c ∈ nx a, Rch nx s c b := by
  induction h with
  | refl h => exact .inl rfl
  | step h1 h2 h3 ih =>
    rcases ih with rfl | ⟨c, hc, h⟩
    · exact .inr ⟨_, h2, .refl h3⟩
    · exact .inr ⟨c, hc, .step h h2 h3⟩
def rngB (num : Nat) (a b : Int) : Bool := decide (0 ≤ a ∧ a ≤ (num : Int) ∧ 0 ≤ b ∧ b ≤ (num : Int))
def rlB (cs : Array Value) (off num : Nat) (a b : Int) : Bool := rngB num a b && (metB cs off num a.toNat && (metB cs off num b.toNat && !bitW (frW cs off num 0 a) b.toNat))
def rrB (cs : Array Value) (off num : Nat) (a b : Int) : Bool := rngB num a b && (rchB cs off num a.toNat && (rchB cs off num b.toNat && (a == b || (a == 0 || (b != 0 && !wayB cs off num a 0 b.toNat)))))
/-- One place rules another one, as the reference has it. -/
theorem rl_rr {cs ds : Array Value} {off off' num : Nat} (hI : InsOk cs off num) (hM : mayV cs off num = true) (h : ∀ i, i < num → ins ds off' i = ins cs off i) (a b : Int) : rlB cs off num a b = rrB ds off' num a b := by
  unfold rlB rrB
  cases hr : rngB num a b with
  | false => rfl
  | true =>
  unfold rngB at hr
  obtain ⟨a0, a1, b0, b1⟩ := of_decide_eq_true hr
  obtain ⟨i, rfl⟩ := Int.eq_ofNat_of_zero_le a0
  obtain ⟨j, rfl⟩ := Int.eq_ofNat_of_zero_le b0
  rw [Int.toNat_natCast, Int.toNat_natCast, met_rch hI hM h (show i ≤ num by omega), met_rch hI hM h (show j ≤ num by omega)]
  congr 3
  have hx := toL_le hI hM
  have he : ∀ a b, a ≤ num → b ≤ num → (wyE ds off' num (i : Int) a b = true ↔ b ∈ toL cs off num a ∧ (a : Int) ≠ (i : Int) ∧ (b : Int) ≠ (i : Int)) := by
    intro a b ha hb
    have e1 : edB ds off' num a b = true ↔ b ∈ toL ds off' num a := edB_toL (fun i hi => by rw [h i hi]; exact (hI.2 i hi).2.2.2.2.2.1)
    have e2 : toL ds off' num a = toL cs off num a := by
      by_cases d : num ≤ a
      · unfold toL; rw [if_pos d, if_pos d]
      · have hh := h a (by omega)
        unfold toL; rw [hh]
    unfold wyE
    rw [Bool.and_eq_true, Bool.and_eq_true, e1, e2, decide_eq_true_eq, decide_eq_true_eq]
  have e4 := way_iff (s := (i : Int)) hx he (i := 0) (j := j) (Nat.zero_le _) (by omega)
  have e5 := frW_iff (i := 0) (s := (i : Int)) hI hM (Nat.zero_le _) j
  have e5 : bitW (frW cs off num 0 (i : Int)) j = true ↔ Rch (toL cs off num) (i : Int) 0 j := e5
  have e4 : wayB ds off' num (i : Int) 0 j = true ↔ ((0 : Nat) : Int) ≠ (i : Int) ∧ ∃ b ∈ toL cs off num 0, Rch (toL cs off num) (i : Int) b j := e4
  rw [Bool.eq_iff_iff]
  simp only [Bool.not_eq_true', Bool.or_eq_true, Bool.and_eq_true, beq_iff_eq, bne_iff_ne]
  rw [← Bool.not_eq_true, e5, ← Bool.not_eq_true (wayB _ _ _ _ _ _), e4]
  constructor
  · intro h
    by_cases d1 : (i : Int) = (j : Int)
    · exact .inl d1
    by_cases d2 : (i : Int) = 0
    · exact .inr (.inl d2)
    refine .inr (.inr ⟨fun e => h ?_, fun ⟨h1, c, hc, h2⟩ => h (Rch.head h1 hc h2)⟩)
    have : j = 0 := by omega
    subst this
    exact .refl (by omega)
  · rintro (h | h | ⟨h1, h2⟩) hR
    · exact hR.fin h.symm
    · exact hR.beg (by omega)
    · rcases hR.one with e | ⟨c, hc, h⟩
      · exact h1 (by omega)
      · exact h2 ⟨hR.beg, c, hc, h⟩
section
variable (off num : Nat) (cs : Array Value) (ty : TypeId)
theorem rng_of {num : Nat} {a b : Int} (h : ¬ (0 ≤ a ∧ a ≤ (num : Int) ∧ 0 ≤ b ∧ b ≤ (num : Int))) : rngB num a b = false := decide_eq_false h
theorem rules_good (hI : InsOk cs off num) (hM : mayV cs off num = true) (a b : Int) : Good Try.prog (rlR (rlB cs off num a b)) 1 [callFr 22 Try.f22.ntmps [prS off num, i64 (.o a), i64 (.o b)] (Try.f22.body.getD .skip)] (rawM cs ty) := by
  refine run_vc ET_ok 8000 (ru_vc off num cs ty a b (rlB cs off num a b)) ?_ (fun _ _ h => h) (fun _ _ h => h.elim)
  obtain ⟨n64, _⟩ := mayV_iff.1 hM
  have hno : ¬ (0 ≤ a ∧ a ≤ (num : Int) ∧ 0 ≤ b ∧ b ≤ (num : Int)) → false = rlB cs off num a b := fun h => by unfold rlB; rw [rng_of h]; rfl
  refine ⟨⟨hI, trivial⟩, fun _ => ⟨fun h1 => ⟨fun h2 => ⟨fun h3 => ⟨fun h4 => ?_, fun h4 => ⟨hno ?_, rfl⟩⟩, fun h3 => ⟨hno ?_, rfl⟩⟩, fun h2 => ⟨hno ?_, rfl⟩⟩, fun h1 => ⟨hno ?_, rfl⟩⟩, fun h => by rw [hM] at h; cases h⟩
  · have h1 : 0 ≤ a := by simpa using h1
    have h2 : a ≤ num := by simpa using h2
    have h3 : 0 ≤ b := by simpa using h3
    have h4 : b ≤ num := by simpa using h4
    obtain ⟨i, rfl⟩ := Int.eq_ofNat_of_zero_le h1
    obtain ⟨j, rfl⟩ := Int.eq_ofNat_of_zero_le h3
    have hr : rngB num (i : Int) (j : Int) = true := decide_eq_true ⟨h1, h2, h3, h4⟩
    obtain ⟨a1, a2⟩ := bo_at (metB cs off num) (n := num + 1) (i := i) (by omega)
    obtain ⟨b1, b2⟩ := bo_at (metB cs off num) (n := num + 1) (i := j) (by omega)
    have hW : IsW (frW cs off num 0 (i : Int)) := frW_ok (i := 0) hI hM (Nat.zero_le _)
    have e : rlB cs off num (i : Int) (j : Int) = (metB cs off num i && (metB cs off num j && !bitW (frW cs off num 0 (i : Int)) j)) := by unfold rlB; rw [hr, Int.toNat_natCast, Int.toNat_natCast]; rfl
    rw [e, Int.toNat_natCast, Int.toNat_natCast, a2, b2, bitW_has hW (by omega), quo64 (by omega), rem64, Int.toNat_natCast]
    have w1 : (0 : Int) ≤ (i : Int) ∧ (i : Int) < ((num + 1 : Nat) : Int) := by omega
    have w2 : (0 : Int) ≤ (j : Int) ∧ (j : Int) < ((num + 1 : Nat) : Int) := by omega
    have w3 : (0 : Int) ≤ ((j / 64 : Nat) : Int) ∧ ((j / 64 : Nat) : Int) < 2 := by omega
    have w4 : IsInt IntKind.u64 (frW cs off num 0 (i : Int)) (0 + j / 64 * 1) := by rw [Nat.zero_add, Nat.mul_one]; exact hW.int _ (by omega)
    have w5 : (0 : Int) ≤ ((j % 64 : Nat) : Int) := by omega
    have w6 : (0 : Int) ≤ (num : Int) := by omega
    refine ⟨⟨w1, trivial⟩, ⟨a1, trivial⟩, fun c1 => ⟨⟨w2, trivial⟩, ⟨b1, trivial⟩, fun c2 => ⟨?_, rfl⟩, fun c2 => ⟨⟨hI, hM, Int.le_refl _, w6, trivial⟩, ⟨w3, trivial⟩, ⟨w4, trivial⟩, ⟨w5, trivial⟩, ?_, rfl⟩⟩, fun c1 => ⟨?_, rfl⟩⟩
    · have c2 : metB cs off num j = false := by simpa using c2
      rw [c2]; simp
    · have c1 : metB cs off num i = true := by simpa using c1
      have c2 : metB cs off num j = true := by simpa using c2
      rw [c1, c2]; simp
    · have c1 : metB cs off num i = false := by simpa using c1
      rw [c1]; rfl
  · have : ¬ b ≤ num := by simpa using h4
    omega
  · have : ¬ 0 ≤ b := by simpa using h3
    omega
  · have : ¬ a ≤ num := by simpa using h2
    omega
  · have : ¬ 0 ≤ a := by simpa using h1
    omega
theorem rrules_good (hR : RowOk cs off num) (n64 : num ≤ 64) (a b : Int) : Good Try.prog (boolR (rrB cs off num a b)) 1 [callFr 23 Try.f23.ntmps [prS off num, i64 (.o a), i64 (.o b)] (Try.f23.body.getD .skip)] (prM false cs ty) := by
  refine run_vc ET_ok 8000 (rr_vc off num cs ty a b (rrB cs off num a b)) ?_ (fun _ _ h => h) (fun _ _ h => h.elim)
  have hno : ¬ (0 ≤ a ∧ a ≤ (num : Int) ∧ 0 ≤ b ∧ b ≤ (num : Int)) → false = rrB cs off num a b := fun h => by unfold rrB; rw [rng_of h]; rfl
  refine ⟨⟨hR, n64, trivial⟩, fun h1 => ⟨fun h2 => ⟨fun h3 => ⟨fun h4 => ?_, fun h4 => hno ?_⟩, fun h3 => hno ?_⟩, fun h2 => hno ?_⟩, fun h1 => hno ?_⟩
  · have h1 : 0 ≤ a := by simpa using h1
    have h2 : 0 ≤ b := by simpa using h2
    have h3 : a ≤ num := by simpa using h3
    have h4 : b ≤ num := by simpa using h4
    obtain ⟨i, rfl⟩ := Int.eq_ofNat_of_zero_le h1
    obtain ⟨j, rfl⟩ := Int.eq_ofNat_of_zero_le h2
    have hr : rngB num (i : Int) (j : Int) = true := decide_eq_true ⟨h1, h3, h2, h4⟩
    obtain ⟨a1, a2⟩ := bo_at (rchB cs off num) (n := num + 1) (i := i) (by omega)
    obtain ⟨b1, b2⟩ := bo_at (rchB cs off num) (n := num + 1) (i := j) (by omega)
    have e : rrB cs off num (i : Int) (j : Int) = (rchB cs off num i && (rchB cs off num j && ((i : Int) == (j : Int) || ((i : Int) == 0 || ((j : Int) != 0 && !wayB cs off num (i : Int) 0 j))))) := by unfold rrB; rw [hr, Int.toNat_natCast, Int.toNat_natCast]; rfl
    have w1 : (0 : Int) ≤ (i : Int) ∧ (i : Int) < ((num + 1 : Nat) : Int) := by omega
    have w2 : (0 : Int) ≤ (j : Int) ∧ (j : Int) < ((num + 1 : Nat) : Int) := by omega
    have w3 : (0 : Int) ≤ (j : Int) ∧ (j : Int) < 65 := by omega
    rw [e, Int.toNat_natCast, Int.toNat_natCast, a2, b2]
    have hsz : 0 + 65 ≤ (wyM cs off num (i : Int)).size := by unfold wyM; rw [tbM_size]; omega
    have hg : ((wyM cs off num (i : Int)).extract 0 (0 + 65))[j * 1]? = some (.bool (wayB cs off num (i : Int) 0 j)) := by
      rw [ext_get hsz (by omega)]
      have := wy_get (cs := cs) (off := off) (sh := (i : Int)) n64 (a := 0) (b := j) (Nat.zero_le _) (by omega)
      rwa [show 0 + 0 * 65 + j * 1 = 0 + j * 1 by omega] at this
    rw [boolAt_of hg]
    refine ⟨⟨w1, trivial⟩, ⟨a1, trivial⟩, fun c1 => ⟨⟨w2, trivial⟩, ⟨b1, trivial⟩, fun c2 => ?_, fun c2 => ⟨fun c3 => ⟨fun c4 => ⟨fun c5 => ⟨⟨hR, n64, trivial⟩, ⟨hsz, trivial⟩, ⟨w3, isBo_of hg, trivial⟩, ?_⟩, fun c5 => ?_⟩, fun c4 => ?_⟩, fun c3 => ?_⟩⟩, fun c1 => ?_⟩
    · have c2 : rchB cs off num j = false := by simpa using c2
      rw [c2]; simp
    · have c1 : rchB cs off num i = true := by simpa using c1
      have c2 : rchB cs off num j = true := by simpa using c2
      have c3 : ((i : Int) == (j : Int)) = false := by simpa using c3
      have c4 : ((i : Int) == 0) = false := by simpa using c4
      have c5 : ((j : Int) != 0) = true := by simpa using c5
      rw [c1, c2, c3, c4, c5]; rfl
    · have c1 : rchB cs off num i = true := by simpa using c1
      have c2 : rchB cs off num j = true := by simpa using c2
      have c3 : ((i : Int) == (j : Int)) = false := by simpa using c3
      have c4 : ((i : Int) == 0) = false := by simpa using c4
      have c5 : ((j : Int) != 0) = false := by simpa using c5
      rw [c1, c2, c3, c4, c5]; rfl
    · have c1 : rchB cs off num i = true := by simpa using c1
      have c2 : rchB cs off num j = true := by simpa using c2
      have c4 : ((i : Int) == 0) = true := by simpa using c4
      rw [c1, c2, c4]; simp
    · have c1 : rchB cs off num i = true := by simpa using c1
      have c2 : rchB cs off num j = true := by simpa using c2
      have c3 : ((i : Int) == (j : Int)) = true := by simpa using c3
      rw [c1, c2, c3]; rfl
    · have c1 : rchB cs off num i = false := by simpa using c1
      rw [c1]; rfl
  · have : ¬ b ≤ num := by simpa using h4
    omega
  · have : ¬ a ≤ num := by simpa using h3
    omega
  · have : ¬ 0 ≤ b := by simpa using h2
    omega
  · have : ¬ 0 ≤ a := by simpa using h1
    omega
end
end Go.Proofs.Ytebkbihhnoellaa
/- Of flow: Trim and Rules, as contracts. No condition. -/
namespace Go.Proofs.Ytebkbihhnoellaa
set_option linter.unusedSectionVars false
set_option maxRecDepth 100000
theorem Good.trE {k : Nat} {rs : Array Value} {fs : List SFr} {m : SMem} (h : Good Try.prog (trE true k rs) 1 fs m) : Good Try.prog (fun s m' => s = .tup [.c (.f (.slice 1 (.l 0) (.o k) .any)), .c (.f (.int .i64 (.l 0)))] ∧ m' = ⟨2, Tr.nil.set 1 (some ⟨.pop rs, 52, true⟩), []⟩) 1 fs m := by
  refine Good.retX (Good.mono h ?_)
  intro s m h
  unfold Go.Proofs.Ytebkbihhnoellaa.trE at h
  split at h
  · exact ⟨_, h⟩
  · exact h.elim
theorem Good.reE {k : Nat} {rs : Array Value} {fs : List SFr} {m : SMem} (h : Good Try.prog (reE k rs) 1 fs m) : Good Try.prog (fun s m' => s = .s (.c (.f (.slice 1 (.l 0) (.o k) .any))) ∧ m' = ⟨2, Tr.nil.set 1 (some ⟨.pop rs, 46, true⟩), []⟩) 1 fs m := by
  refine Good.retX (Good.mono h ?_)
  intro s m h
  unfold Go.Proofs.Ytebkbihhnoellaa.reE at h
  split at h
  · exact ⟨_, h⟩
  · exact h.elim
noncomputable section
def trT (m : SMem) : List SV → Option Tree
  | [.s (.c (.f (.slice i o n _)))] => match rawI m i with
    | some cs => some (needs [InsOk cs o.den n.den, mayV cs o.den n.den = true, n.den ≠ 0] (.ret (slE (cnt (metB cs o.den n.den) n.den) m.next) (m.new (.pop (trR cs o.den n.den)) 52)))
    | none => none
  | _ => none
def twT (m : SMem) : List SV → Option Tree
  | [.s (.c (.f (.slice i o n _)))] => match rowR m i with
    | some cs => some (needs [RowOk cs o.den n.den, mayV cs o.den n.den = true, n.den ≠ 0] (.ret (slN (cnt (rchB cs o.den n.den) n.den) m.next) (m.new (.pop (twR cs o.den n.den)) 46)))
    | none => none
  | _ => none
def ruT (m : SMem) : List SV → Option Tree
  | [.s (.c (.f (.slice i o n _))), .s (.c (.f (.int .i64 a))), .s (.c (.f (.int .i64 b)))] => match rawI m i with
    | some cs => some (needs [InsOk cs o.den n.den, mayV cs o.den n.den = true] (.ret (.tup [.c (.f (.bool (.o (rlB cs o.den n.den a.den b.den)))), .c (.f (.int .i64 (.l 0)))]) m))
    | none => none
  | _ => none
def rrT (m : SMem) : List SV → Option Tree
  | [.s (.c (.f (.slice i o n _))), .s (.c (.f (.int .i64 a))), .s (.c (.f (.int .i64 b)))] => match rowR m i with
    | some cs => some (needs [RowOk cs o.den n.den, n.den ≤ 64] (.ret (sB (.o (rrB cs o.den n.den a.den b.den))) m))
    | none => none
  | _ => none
def ofT2 (m : SMem) : SV → Option Tree
  | .s (.c (.f (.slice i o n _))) => match rowI m i with
    | some cs => some (needs [InsOk cs o.den n.den, n.den ≠ 0, n.den ≤ 1048576] (.ret (.s (.c (.f (.slice m.next (.l 0) (.o n.den) .any)))) (m.new (.pop (ofRow cs o.den n.den)) 46)))
    | none => none
  | _ => none
def conT (g : FuncId) (l : List SV) (m : SMem) : Option Tree := match g, l with
  | 20, l => trT m l
  | 21, l => twT m l
  | 22, l => ruT m l
  | 23, l => rrT m l
  | 6, l => conA 6 l m
  | 7, [x] => ofT2 m x
  | 8, l => conA 8 l m
  | _, _ => none
end
theorem fn20t : E0.fn 20 = some Try.f20 := by kernel_rfl
theorem body20t : Try.f20.body = some (Try.f20.body.getD .skip) := by kernel_rfl
theorem fn21t : E0.fn 21 = some Try.f21 := by kernel_rfl
theorem body21t : Try.f21.body = some (Try.f21.body.getD .skip) := by kernel_rfl
theorem fn22t : E0.fn 22 = some Try.f22 := by kernel_rfl
theorem body22t : Try.f22.body = some (Try.f22.body.getD .skip) := by kernel_rfl
theorem fn23t : E0.fn 23 = some Try.f23 := by kernel_rfl
theorem body23t : Try.f23.body = some (Try.f23.body.getD .skip) := by kernel_rfl
theorem trT_ok {m : SMem} {l : List SV} {t : Tree} (h : trT m l = some t) : Con E0 20 l m t := by
  unfold trT at h
  split at h
  · rename_i i o n cap
    split at h
    · rename_i cs e
      cases h
      obtain ⟨ty, wr, hb⟩ := rawI_of e
      exact Con.made (v := true) (S := slE (cnt (metB cs o.den n.den) n.den)) (l := []) (l' := []) fn20t body20t hb nil_args (fun hq => Good.trE (trim_good o.den n.den cs ty (hq _ (by simp)) (hq _ (by simp)) (hq _ (by simp)))) (fun f => rfl)
    · cases h
  · cases h
theorem twT_ok {m : SMem} {l : List SV} {t : Tree} (h : twT m l = some t) : Con E0 21 l m t := by
  unfold twT at h
  split at h
  · rename_i i o n cap
    split at h
    · rename_i cs e
      cases h
      obtain ⟨ty, wr, hb⟩ := rowR_of e
      exact Con.made (v := false) (S := slN (cnt (rchB cs o.den n.den) n.den)) (l := []) (l' := []) fn21t body21t hb nil_args (fun hq => Good.reE (retrim_good o.den n.den cs ty (hq _ (by simp)) (hq _ (by simp)) (hq _ (by simp)))) (fun f => rfl)
    · cases h
  · cases h
theorem rl_ok {r : Bool} {s : SV} {m' : SMem} {R R' : Ren} {v : Value} (h : rlR r s m') (hv : s.ok R' v) : (SV.tup [.c (.f (.bool (.o r))), .c (.f (.int .i64 (.l 0)))]).ok R v := by
  unfold rlR at h
  split at h
  · obtain ⟨vs, rfl, hv⟩ := hv
    refine ⟨vs, rfl, ?_⟩
    revert hv
    generalize vs.toList = l
    intro hv
    match l, hv with
    | [x, y], ⟨h1, h2, _⟩ =>
      have h1 : x = .bool _ := h1
      have h2 : y = .int .i64 _ := h2
      refine ⟨?_, ?_, trivial⟩
      · rw [h1, h.1]; rfl
      · rw [h2, h.2]; rfl
  · exact h.elim
theorem ruT_ok {m : SMem} {l : List SV} {t : Tree} (h : ruT m l = some t) : Con E0 22 l m t := by
  unfold ruT at h
  split at h
  · rename_i i o n cap a b
    split at h
    · rename_i cs e
      cases h
      exact Con.rawN fn22t body22t e (l' := [i64 (.o a.den), i64 (.o b.den)]) (A := rlR (rlB cs o.den n.den a.den b.den)) ints_ok (fun ty hq => rules_good o.den n.den cs ty (hq _ (by simp)) (hq _ (by simp)) a.den b.den) (fun s m' R R' v h hv => rl_ok (R := R) h hv)
    · cases h
  · cases h
theorem rrT_ok {m : SMem} {l : List SV} {t : Tree} (h : rrT m l = some t) : Con E0 23 l m t := by
  unfold rrT at h
  split at h
  · rename_i i o n cap a b
    split at h
    · rename_i cs e
      cases h
      exact Con.popN fn23t body23t e (l' := [i64 (.o a.den), i64 (.o b.den)]) (A := boolR (rrB cs o.den n.den a.den b.den)) ints_ok (fun ty hq => rrules_good o.den n.den cs ty (hq _ (by simp)) (hq _ (by simp)) a.den b.den) (fun s m' R R' v h hv => bool_ok (R := R) h hv)
    · cases h
  · cases h
theorem ofT2_ok {m : SMem} {x : SV} {t : Tree} (h : ofT2 m x = some t) : Con E0 7 [x] m t := by
  unfold ofT2 at h
  split at h
  · split at h
    · rename_i cs e
      cases h
      exact of_con (Nat.le_refl _) e
    · cases h
  · cases h
theorem conT_ok (g : FuncId) (l : List SV) (m : SMem) (t : Tree) (h : conT g l m = some t) : Con E0 g l m t := by
  unfold conT at h
  split at h
  · exact trT_ok h
  · exact twT_ok h
  · exact ruT_ok h
  · exact rrT_ok h
  · exact conA_ok _ _ _ _ h
  · exact ofT2_ok h
  · exact conA_ok _ _ _ _ h
  · cases h
end Go.Proofs.Ytebkbihhnoellaa
/- Of flow: Longest: its recursion's states. No condition. -/
namespace Go.Proofs.Ytebkbihhnoellaa
set_option maxRecDepth 100000
noncomputable section
def lgBl (cs : Array Value) (ty : TypeId) (off n : Nat) (ws : SA) : List (Nat × SBlk) :=
  [(0, ⟨.raw cs, ty, false⟩), (1, ⟨.ls [prS' off n], 22, true⟩), (3, ⟨ws, 65, true⟩), (4, ⟨.ls [.fn (.func 34) [] [.ptr 1 (.l 0), .ptr 3 (.l 0), .ptr 4 (.l 0)]], 66, true⟩)]
def lgM (cs : Array Value) (ty : TypeId) (off n : Nat) (ws : SA) : SMem := mkM 5 (lgBl cs ty off n ws)
abbrev LM := Array Value → Nat → Nat → Int → Array Value → Array Value
abbrev LV := Array Value → Nat → Nat → Int → Int
abbrev LP := Array Value → Nat → Nat → Int → Array Value → Prop
def rdL (b : Option SBlk) : Option (Array Value) := match b with
  | some ⟨w, ty, true⟩ => match Nat.beq ty 65 with
    | true => rowX w
    | false => none
  | _ => none
def rdF (b : Option SBlk) : Bool := match b with
  | some ⟨.ls [.fn (.func g) [] [a, b, c]], ty, true⟩ => Nat.beq g 34 && (Nat.beq ty 66 && (isP 1 a && (isP 3 b && isP 4 c)))
  | _ => false
def outL (M : LM) (cs : Array Value) (ty : TypeId) (off n : Nat) (a : Int) (ws : Array Value) (m : SMem) : SMem := ⟨m.next, insB (lsT (lgM cs ty off n (.op (M cs off n a ws))).bl (lgM cs ty off n (.op (M cs off n a ws))).bl.keys) m.bl, m.xs⟩
def arg34 (l : List SV) : Option Int := match l with
  | [.s (.c (.f (.int .i64 a))), p, q, r] => match isPt 1 p && (isPt 3 q && isPt 4 r) with
    | true => some a.den
    | false => none
  | _ => none
/-- The function that calls itself, by what it answers and does to the row. -/
def conLg (M : LM) (H : LV) (P : LP) (g : FuncId) (l : List SV) (m : SMem) : Option Tree :=
  match Nat.beq g 34 && (Nat.ble 5 m.next && rdF (getB m.bl 4)), arg34 l, rd0 (getB m.bl 0), rd1 (getB m.bl 1), rdL (getB m.bl 3) with
  | true, some a, some (cs, ty), some (off, n), some ws => some (.need [P cs off n a ws] (.ret (i64 (.o (H cs off n a))) (outL M cs ty off n a ws m)))
  | _, _, _, _, _ => none
def ELg (M : LM) (H : LV) (P : LP) : Env := ⟨Try.prog, fnOf, conLg M H P, fun _ _ _ => false⟩
def lgC (a : Int) : List SFr := [callFr 34 Try.f34.ntmps [i64 (.o a), pt 1, pt 3, pt 4] (Try.f34.body.getD .skip)]
end
end Go.Proofs.Ytebkbihhnoellaa
