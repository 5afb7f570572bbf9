/- Of flow: FlowGoes: its states. -/
import Derived.Test.YtebkbihhnoellaaMB
import Derived.Test.YtebkbihhnoellaaRows
import Derived.Test.YtebkbihhnoellaaE1
import Derived.ProofKit
import Derived.OpenShut
import Derived.ChangeSame
import Derived.Deep.Slices
import Derived.Deep.Fields
import Derived.ChangeMaps5
set_option linter.unusedVariables false
set_option linter.unusedSimpArgs false
namespace Go.Proofs.Ytebkbihhnoellaa
set_option maxRecDepth 100000
theorem sH_vc (off : Nat) (num : Nat) (cs : Array Value) (ty : TypeId) (a : Int) (b : Int) (QhR : Int → Int → Nat → Nat → Array Value → Array Value → Prop) (QhN : Int → Int → Nat → Array Value → Prop) : (sH_t off num cs ty a b).vc ((boolR true)) (sH_x off num cs ty a b QhR QhN) =
    ((decide ((↑num : Int) > (200 : Int)) = true → true = true) ∧ (decide ((↑num : Int) > (200 : Int)) = false → (InsOk cs off num ∧ num ≠ (0 : Nat) ∧ num ≤ (200 : Nat) ∧ True) ∧ (RowOk (ofRow cs off num) (0 : Nat) num ∧ True) ∧ ((!mayV (ofRow cs off num) (0 : Nat) num) = true → (InsOk cs off num ∧ mayV cs off num = false ∧ True) ∧ true = true) ∧ ((!mayV (ofRow cs off num) (0 : Nat) num) = false → (InsOk cs off num ∧ True) ∧ ((!mayV cs off num) = true → QhN (0 : Int) (0 : Int) num (ofRow cs off num) ∧ False) ∧ ((!mayV cs off num) = false → ((decide (a < (0 : Int)) == false) = true → (decide (a ≥ (↑num : Int)) = true → QhN (0 : Int) (0 : Int) num (ofRow cs off num) ∧ CallKind.normal = CallKind.normal ∧ TodoOk (ren 1 [(1, 1)]) hN_d0 hN_d0 ∧ off = off ∧ num = num ∧ a = a ∧ num = num ∧ (0 : Int) = (0 : Int) ∧ Value.slice none (0 : Nat) (0 : Nat) = Value.slice none (0 : Nat) (0 : Nat) ∧ (0 : Int) = (0 : Int) ∧ ty = ty ∧ cs = cs ∧ (46 : TypeId) = (46 : TypeId) ∧ ofRow cs off num = ofRow cs off num ∧ True) ∧ (decide (a ≥ (↑num : Int)) = false → (((0 : Int) ≤ a ∧ a < (↑num : Int)) ∧ True) ∧ (IsInt IntKind.u16 cs (off + Int.toNat a * 5 + 4) ∧ True) ∧ (((0 : Int) ≤ a ∧ a < (↑num : Int)) ∧ True) ∧ (IsInt IntKind.u8 cs (off + Int.toNat a * 5) ∧ True) ∧ ((intAt cs (off + Int.toNat a * 5) == (0 : Int)) = true → QhN (0 : Int) (0 : Int) num (ofRow cs off num) ∧ CallKind.normal = CallKind.normal ∧ TodoOk (ren 1 [(1, 1)]) hN_d0 hN_d0 ∧ off = off ∧ num = num ∧ a = a ∧ num = num ∧ (0 : Int) = (0 : Int) ∧ Value.slice none (0 : Nat) (0 : Nat) = Value.slice none (0 : Nat) (0 : Nat) ∧ (0 : Int) = (0 : Int) ∧ ty = ty ∧ cs = cs ∧ (46 : TypeId) = (46 : TypeId) ∧ ofRow cs off num = ofRow cs off num ∧ True) ∧ ((intAt cs (off + Int.toNat a * 5) == (0 : Int)) = false → ((intAt cs (off + Int.toNat a * 5) == (5 : Int)) = true → QhR (0 : Int) (0 : Int) num (1 : Nat) (ofRow cs off num) #[Value.int IntKind.i64 (IntKind.wrap IntKind.i64 (intAt cs (off + Int.toNat a * 5 + 4)))] ∧ CallKind.normal = CallKind.normal ∧ TodoOk (ren 1 [(1, 1), (2, 2)]) hN_d0 hN_d0 ∧ off = off ∧ num = num ∧ a = a ∧ num = num ∧ (0 : Int) = (0 : Int) ∧ (1 : Nat) = (1 : Nat) ∧ (0 : Int) = (0 : Int) ∧ ty = ty ∧ cs = cs ∧ (46 : TypeId) = (46 : TypeId) ∧ ofRow cs off num = ofRow cs off num ∧ (3 : TypeId) = (3 : Nat) ∧ #[Value.int IntKind.i64 (IntKind.wrap IntKind.i64 (intAt cs (off + Int.toNat a * 5 + 4)))] = #[Value.int IntKind.i64 (IntKind.wrap IntKind.i64 (intAt cs (off + Int.toNat a * 5 + 4)))] ∧ True) ∧ ((intAt cs (off + Int.toNat a * 5) == (5 : Int)) = false → ((intAt cs (off + Int.toNat a * 5) == (6 : Int)) = true → (((if ari BinOp.add IntKind.i64 a (1 : Int) > IntKind.wrap IntKind.i64 (intAt cs (off + Int.toNat a * 5 + 4)) then ari BinOp.add IntKind.i64 a (1 : Int) else IntKind.wrap IntKind.i64 (intAt cs (off + Int.toNat a * 5 + 4))) == if ari BinOp.add IntKind.i64 a (1 : Int) < IntKind.wrap IntKind.i64 (intAt cs (off + Int.toNat a * 5 + 4)) then ari BinOp.add IntKind.i64 a (1 : Int) else IntKind.wrap IntKind.i64 (intAt cs (off + Int.toNat a * 5 + 4))) = true → QhR (0 : Int) (0 : Int) num (1 : Nat) (ofRow cs off num) #[Value.int IntKind.i64 (if ari BinOp.add IntKind.i64 a (1 : Int) < IntKind.wrap IntKind.i64 (intAt cs (off + Int.toNat a * 5 + 4)) then ari BinOp.add IntKind.i64 a (1 : Int) else IntKind.wrap IntKind.i64 (intAt cs (off + Int.toNat a * 5 + 4))), Value.int IntKind.i64 (0 : Int)] ∧ CallKind.normal = CallKind.normal ∧ TodoOk (ren 1 [(1, 1), (2, 2)]) hN_d0 hN_d0 ∧ off = off ∧ num = num ∧ a = a ∧ num = num ∧ (0 : Int) = (0 : Int) ∧ (1 : Nat) = (1 : Nat) ∧ (0 : Int) = (0 : Int) ∧ ty = ty ∧ cs = cs ∧ (46 : TypeId) = (46 : TypeId) ∧ ofRow cs off num = ofRow cs off num ∧ (3 : TypeId) = (3 : Nat) ∧ #[Value.int IntKind.i64 (if ari BinOp.add IntKind.i64 a (1 : Int) < IntKind.wrap IntKind.i64 (intAt cs (off + Int.toNat a * 5 + 4)) then ari BinOp.add IntKind.i64 a (1 : Int) else IntKind.wrap IntKind.i64 (intAt cs (off + Int.toNat a * 5 + 4))), Value.int IntKind.i64 (0 : Int)] = #[Value.int IntKind.i64 (if ari BinOp.add IntKind.i64 a (1 : Int) < IntKind.wrap IntKind.i64 (intAt cs (off + Int.toNat a * 5 + 4)) then ari BinOp.add IntKind.i64 a (1 : Int) else IntKind.wrap IntKind.i64 (intAt cs (off + Int.toNat a * 5 + 4))), Value.int IntKind.i64 (0 : Int)] ∧ True) ∧ (((if ari BinOp.add IntKind.i64 a (1 : Int) > IntKind.wrap IntKind.i64 (intAt cs (off + Int.toNat a * 5 + 4)) then ari BinOp.add IntKind.i64 a (1 : Int) else IntKind.wrap IntKind.i64 (intAt cs (off + Int.toNat a * 5 + 4))) == if ari BinOp.add IntKind.i64 a (1 : Int) < IntKind.wrap IntKind.i64 (intAt cs (off + Int.toNat a * 5 + 4)) then ari BinOp.add IntKind.i64 a (1 : Int) else IntKind.wrap IntKind.i64 (intAt cs (off + Int.toNat a * 5 + 4))) = false → QhR (0 : Int) (0 : Int) num (2 : Nat) (ofRow cs off num) #[Value.int IntKind.i64 (if ari BinOp.add IntKind.i64 a (1 : Int) < IntKind.wrap IntKind.i64 (intAt cs (off + Int.toNat a * 5 + 4)) then ari BinOp.add IntKind.i64 a (1 : Int) else IntKind.wrap IntKind.i64 (intAt cs (off + Int.toNat a * 5 + 4))), Value.int IntKind.i64 (if ari BinOp.add IntKind.i64 a (1 : Int) > IntKind.wrap IntKind.i64 (intAt cs (off + Int.toNat a * 5 + 4)) then ari BinOp.add IntKind.i64 a (1 : Int) else IntKind.wrap IntKind.i64 (intAt cs (off + Int.toNat a * 5 + 4)))] ∧ CallKind.normal = CallKind.normal ∧ TodoOk (ren 1 [(1, 1), (2, 2)]) hN_d0 hN_d0 ∧ off = off ∧ num = num ∧ a = a ∧ num = num ∧ (0 : Int) = (0 : Int) ∧ (2 : Nat) = (2 : Nat) ∧ (0 : Int) = (0 : Int) ∧ ty = ty ∧ cs = cs ∧ (46 : TypeId) = (46 : TypeId) ∧ ofRow cs off num = ofRow cs off num ∧ (3 : TypeId) = (3 : Nat) ∧ #[Value.int IntKind.i64 (if ari BinOp.add IntKind.i64 a (1 : Int) < IntKind.wrap IntKind.i64 (intAt cs (off + Int.toNat a * 5 + 4)) then ari BinOp.add IntKind.i64 a (1 : Int) else IntKind.wrap IntKind.i64 (intAt cs (off + Int.toNat a * 5 + 4))), Value.int IntKind.i64 (if ari BinOp.add IntKind.i64 a (1 : Int) > IntKind.wrap IntKind.i64 (intAt cs (off + Int.toNat a * 5 + 4)) then ari BinOp.add IntKind.i64 a (1 : Int) else IntKind.wrap IntKind.i64 (intAt cs (off + Int.toNat a * 5 + 4)))] = #[Value.int IntKind.i64 (if ari BinOp.add IntKind.i64 a (1 : Int) < IntKind.wrap IntKind.i64 (intAt cs (off + Int.toNat a * 5 + 4)) then ari BinOp.add IntKind.i64 a (1 : Int) else IntKind.wrap IntKind.i64 (intAt cs (off + Int.toNat a * 5 + 4))), Value.int IntKind.i64 (if ari BinOp.add IntKind.i64 a (1 : Int) > IntKind.wrap IntKind.i64 (intAt cs (off + Int.toNat a * 5 + 4)) then ari BinOp.add IntKind.i64 a (1 : Int) else IntKind.wrap IntKind.i64 (intAt cs (off + Int.toNat a * 5 + 4)))] ∧ True)) ∧ ((intAt cs (off + Int.toNat a * 5) == (6 : Int)) = false → QhR (0 : Int) (0 : Int) num (1 : Nat) (ofRow cs off num) #[Value.int IntKind.i64 (ari BinOp.add IntKind.i64 a (1 : Int))] ∧ CallKind.normal = CallKind.normal ∧ TodoOk (ren 1 [(1, 1), (2, 2)]) hN_d0 hN_d0 ∧ off = off ∧ num = num ∧ a = a ∧ num = num ∧ (0 : Int) = (0 : Int) ∧ (1 : Nat) = (1 : Nat) ∧ (0 : Int) = (0 : Int) ∧ ty = ty ∧ cs = cs ∧ (46 : TypeId) = (46 : TypeId) ∧ ofRow cs off num = ofRow cs off num ∧ (3 : TypeId) = (3 : Nat) ∧ #[Value.int IntKind.i64 (ari BinOp.add IntKind.i64 a (1 : Int))] = #[Value.int IntKind.i64 (ari BinOp.add IntKind.i64 a (1 : Int))] ∧ True))))) ∧ ((decide (a < (0 : Int)) == false) = false → QhN (0 : Int) (0 : Int) num (ofRow cs off num) ∧ CallKind.normal = CallKind.normal ∧ TodoOk (ren 1 [(1, 1)]) hN_d0 hN_d0 ∧ off = off ∧ num = num ∧ a = a ∧ num = num ∧ (0 : Int) = (0 : Int) ∧ Value.slice none (0 : Nat) (0 : Nat) = Value.slice none (0 : Nat) (0 : Nat) ∧ (0 : Int) = (0 : Int) ∧ ty = ty ∧ cs = cs ∧ (46 : TypeId) = (46 : TypeId) ∧ ofRow cs off num = ofRow cs off num ∧ True))))) := by kernel_rfl
theorem tN_vc (off : Nat) (num : Nat) (cs : Array Value) (ty : TypeId) (a : Int) (k : Int) (i : Int) (n : Nat) (rs : Array Value) (QhN : Int → Int → Nat → Array Value → Prop) : (tN_t off num cs ty a k i n rs).vc ((boolR true)) (tN_x off num cs ty a k i n rs QhN) =
    ((decide (i ≤ (↑num : Int)) = true → (RowOk rs (0 : Nat) n ∧ True) ∧ ((!edB rs (0 : Nat) n a i) = true → QhN k (ari BinOp.add IntKind.i64 i (1 : Int)) n rs ∧ CallKind.normal = CallKind.normal ∧ TodoOk (ren 1 [(1, 1)]) hN_d0 hN_d0 ∧ off = off ∧ num = num ∧ a = a ∧ n = n ∧ ari BinOp.add IntKind.i64 i (1 : Int) = ari BinOp.add IntKind.i64 i (1 : Int) ∧ Value.slice none (0 : Nat) (0 : Nat) = Value.slice none (0 : Nat) (0 : Nat) ∧ k = k ∧ ty = ty ∧ cs = cs ∧ (46 : TypeId) = (46 : TypeId) ∧ rs = rs ∧ True) ∧ ((!edB rs (0 : Nat) n a i) = false → ((decide (k ≥ (0 : Int)) == false) = true → False) ∧ ((decide (k ≥ (0 : Int)) == false) = false → false = true))) ∧ (decide (i ≤ (↑num : Int)) = false → (InsOk cs off num ∧ True) ∧ (mayV cs off num = true → (((k == (0 : Int)) == true) = true → (RowOk rs (0 : Nat) n ∧ n ≤ (64 : Nat) ∧ True) ∧ (num + 1 = n + 1 ∧ LikeB (boL (metB cs off num) (num + 1)) (boL (rchB rs (0 : Nat) n) (n + 1)) (num + 1) ∧ True) ∧ true = true) ∧ (((k == (0 : Int)) == true) = false → false = true)) ∧ (mayV cs off num = false → (((k == (0 : Int)) == true) = true → false = true) ∧ (((k == (0 : Int)) == true) = false → false = true)))) := by kernel_rfl
theorem tR_vc (off : Nat) (num : Nat) (cs : Array Value) (ty : TypeId) (a : Int) (k : Int) (i : Int) (n : Nat) (t : Nat) (rs : Array Value) (ts : Array Value) (QhR : Int → Int → Nat → Nat → Array Value → Array Value → Prop) : (tR_t off num cs ty a k i n t rs ts).vc ((boolR true)) (tR_x off num cs ty a k i n t rs ts QhR) =
    ((decide (i ≤ (↑num : Int)) = true → (RowOk rs (0 : Nat) n ∧ True) ∧ ((!edB rs (0 : Nat) n a i) = true → QhR k (ari BinOp.add IntKind.i64 i (1 : Int)) n t rs ts ∧ CallKind.normal = CallKind.normal ∧ TodoOk (ren 1 [(1, 1), (2, 2)]) hN_d0 hN_d0 ∧ off = off ∧ num = num ∧ a = a ∧ n = n ∧ ari BinOp.add IntKind.i64 i (1 : Int) = ari BinOp.add IntKind.i64 i (1 : Int) ∧ t = t ∧ k = k ∧ ty = ty ∧ cs = cs ∧ (46 : TypeId) = (46 : TypeId) ∧ rs = rs ∧ (3 : TypeId) = (3 : TypeId) ∧ ts = ts ∧ True) ∧ ((!edB rs (0 : Nat) n a i) = false → ((decide (k ≥ (↑t : Int)) == false) = true → (((0 : Int) ≤ k ∧ k < (↑t : Int)) ∧ True) ∧ (IsInt IntKind.i64 ts ((0 : Nat) + Int.toNat k * 1) ∧ True) ∧ ((intAt ts ((0 : Nat) + Int.toNat k * 1) != i) = true → false = true) ∧ ((intAt ts ((0 : Nat) + Int.toNat k * 1) != i) = false → QhR (ari BinOp.add IntKind.i64 k (1 : Int)) (ari BinOp.add IntKind.i64 i (1 : Int)) n t rs ts ∧ CallKind.normal = CallKind.normal ∧ TodoOk (ren 1 [(1, 1), (2, 2)]) hN_d0 hN_d0 ∧ off = off ∧ num = num ∧ a = a ∧ n = n ∧ ari BinOp.add IntKind.i64 i (1 : Int) = ari BinOp.add IntKind.i64 i (1 : Int) ∧ t = t ∧ ari BinOp.add IntKind.i64 k (1 : Int) = ari BinOp.add IntKind.i64 k (1 : Int) ∧ ty = ty ∧ cs = cs ∧ (46 : TypeId) = (46 : TypeId) ∧ rs = rs ∧ (3 : TypeId) = (3 : TypeId) ∧ ts = ts ∧ True)) ∧ ((decide (k ≥ (↑t : Int)) == false) = false → false = true))) ∧ (decide (i ≤ (↑num : Int)) = false → (InsOk cs off num ∧ True) ∧ (mayV cs off num = true → (((k == (↑t : Int)) == true) = true → (RowOk rs (0 : Nat) n ∧ n ≤ (64 : Nat) ∧ True) ∧ (num + 1 = n + 1 ∧ LikeB (boL (metB cs off num) (num + 1)) (boL (rchB rs (0 : Nat) n) (n + 1)) (num + 1) ∧ True) ∧ true = true) ∧ (((k == (↑t : Int)) == true) = false → false = true)) ∧ (mayV cs off num = false → (((k == (↑t : Int)) == true) = true → false = true) ∧ (((k == (↑t : Int)) == true) = false → false = true)))) := by kernel_rfl
end Go.Proofs.Ytebkbihhnoellaa
/- Of flow: FlowGoes' rounds. No condition. -/
namespace Go.Proofs.Ytebkbihhnoellaa
set_option linter.unusedSectionVars false
set_option maxRecDepth 100000
theorem EGo_ok : EnvOk EGo := EnvOk.with E0_ok _ _ conGo_ok
section
variable (off num : Nat) (cs : Array Value) (ty : TypeId) (a : Int) (hI : InsOk cs off num) (hM : mayV cs off num = true)
include hI hM
theorem ref_row : RowOk (ofRow cs off num) 0 num ∧ LikeB (boL (metB cs off num) (num + 1)) (boL (rchB (ofRow cs off num) 0 num) (num + 1)) (num + 1) := by
  have n64 := (mayV_iff.1 hM).1
  obtain ⟨h1, h2⟩ := of_row hI
  exact ⟨h1, like_boL (by omega) fun i hi => met_rch hI hM h2 (by omega)⟩
theorem hN_round (hE : ∀ i : Nat, edB (ofRow cs off num) 0 num a i = false) : ∀ (K i : Nat), num + 1 - i < K → i ≤ num + 1 → Good Try.prog (boolR true) 1 (hN_F off num cs ty a (0 : Nat) i num (ofRow cs off num)) (hN_M off num cs ty a (0 : Nat) i num (ofRow cs off num)) := by
  have n64 := (mayV_iff.1 hM).1
  obtain ⟨hR, hL⟩ := ref_row off num cs hI hM
  intro K
  induction K with
  | zero => intro i h; omega
  | succ K ih =>
    intro i hK hi
    refine past_vc EGo_ok 1000 (tN_vc off num cs ty a (0 : Nat) i num (ofRow cs off num) (fun k' i' n' rs' => k' = (0 : Nat) ∧ i' = (i + 1 : Nat) ∧ n' = num ∧ rs' = ofRow cs off num ∧ i ≤ num)) ?_ (fun _ _ h => h)
      (fun fs m hb => tN_go (fun k' i' n' rs' h => ?_) hb)
    · rw [i64_add1 (show i < 1000 by omega), hE i]
      have e0 : (((0 : Nat) : Int) == 0) = true := rfl
      by_cases d : i ≤ num
      · have e1 : decide ((i : Int) ≤ (num : Int)) = true := decide_eq_true (by omega)
        simp only [e1, hR, d, Bool.not_false, Bool.true_eq_false, Bool.false_eq_true, false_implies, true_implies, true_and, and_true, hN_d0_ok]
      · have e1 : decide ((i : Int) ≤ (num : Int)) = false := decide_eq_false (by omega)
        simp only [e1, e0, hI, hM, hR, hL, n64, beqT, beqF, Bool.not_true, Bool.not_false, Bool.true_eq_false, Bool.false_eq_true, false_implies, true_implies, true_and, and_true]
    · obtain ⟨rfl, rfl, rfl, rfl, h⟩ := h
      exact ih (i + 1) (by omega) (by omega)
theorem hR_round {t : Nat} {ts : Array Value} {l : Nat → Nat} (ht : t ≤ 2) (hts : ∀ j, j < t → IsInt .i64 ts (0 + j * 1) ∧ intAt ts (0 + j * 1) = (l j : Int)) (hl : ∀ j, j < t → l j ≤ num) (hs : ∀ j j', j < j' → j' < t → l j < l j')
    (hE : ∀ i : Nat, edB (ofRow cs off num) 0 num a i = true ↔ ∃ j, j < t ∧ l j = i) :
    ∀ (K i k : Nat), num + 1 - i < K → i ≤ num + 1 → k ≤ t → (∀ j, j < t → (l j < i ↔ j < k)) → Good Try.prog (boolR true) 1 (hR_F off num cs ty a k i num t (ofRow cs off num) ts) (hR_M off num cs ty a k i num t (ofRow cs off num) ts) := by
  have n64 := (mayV_iff.1 hM).1
  obtain ⟨hR, hL⟩ := ref_row off num cs hI hM
  intro K
  induction K with
  | zero => intro i k h; omega
  | succ K ih =>
    intro i k hK hi hk hc
    refine past_vc EGo_ok 1000 (tR_vc off num cs ty a k i num t (ofRow cs off num) ts (fun k' i' n' t' rs' ts' => ∃ kk : Nat, k' = kk ∧ i' = (i + 1 : Nat) ∧ n' = num ∧ t' = t ∧ rs' = ofRow cs off num ∧ ts' = ts ∧ i ≤ num ∧ kk ≤ t ∧ ∀ j, j < t → (l j < i + 1 ↔ j < kk))) ?_ (fun _ _ h => h)
      (fun fs m hb => tR_go (fun k' i' n' t' rs' ts' h => ?_) hb)
    · rw [i64_add1 (show i < 1000 by omega), i64_add1 (show k < 1000 by omega), Int.toNat_natCast]
      by_cases d : i ≤ num
      · have e1 : decide ((i : Int) ≤ (num : Int)) = true := decide_eq_true (by omega)
        by_cases c : edB (ofRow cs off num) 0 num a i = true
        · obtain ⟨j, hj, hji⟩ := (hE i).1 c
          have hjk : ¬ j < k := fun h => by have := (hc j hj).2 h; omega
          have hkt : k < t := by omega
          have hlk : l k = i := by
            by_cases h : k = j
            · rw [h]; exact hji
            · have h1 := hs k j (by omega) hj
              have h2 := (hc k hkt).1 (by omega)
              omega
          obtain ⟨b1, b2⟩ := hts k hkt
          have e2 : decide ((k : Int) ≥ (t : Int)) = false := decide_eq_false (by omega)
          have e3 : (intAt ts (0 + k * 1) != (i : Int)) = false := by rw [b2, hlk]; simp
          have w1 : (0 : Int) ≤ (k : Int) ∧ (k : Int) < (t : Int) := by omega
          have hq : ∃ kk : Nat, ((k + 1 : Nat) : Int) = kk ∧ kk ≤ t ∧ ∀ j, j < t → (l j < i + 1 ↔ j < kk) := ⟨k + 1, rfl, by omega, fun j' hj' => by
            have h1 := hc j' hj'
            by_cases h : j' = k
            · subst h; omega
            · by_cases h2 : j' < k
              · have := h1.2 h2; omega
              · have := hs k j' (by omega) hj'; omega⟩
          simp only [e1, e2, e3, c, hR, b1, w1, d, hq, beqT, beqF, Bool.not_true, Bool.not_false, Bool.true_eq_false, Bool.false_eq_true, false_implies, true_implies, true_and, and_true, hN_d0_ok]
        · have c' : edB (ofRow cs off num) 0 num a i = false := by simpa using c
          have hq : ∃ kk : Nat, (k : Int) = kk ∧ kk ≤ t ∧ ∀ j, j < t → (l j < i + 1 ↔ j < kk) := ⟨k, rfl, hk, fun j' hj' => by
            have h1 := hc j' hj'
            have h2 : l j' ≠ i := fun e => c ((hE i).2 ⟨j', hj', e⟩)
            omega⟩
          simp only [e1, c', hR, d, hq, beqT, beqF, Bool.not_true, Bool.not_false, Bool.true_eq_false, Bool.false_eq_true, false_implies, true_implies, true_and, and_true, hN_d0_ok]
      · have e1 : decide ((i : Int) ≤ (num : Int)) = false := decide_eq_false (by omega)
        have hkt : k = t := by
          by_cases h : k < t
          · have h1 := hc k h
            have h2 := hl k h
            omega
          · omega
        have e0 : ((k : Int) == (t : Int)) = true := by rw [beq_iff_eq, hkt]
        simp only [e1, e0, hI, hM, hR, hL, n64, beqT, beqF, Bool.not_true, Bool.not_false, Bool.true_eq_false, Bool.false_eq_true, false_implies, true_implies, true_and, and_true]
    · obtain ⟨kk, rfl, rfl, rfl, rfl, rfl, rfl, h1, h2, h3⟩ := h
      exact ih (i + 1) kk (by omega) (by omega) h2 h3
end
end Go.Proofs.Ytebkbihhnoellaa
/- Of flow: FlowGoes of a row that is not empty. No condition. -/
namespace Go.Proofs.Ytebkbihhnoellaa
set_option linter.unusedSectionVars false
set_option maxRecDepth 100000
theorem ed_to {cs : Array Value} {off num : Nat} (hI : InsOk cs off num) (a i : Nat) : edB (ofRow cs off num) 0 num a i = true ↔ i ∈ toL cs off num a := by
  obtain ⟨_, h⟩ := of_row hI
  rw [edB_toL (fun i hi => by rw [h i hi]; exact (hI.2 i hi).2.2.2.2.2.1)]
  have e2 : toL (ofRow cs off num) 0 num a = toL cs off num a := by
    by_cases d : num ≤ a
    · unfold toL; rw [if_pos d, if_pos d]
    · have hh := h a (by omega)
      unfold toL; rw [hh]
  rw [e2]
theorem ed_out {cs : Array Value} {off num : Nat} {a : Int} (h : ¬ (0 ≤ a ∧ a < (num : Int))) (i : Int) : edB cs off num a i = false := by
  cases e : edB cs off num a i with
  | false => rfl
  | true => have := edB_iff.1 e; exact (h ⟨this.1, this.2.1⟩).elim
theorem may_of {cs : Array Value} {off num : Nat} (hI : InsOk cs off num) : mayV (ofRow cs off num) 0 num = mayV cs off num := by
  obtain ⟨_, h⟩ := of_row hI
  rw [Bool.eq_iff_iff, mayV_iff, mayV_iff]
  exact ⟨fun ⟨a, b⟩ => ⟨a, fun i hi => by rw [← h i hi]; exact b i hi⟩, fun ⟨a, b⟩ => ⟨a, fun i hi => by rw [h i hi]; exact b i hi⟩⟩
end Go.Proofs.Ytebkbihhnoellaa
/- Of flow: rows without instructions: an environment. No condition. -/
namespace Go.Proofs.Ytebkbihhnoellaa
set_option maxRecDepth 100000
noncomputable section
def conZ (g : FuncId) (l : List SV) (m : SMem) : Option Tree := match g, l with
  | 6, [] => some (needs [] (.ret (sB (.l true)) m))
  | _, _ => none
def EZ : Env := ⟨Try.prog, fnOf, conZ, fun _ _ _ => false⟩
def e0V : SV := .s (.c (.f .e0))
end
theorem conZ_ok (g : FuncId) (l : List SV) (m : SMem) (t : Tree) (h : conZ g l m = some t) : Con E0 g l m t := by
  unfold conZ at h
  split at h
  · exact conA_ok 6 [] _ _ h
  · cases h
theorem EZ_ok : EnvOk EZ := EnvOk.with E0_ok _ _ conZ_ok
end Go.Proofs.Ytebkbihhnoellaa
/- Of flow: rows without instructions: Ways. -/
namespace Go.Proofs.Ytebkbihhnoellaa
set_option maxRecDepth 100000
theorem wz_vc (a : Int) (rw : Array Value) : (run EZ 8000 1 [callFr 30 Try.f30.ntmps [nilV, i64 (.o a)] (Try.f30.body.getD .skip)] (mkM 1 [])).vc (aggR rw) (fun _ _ => False) =
    (((1 : Nat) ≤ (4225 : Nat) ∧ True) ∧ (IsBool (putAt (bigZ (Env.P EZ) (61 : Nat)) (0 : Nat) [Value.bool false]) (0 : Nat) ∧ True) ∧ (false = true → (IsBool (putAt (bigZ (Env.P EZ) (61 : Nat)) (0 : Nat) [Value.bool false]) (0 : Nat) ∧ True) ∧ (true = true → (IsBool (putAt (bigZ (Env.P EZ) (61 : Nat)) (0 : Nat) [Value.bool false]) (0 : Nat) ∧ True) ∧ ((1 : Nat) ≤ (4225 : Nat) ∧ True) ∧ ((4225 : Nat) = (4225 : Nat) ∧ True) ∧ ((4225 : Nat) = (4225 : Nat) ∧ (4225 : Nat) = (4225 : Nat) ∧ True) ∧ ((4225 : Nat) = (4225 : Nat) ∧ True) ∧ putAt (putAt (bigZ (Env.P EZ) (61 : Nat)) (0 : Nat) [Value.bool false]) (0 : Nat) [Value.bool (boolAt (putAt (bigZ (Env.P EZ) (61 : Nat)) (0 : Nat) [Value.bool false]) (0 : Nat))] = rw) ∧ (true = false → ((1 : Nat) ≤ (4225 : Nat) ∧ True) ∧ ((4225 : Nat) = (4225 : Nat) ∧ True) ∧ ((4225 : Nat) = (4225 : Nat) ∧ (4225 : Nat) = (4225 : Nat) ∧ True) ∧ ((4225 : Nat) = (4225 : Nat) ∧ True) ∧ putAt (putAt (bigZ (Env.P EZ) (61 : Nat)) (0 : Nat) [Value.bool false]) (0 : Nat) [Value.bool true] = rw)) ∧ (false = false → ((4225 : Nat) = (4225 : Nat) ∧ True) ∧ ((4225 : Nat) = (4225 : Nat) ∧ (4225 : Nat) = (4225 : Nat) ∧ True) ∧ ((4225 : Nat) = (4225 : Nat) ∧ True) ∧ putAt (bigZ (Env.P EZ) (61 : Nat)) (0 : Nat) [Value.bool false] = rw)) := by kernel_rfl
end Go.Proofs.Ytebkbihhnoellaa
/- Of flow: rows without instructions: Ways as a contract. No condition. -/
namespace Go.Proofs.Ytebkbihhnoellaa
set_option maxRecDepth 100000
noncomputable section
def zT : Array Value := tbM fun _ _ => false
def conZ2 (Z : Array Value) (g : FuncId) (l : List SV) (m : SMem) : Option Tree := match g, l with
  | 30, [.s (.c (.f (.lit (.slice none 0 0)))), .s (.c (.f (.int .i64 _)))] => some (needs [Z = zT] (.ret (agg Z) m))
  | g, l => conZ g l m
def EZ2 (Z : Array Value) : Env := ⟨Try.prog, fnOf, conZ2 Z, fun _ _ _ => false⟩
end
theorem zT_at {p : Nat} (h : p < 4225) : zT[p]? = some (.bool false) := by
  rw [show zT = bigZ (Env.P EW) 61 from zW_eq.symm]
  have h1 : (bigZ (Env.P EW) 61).toList = List.replicate 4225 (Value.bool false) := by kernel_rfl
  rw [← Array.getElem?_toList, h1, List.getElem?_replicate, if_pos h]
theorem zT_is {p : Nat} (h : p < 4225) : IsBool zT p ∧ boolAt zT p = false := ⟨isBo_of (zT_at h), boolAt_of (zT_at h)⟩
theorem zT_put : putAt zT 0 [Value.bool false] = zT := by
  refine Array.ext' ?_
  rw [show zT = bigZ (Env.P EW) 61 from zW_eq.symm]
  kernel_rfl
theorem ways_nil (a : Int) : Good Try.prog (aggR zT) 1 [callFr 30 Try.f30.ntmps [nilV, i64 (.o a)] (Try.f30.body.getD .skip)] (mkM 1 []) := by
  refine run_vc EZ_ok 8000 (wz_vc a zT) ?_ (fun _ _ h => h) (fun _ _ h => h.elim)
  have e : bigZ (Env.P EZ) 61 = zT := zW_eq
  rw [e]
  simp only [zT_put, (zT_is (p := 0) (by omega)).1, Bool.false_eq_true, false_implies, true_implies, true_and, and_true]
  decide
theorem ways_con (Z : Array Value) (a : SI) (m : SMem) : Con E0 30 [nilV, i64 a] m (needs [Z = zT] (.ret (agg Z) m)) := by
  refine Con.ro E0_ok (q := [Z = zT]) (l' := [nilV, i64 (.o a.den)]) (ms := mkM 1 []) (A := aggR Z) fn30 body30 rfl (fun i => i) ?_ ?_ (fun hq => by rw [hq _ (List.mem_singleton.2 rfl)]; exact ways_nil a.den) (fun s m' R R' v h hv => ?_)
  · intro i b hb
    exact absurd hb (by unfold getB mkM; intro h; cases h)
  · intro R vs ha
    match vs, ha with
    | [x, y], ha => exact ha
  · unfold aggR at h
    split at h
    · rw [h] at hv; exact hv
    · exact h.elim
theorem conZ2_ok (Z : Array Value) (g : FuncId) (l : List SV) (m : SMem) (t : Tree) (h : conZ2 Z g l m = some t) : Con E0 g l m t := by
  unfold conZ2 at h
  split at h
  · cases h; exact ways_con _ _ _
  · exact conZ_ok _ _ _ _ h
theorem EZ2_ok (Z : Array Value) : EnvOk (EZ2 Z) := EnvOk.with E0_ok _ _ (conZ2_ok Z)
end Go.Proofs.Ytebkbihhnoellaa
/- Of flow: rows without instructions: the laws. -/
namespace Go.Proofs.Ytebkbihhnoellaa
set_option maxRecDepth 100000
theorem ge_vc (Z : Array Value) (a b : Int) : (run (EZ2 Z) 8000 1 [callFr 3 Try.f3.ntmps [e0V, i64 (.o a), i64 (.o b)] (Try.f3.body.getD .skip)] (mkM 1 [])).vc (boolR true) (fun _ _ => False) =
    (((decide (a < (0 : Int)) == false) = true → (decide (a ≥ (0 : Int)) = true → ((decide (a < (0 : Int)) == false) = true → (decide (a ≥ (0 : Int)) = true → (Z = zT ∧ True) ∧ (Array.size Z = (4225 : Nat) ∧ Array.size Z = (4225 : Nat) ∧ True) ∧ true = true) ∧ (decide (a ≥ (0 : Int)) = false → False)) ∧ ((decide (a < (0 : Int)) == false) = false → (Z = zT ∧ True) ∧ (Array.size Z = (4225 : Nat) ∧ Array.size Z = (4225 : Nat) ∧ True) ∧ true = true)) ∧ (decide (a ≥ (0 : Int)) = false → False)) ∧ ((decide (a < (0 : Int)) == false) = false → ((decide (a < (0 : Int)) == false) = true → (decide (a ≥ (0 : Int)) = true → (Z = zT ∧ True) ∧ (Array.size Z = (4225 : Nat) ∧ Array.size Z = (4225 : Nat) ∧ True) ∧ true = true) ∧ (decide (a ≥ (0 : Int)) = false → False)) ∧ ((decide (a < (0 : Int)) == false) = false → (Z = zT ∧ True) ∧ (Array.size Z = (4225 : Nat) ∧ Array.size Z = (4225 : Nat) ∧ True) ∧ true = true))) := by kernel_rfl
end Go.Proofs.Ytebkbihhnoellaa
/- Of flow: rows without instructions: FlowLoops. -/
namespace Go.Proofs.Ytebkbihhnoellaa
set_option maxRecDepth 100000
theorem le_vc (Z : Array Value) : (run (EZ2 Z) 8000 1 [callFr 4 Try.f4.ntmps [e0V] (Try.f4.body.getD .skip)] (mkM 1 [])).vc (boolR true) (fun _ _ => False) =
    ((Z = zT ∧ True) ∧ (Array.size Z = (4225 : Nat) ∧ Array.size Z = (4225 : Nat) ∧ True) ∧ (IsBool Z ((0 : Nat) + 0 * (65 : Nat) + 0 * (1 : Nat)) ∧ True) ∧ ((!((0 : Int) == (1 : Int)) == boolAt Z ((0 : Nat) + 0 * (65 : Nat) + 0 * (1 : Nat))) = true → false = true) ∧ ((!((0 : Int) == (1 : Int)) == boolAt Z ((0 : Nat) + 0 * (65 : Nat) + 0 * (1 : Nat))) = false → (Z = zT ∧ True) ∧ (Array.size Z = (4225 : Nat) ∧ Array.size Z = (4225 : Nat) ∧ True) ∧ (IsBool Z ((0 : Nat) + 0 * (65 : Nat) + 0 * (1 : Nat)) ∧ True) ∧ (boolAt Z ((0 : Nat) + 0 * (65 : Nat) + 0 * (1 : Nat)) = true → false = true) ∧ (boolAt Z ((0 : Nat) + 0 * (65 : Nat) + 0 * (1 : Nat)) = false → true = true))) := by kernel_rfl
end Go.Proofs.Ytebkbihhnoellaa
/- Of flow: rows without instructions: FlowTrims. -/
namespace Go.Proofs.Ytebkbihhnoellaa
set_option maxRecDepth 100000
theorem te_vc (Z : Array Value) (a b : Int) : (run (EZ2 Z) 8000 1 [callFr 5 Try.f5.ntmps [e0V, i64 (.o a), i64 (.o b)] (Try.f5.body.getD .skip)] (mkM 1 [])).vc (boolR true) (fun _ _ => False) =
    ((Z = zT ∧ True) ∧ (Array.size Z = (4225 : Nat) ∧ Array.size Z = (4225 : Nat) ∧ True) ∧ ((decide (a < (0 : Int)) == false) = true → ((decide (a > (0 : Int)) == false) = true → ((decide (b < (0 : Int)) == false) = true → ((decide (b > (0 : Int)) == false) = true → (((0 : Int) ≤ a ∧ a < (1 : Int)) ∧ True) ∧ False) ∧ ((decide (b > (0 : Int)) == false) = false → (Z = zT ∧ True) ∧ (Array.size Z = (4225 : Nat) ∧ Array.size Z = (4225 : Nat) ∧ True) ∧ ((decide (a < (0 : Int)) == false) = true → ((decide (b < (0 : Int)) == false) = true → ((decide (a > (0 : Int)) == false) = true → ((decide (b > (0 : Int)) == false) = true → (((0 : Int) ≤ a ∧ a < (1 : Int)) ∧ True) ∧ False) ∧ ((decide (b > (0 : Int)) == false) = false → true = true)) ∧ ((decide (a > (0 : Int)) == false) = false → true = true)) ∧ ((decide (b < (0 : Int)) == false) = false → true = true)) ∧ ((decide (a < (0 : Int)) == false) = false → true = true))) ∧ ((decide (b < (0 : Int)) == false) = false → (Z = zT ∧ True) ∧ (Array.size Z = (4225 : Nat) ∧ Array.size Z = (4225 : Nat) ∧ True) ∧ ((decide (a < (0 : Int)) == false) = true → ((decide (b < (0 : Int)) == false) = true → ((decide (a > (0 : Int)) == false) = true → ((decide (b > (0 : Int)) == false) = true → (((0 : Int) ≤ a ∧ a < (1 : Int)) ∧ True) ∧ False) ∧ ((decide (b > (0 : Int)) == false) = false → true = true)) ∧ ((decide (a > (0 : Int)) == false) = false → true = true)) ∧ ((decide (b < (0 : Int)) == false) = false → true = true)) ∧ ((decide (a < (0 : Int)) == false) = false → true = true))) ∧ ((decide (a > (0 : Int)) == false) = false → (Z = zT ∧ True) ∧ (Array.size Z = (4225 : Nat) ∧ Array.size Z = (4225 : Nat) ∧ True) ∧ ((decide (a < (0 : Int)) == false) = true → ((decide (b < (0 : Int)) == false) = true → ((decide (a > (0 : Int)) == false) = true → ((decide (b > (0 : Int)) == false) = true → (((0 : Int) ≤ a ∧ a < (1 : Int)) ∧ True) ∧ False) ∧ ((decide (b > (0 : Int)) == false) = false → true = true)) ∧ ((decide (a > (0 : Int)) == false) = false → true = true)) ∧ ((decide (b < (0 : Int)) == false) = false → true = true)) ∧ ((decide (a < (0 : Int)) == false) = false → true = true))) ∧ ((decide (a < (0 : Int)) == false) = false → (Z = zT ∧ True) ∧ (Array.size Z = (4225 : Nat) ∧ Array.size Z = (4225 : Nat) ∧ True) ∧ ((decide (a < (0 : Int)) == false) = true → ((decide (b < (0 : Int)) == false) = true → ((decide (a > (0 : Int)) == false) = true → ((decide (b > (0 : Int)) == false) = true → (((0 : Int) ≤ a ∧ a < (1 : Int)) ∧ True) ∧ False) ∧ ((decide (b > (0 : Int)) == false) = false → true = true)) ∧ ((decide (a > (0 : Int)) == false) = false → true = true)) ∧ ((decide (b < (0 : Int)) == false) = false → true = true)) ∧ ((decide (a < (0 : Int)) == false) = false → true = true))) := by kernel_rfl
end Go.Proofs.Ytebkbihhnoellaa
/- Of flow: laws of rows without instructions. No condition. -/
namespace Go.Proofs.Ytebkbihhnoellaa
set_option maxRecDepth 100000
theorem zT_size : zT.size = 4225 := tbM_size _
theorem goes_none (a b : Int) : Good Try.prog (boolR true) 1 [callFr 3 Try.f3.ntmps [e0V, i64 (.o a), i64 (.o b)] (Try.f3.body.getD .skip)] (mkM 1 []) := by
  refine run_vc (EZ2_ok zT) 8000 (ge_vc zT a b) ?_ (fun _ _ h => h) (fun _ _ h => h.elim)
  have e : (decide (a < (0 : Int)) == false) = true → decide (a ≥ (0 : Int)) = false → False := fun h1 h2 => by
    have h1 := of_decide_eq_false (eq_of_beq h1); have h2 := of_decide_eq_false h2; omega
  refine ⟨fun h1 => ⟨fun _ => ⟨fun _ => ⟨fun _ => ⟨⟨rfl, trivial⟩, ⟨zT_size, zT_size, trivial⟩, rfl⟩, fun h => e h1 h⟩, fun _ => ⟨⟨rfl, trivial⟩, ⟨zT_size, zT_size, trivial⟩, rfl⟩⟩, fun h => e h1 h⟩, fun _ => ⟨fun h1 => ⟨fun _ => ⟨⟨rfl, trivial⟩, ⟨zT_size, zT_size, trivial⟩, rfl⟩, fun h => e h1 h⟩, fun _ => ⟨⟨rfl, trivial⟩, ⟨zT_size, zT_size, trivial⟩, rfl⟩⟩⟩
theorem loops_none : Good Try.prog (boolR true) 1 [callFr 4 Try.f4.ntmps [e0V] (Try.f4.body.getD .skip)] (mkM 1 []) := by
  refine run_vc (EZ2_ok zT) 8000 (le_vc zT) ?_ (fun _ _ h => h) (fun _ _ h => h.elim)
  have hz := zT_is (p := 0) (by omega)
  refine ⟨⟨rfl, trivial⟩, ⟨zT_size, zT_size, trivial⟩, ⟨by simpa using hz.1, trivial⟩, fun h => ?_, fun _ => ⟨⟨rfl, trivial⟩, ⟨zT_size, zT_size, trivial⟩, ⟨by simpa using hz.1, trivial⟩, fun h => ?_, fun _ => rfl⟩⟩
  · simp [hz.2] at h
  · simp [hz.2] at h
end Go.Proofs.Ytebkbihhnoellaa
/- Of flow: FlowGoes of a row that is not empty: its run. No condition. -/
namespace Go.Proofs.Ytebkbihhnoellaa
set_option linter.unusedSectionVars false
set_option maxRecDepth 100000
noncomputable def goC (off num : Nat) (a b : Int) : List SFr := [callFr 3 Try.f3.ntmps [prS off num, i64 (.o a), i64 (.o b)] (Try.f3.body.getD .skip)]
theorem one_ok {off num : Nat} {cs : Array Value} {a : Int} {ts : Array Value} {x : Nat} {v : Int} (hv : v = x) (h0 : ts[0]? = some (.int .i64 v)) (hx : x ≤ num) (h : ∀ i : Nat, edB (ofRow cs off num) 0 num a i = true ↔ i = x) :
    ∃ l : Nat → Nat, (1 : Nat) ≤ 2 ∧ (∀ j, j < 1 → IsInt .i64 ts (0 + j * 1) ∧ intAt ts (0 + j * 1) = (l j : Int)) ∧ (∀ j, j < 1 → l j ≤ num) ∧ (∀ j j', j < j' → j' < 1 → l j < l j') ∧ ∀ i : Nat, edB (ofRow cs off num) 0 num a i = true ↔ ∃ j, j < 1 ∧ l j = i := by
  subst hv
  refine ⟨fun _ => x, by omega, fun j hj => ?_, fun _ _ => hx, fun j j' _ _ => by omega, fun i => (h i).trans ⟨fun e => ⟨0, by omega, e.symm⟩, fun ⟨_, _, e⟩ => e.symm⟩⟩
  obtain rfl : j = 0 := by omega
  exact ⟨isI_of h0, intAt_of h0⟩
theorem two_ok {off num : Nat} {cs : Array Value} {a : Int} {ts : Array Value} {x y : Nat} {v w : Int} (hv : v = x) (hw : w = y) (h0 : ts[0]? = some (.int .i64 v)) (h1 : ts[1]? = some (.int .i64 w)) (hxy : x < y) (hy : y ≤ num) (h : ∀ i : Nat, edB (ofRow cs off num) 0 num a i = true ↔ i = x ∨ i = y) :
    ∃ l : Nat → Nat, (2 : Nat) ≤ 2 ∧ (∀ j, j < 2 → IsInt .i64 ts (0 + j * 1) ∧ intAt ts (0 + j * 1) = (l j : Int)) ∧ (∀ j, j < 2 → l j ≤ num) ∧ (∀ j j', j < j' → j' < 2 → l j < l j') ∧ ∀ i : Nat, edB (ofRow cs off num) 0 num a i = true ↔ ∃ j, j < 2 ∧ l j = i := by
  subst hv hw
  refine ⟨fun j => if j = 0 then x else y, by omega, fun j hj => ?_, fun j _ => ?_, fun j j' _ _ => ?_, fun i => (h i).trans ⟨fun e => ?_, fun ⟨j, hj, e⟩ => ?_⟩⟩
  · match j, hj with
    | 0, _ => exact ⟨isI_of h0, intAt_of h0⟩
    | 1, _ => exact ⟨isI_of h1, intAt_of h1⟩
  · dsimp only; split <;> omega
  · dsimp only; rw [if_pos (by omega), if_neg (by omega)]; exact hxy
  · rcases e with e | e
    · exact ⟨0, by omega, e.symm⟩
    · exact ⟨1, by omega, e.symm⟩
  · dsimp only at e; split at e <;> omega
theorem goes_good (off num : Nat) (cs : Array Value) (ty : TypeId) (a b : Int) (hI : InsOk cs off num) (h0 : num ≠ 0) : Good Try.prog (boolR true) 1 (goC off num a b) (rawM cs ty) := by
  obtain ⟨hR, _⟩ := of_row hI
  have hmo := may_of hI
  refine run_vc EGo_ok 8000 (sH_vc off num cs ty a b
    (fun k' i' n' t' rs' ts' => num ≤ 200 ∧ mayV cs off num = true ∧ k' = (0 : Nat) ∧ i' = (0 : Nat) ∧ num = n' ∧ rs' = ofRow cs off num ∧ ∃ l : Nat → Nat, t' ≤ 2 ∧ (∀ j, j < t' → IsInt .i64 ts' (0 + j * 1) ∧ intAt ts' (0 + j * 1) = (l j : Int)) ∧ (∀ j, j < t' → l j ≤ num) ∧ (∀ j j', j < j' → j' < t' → l j < l j') ∧ ∀ i : Nat, edB (ofRow cs off num) 0 num a i = true ↔ ∃ j, j < t' ∧ l j = i)
    (fun k' i' n' rs' => mayV cs off num = true ∧ k' = (0 : Nat) ∧ i' = (0 : Nat) ∧ num = n' ∧ rs' = ofRow cs off num ∧ ∀ i : Nat, edB (ofRow cs off num) 0 num a i = false)) ?_ (fun _ _ h => h)
    (fun fs m hb => sH_go (fun k' i' n' t' rs' ts' h => ?_) (fun k' i' n' rs' h => ?_) hb)
  · have e200 : decide ((num : Int) > 200) = true ∨ decide ((num : Int) > 200) = false := by cases decide ((num : Int) > 200) <;> simp
    rcases e200 with e2 | e2
    · simp only [e2, Bool.true_eq_false, Bool.false_eq_true, false_implies, true_implies, true_and, and_true]
    have h200 : num ≤ 200 := by have := of_decide_eq_false e2; omega
    cases hM : mayV cs off num with
    | false =>
      rw [hM] at hmo
      simp only [e2, hI, h0, h200, hR, hmo, hM, Bool.not_true, Bool.not_false, Bool.true_eq_false, Bool.false_eq_true, false_implies, true_implies, true_and, and_true, ne_eq, not_false_eq_true]
    | true =>
      rw [hM] at hmo
      simp only [e2, hI, h0, h200, hR, hmo, Bool.not_true, Bool.not_false, Bool.true_eq_false, Bool.false_eq_true, false_implies, true_implies, true_and, and_true, ne_eq, not_false_eq_true, hN_d0_ok]
      obtain ⟨n64, hA⟩ := mayV_iff.1 hM
      by_cases a0 : 0 ≤ a ∧ a < (num : Int)
      rotate_left
      · have hz := ed_out (cs := ofRow cs off num) (off := 0) a0
        refine ⟨fun c => ⟨fun c2 => ?_, fun c2 => ?_⟩, fun c => ?_⟩
        · exact ⟨rfl, rfl, fun i => hz i⟩
        · have c := eq_of_beq c
          have c1 := of_decide_eq_false c; have c2 := of_decide_eq_false c2
          exact (a0 (by omega)).elim
        · exact ⟨rfl, rfl, fun i => hz i⟩
      obtain ⟨a00, a1⟩ := a0
      obtain ⟨i, rfl⟩ := Int.eq_ofNat_of_zero_le a00
      have hi : i < num := by omega
      have e0 : decide ((i : Int) < 0) = false := decide_eq_false (by omega)
      have e3 : decide ((i : Int) ≥ (num : Int)) = false := decide_eq_false (by omega)
      obtain ⟨⟨i1, i2, i3, i4, i5⟩, r1, r2, r3, r4, r5⟩ := hI.2 i hi
      obtain ⟨_, _, _, _, k5⟩ := Ins.okN_iff.1 (hA i hi)
      have et := toL_eq (cs := cs) (off := off) (show ¬ num ≤ i by omega)
      have hed := ed_to hI i
      simp only [ins] at r1 r5 k5
      have eA : ari BinOp.add IntKind.i64 (i : Int) 1 = ((i + 1 : Nat) : Int) := by rw [ari_add, i64_nat (by omega)]
      have eN : IntKind.i64.wrap (intAt cs (off + i * 5 + 4)) = ((intAt cs (off + i * 5 + 4)).toNat : Int) := by rw [Go.IntWalk.i64_in _ (by omega)]; omega
      simp only [e0, e3, i1, i5, a00, a1, beqT, beqF, Int.toNat_natCast, Bool.not_true, Bool.not_false, Bool.true_eq_false, Bool.false_eq_true, false_implies, true_implies, true_and, and_true]
      rw [eA, eN]
      simp only [et] at hed
      generalize hnn : (intAt cs (off + i * 5 + 4)).toNat = nn at hed ⊢
      generalize ho : intAt cs (off + i * 5) = o at hed r1 k5 ⊢
      by_cases o0 : o = 0
      · have f0 : (o == 0) = true := by rw [o0]; rfl
        simp only [if_pos o0, List.not_mem_nil, iff_false] at hed
        simp only [f0, Bool.true_eq_false, false_implies, true_implies, and_true]
        exact ⟨rfl, rfl, fun j => by simpa using hed j⟩
      have f0 : (o == 0) = false := by rw [beq_eq_false_iff_ne]; exact o0
      simp only [if_neg o0] at hed
      by_cases o5 : o = 5
      · have f5 : (o == 5) = true := by rw [o5]; rfl
        simp only [if_pos o5, List.mem_singleton] at hed
        simp only [f0, f5, Bool.true_eq_false, Bool.false_eq_true, false_implies, true_implies, true_and, and_true]
        exact ⟨rfl, rfl, one_ok rfl rfl (by omega) hed⟩
      have f5 : (o == 5) = false := by rw [beq_eq_false_iff_ne]; exact o5
      simp only [if_neg o5] at hed
      by_cases o6 : o = 6
      · have f6 : (o == 6) = true := by rw [o6]; rfl
        simp only [if_pos o6] at hed
        simp only [f0, f5, f6, Bool.true_eq_false, Bool.false_eq_true, false_implies, true_implies, true_and, and_true]
        by_cases hc : nn = i + 1
        · subst hc
          simp only [if_pos, List.mem_singleton] at hed
          have g1 : ¬ (((i + 1 : Nat) : Int) > ((i + 1 : Nat) : Int)) := by omega
          have g2 : ¬ (((i + 1 : Nat) : Int) < ((i + 1 : Nat) : Int)) := by omega
          simp only [if_neg g1, if_neg g2, beq_self_eq_true, Bool.true_eq_false, false_implies, true_implies, and_true]
          exact ⟨rfl, rfl, one_ok rfl rfl (by omega) hed⟩
        · simp only [if_neg hc, List.mem_cons, List.not_mem_nil, or_false] at hed
          by_cases hlt : nn < i + 1
          · have g1 : ((i + 1 : Nat) : Int) > (nn : Int) := by omega
            have g2 : ¬ (((i + 1 : Nat) : Int) < (nn : Int)) := by omega
            have g3 : ((((i + 1 : Nat) : Int)) == (nn : Int)) = false := by rw [beq_eq_false_iff_ne]; omega
            simp only [if_pos g1, if_neg g2, g3, Bool.true_eq_false, Bool.false_eq_true, false_implies, true_implies, true_and, and_true]
            exact ⟨rfl, rfl, two_ok rfl rfl rfl rfl hlt (by omega) (fun j => (hed j).trans (by omega))⟩
          · have g1 : ¬ (((i + 1 : Nat) : Int) > (nn : Int)) := by omega
            have g2 : (((i + 1 : Nat) : Int) < (nn : Int)) := by omega
            have g3 : ((nn : Int) == (((i + 1 : Nat) : Int))) = false := by rw [beq_eq_false_iff_ne]; omega
            simp only [if_neg g1, if_pos g2, g3, Bool.true_eq_false, Bool.false_eq_true, false_implies, true_implies, true_and, and_true]
            exact ⟨rfl, rfl, two_ok rfl rfl rfl rfl (show i + 1 < nn by omega) (by omega) (fun j => (hed j).trans (by omega))⟩
      have f6 : (o == 6) = false := by rw [beq_eq_false_iff_ne]; exact o6
      simp only [if_neg o6, List.mem_singleton] at hed
      simp only [f0, f5, f6, Bool.true_eq_false, Bool.false_eq_true, false_implies, true_implies, true_and, and_true]
      exact ⟨rfl, rfl, one_ok rfl rfl (by omega) hed⟩
  · obtain ⟨_, hM, rfl, rfl, e, rfl, l, h1, h2, h3, h4, h5⟩ := h
    subst e
    exact hR_round off _ cs ty a hI hM h1 h2 h3 h4 h5 (num + 2) 0 0 (by omega) (by omega) (by omega) (fun j _ => by omega)
  · obtain ⟨hM, rfl, rfl, e, rfl, h⟩ := h
    subst e
    exact hN_round off _ cs ty a hI hM h (num + 2) 0 (by omega) (by omega)
end Go.Proofs.Ytebkbihhnoellaa
/- How a call of data enters the symbolic machine, and how what it leaves is told; without package-level variables. No condition. -/
namespace Go.Proofs.Ytebkbihhnoellaa
noncomputable section
open Go.ChangeShapes Go.WideShapes Go.ChangeAt Go.RowKit Go.Deep

theorem own : ownKnob Try.prog.godebug = none := by kernel_rfl
theorem laidOut : laidOutB Try.prog = true := by kernel_rfl
theorem sub_get {l : List Value} {a b o : Nat} {v : Value} (h : ((l.drop a).take b)[o]? = some v) : l[a + o]? = some v := by
  rw [List.getElem?_take] at h
  split at h
  · rw [List.getElem?_drop] at h; exact h
  · cases h
theorem sub_one {l : List Value} {a b : Nat} {v : Value} (h : (l.drop a).take b = [v]) : l[a]? = some v := by
  have : ((l.drop a).take b)[0]? = some v := by rw [h]; rfl
  exact sub_get this
section
variable {H : Type} {enc : TypeId × Value → H} {P : Program} {w : World} {base : Nat} {spare : Nat → Bool} {held : Bool}
theorem field_of {t : TypeId} {fs : Array Field} {fuel : Nat} {cs : List Value} {x : DataW H × List MemPlace} (ht : P.underlying t = some (.struct fs)) (h : DataW.trod enc P w base spare held fuel t cs = some x)
    (i : Nat) {f : Field} (hf : fs[i]? = some f) : ∃ n y, DataW.trod enc P w base spare held n f.type ((cs.drop f.offset).take (P.cellsOf f.type)) = some y := by
  obtain ⟨ys, n, _, _, _, hyl, hg⟩ := DataW.trod_struct ht h
  have hlt : i < fs.size := (Array.getElem?_eq_some_iff.1 hf).1
  have hys : ys[i]? = some (ys[i]'(by omega)) := List.getElem?_eq_getElem (by omega)
  exact ⟨n, _, (hg i f hf).trans hys⟩
theorem add_none (b off n : Nat) : (⟨b, off, none⟩ : Addr).add n = ⟨b, off + n, none⟩ := by
  unfold Addr.add
  split
  · rename_i e; subst e; rfl
  · rfl
/-- A slice that came in: where it lies, and each element as it reads. -/
theorem slice_cells {t e : TypeId} {base' C : Nat} {fuel : Nat} {A : Option Addr} {len cap : Nat} {x : DataW H × List MemPlace} (ht : P.underlying t = some (.slice e)) (hC : P.cellsOf e = C)
    (hok : Value.okWide P w .any base t (.slice A len cap)) (h : DataW.trod enc P w base' (fun _ => true) held fuel t [.slice A len cap] = some x) :
    (A = none ∧ len = 0 ∧ cap = 0) ∨ ∃ b off cs ty fz, A = some ⟨b, off, none⟩ ∧ len ≤ cap ∧ cap ≤ maxLen ∧ w.heap[b]? = some (.cells cs ty fz) ∧
      ∀ j, j < len → ∃ n y, DataW.trod enc P w base' (fun _ => true) held n e ((cs.toList.drop (off + j * C)).take C) = some y := by
  rcases open_slice ht h with ⟨hcs, hx⟩ | ⟨a, len', cap', m, n, D, Pl, hcs, _, hl, hmx, hm, hx, hi⟩
  · simp at hcs
    exact .inl hcs
  · simp at hcs
    obtain ⟨rfl, rfl, rfl⟩ := hcs
    simp at hm
    subst hm
    obtain ⟨b, off, spot⟩ := a
    simp only [Value.okWide, ht, Cell.okWide, Cell.ok] at hok
    obtain ⟨_, _, _, hs, _, _, hsh, _⟩ := hok
    have hs : spot = none := hs
    subst hs
    cases ho : w.heap[b]? with
    | none => simp [World.shape?, ho] at hsh
    | some o =>
      have hcells : ∃ cs ty fz, o = .cells cs ty fz := by
        cases o <;> first | exact ⟨_, _, _, rfl⟩ | simp [World.shape?, ho] at hsh
      obtain ⟨cs, ty, fz, rfl⟩ := hcells
      refine .inr ⟨b, off, cs, ty, fz, rfl, hl, hmx, ho, fun j hj => ?_⟩
      obtain ⟨cs', hc, ht'⟩ := hi j (by omega)
      rw [hC] at hc
      obtain ⟨_, hcl, hat⟩ := World.cells?_some hc
      refine ⟨n, (D j, Pl j), ?_⟩
      rw [← ht']
      congr 1
      apply List.ext_getElem?
      intro i
      rw [List.getElem?_take]
      by_cases hi' : i < C
      · rw [if_pos hi', ← hat i hi', add_none, add_none]
        simp [World.cell?, ho, Nat.add_assoc]
      · rw [if_neg hi', List.getElem?_eq_none (by omega)]
theorem post_of_below {f : Func} {s : ChangeSpec} {apart fresh handsOn again : Bool} {W W' : World} {args : Array Value} {v : Value} {ds gs : List (DataW H)} {before pa pv : List MemPlace}
    (hW : DataW.Whole enc P f.params.toList s.vars apart W args.toList ds gs before)
    (hres : ∀ (b : Nat) (sp : Nat → Bool) (hd : Bool), DataW.TrodAll enc P W' b sp hd f.resultTypes.toList (v.resultList f.resultTypes.size) (s.fn H (ds ++ gs)).results [])
    (hargs : ∀ sp : Nat → Bool, (∀ p ∈ before, sp p.block = true) → DataW.TrodAll enc P W' 0 sp true f.params.toList args.toList (s.fn H (ds ++ gs)).args pa)
    (hvars : ∀ sp : Nat → Bool, (∀ p ∈ before, sp p.block = true) → DataW.TrodVars enc P W' sp s.vars (s.fn H (ds ++ gs)).vars pv)
    (hps : before = pa ++ pv) (hb : Below W.heap.size W W')
    (hok : ∀ (j : Nat) (t : TypeId) (r : Value), f.resultTypes[j]? = some t → (v.resultList f.resultTypes.size)[j]? = some r → Value.okWide P W' .any 0 t r) :
    s.post enc P f apart fresh handsOn again W args v W' := by
  have hlt : ∀ p ∈ before, p.block < W.heap.size := fun p hp => hW.lt p hp
  have hold : ∀ p ∈ before, (fun b => decide (b < W.heap.size)) p.block = true := fun p hp => by simpa using hlt p hp
  refine ⟨ds, gs, before, [], pa, pv, hW, hres _ _ _, hargs _ hold, hvars _ hold, World.keptBut_mono (fun p hp => ⟨hp, ?_⟩) (hb.frame (· ∈ before)), fun _ => ?_⟩
  · rw [hps, List.mem_append] at hp
    exact Or.inr hp
  · obtain ⟨_, _, _, _, _, hz, hn⟩ := hW
    refine ⟨hok, _, _, ([] ++ pa) ++ pv, ⟨[] ++ pa, pv, trodAll_append (hargs _ (fun _ _ => rfl)) (hres _ _ _), hvars _ (fun _ _ => rfl), rfl, ?_, ?_⟩, ?_⟩
    · intro b off hp
      have hin : MemPlace.cell b off ∈ before := by rw [hps]; simpa using hp
      rw [hb.frozen (hlt _ hin)]
      exact hz b off hin
    · intro ha
      have := hn ha
      rw [hps] at this
      simpa using this
    · intro p hp _
      rw [hps]
      simpa using hp
end
theorem below_of {n0 : Nat} {w0 w : World} (h : BelowF n0 (fun _ => False) w0 w) : Below n0 w0 w := ⟨h.os, h.tape, h.output, h.size, fun k hk => h.block k hk fun x => x⟩
theorem rel_empty (hg : glTab = []) (W : World) (n : Nat) : Rel W.heap.size (fun _ => False) W (fun _ => none) ⟨n, .nil, []⟩ W :=
  ⟨fun _ _ _ _ _ _ h => by (cases h), fun _ _ h => by (cases h), fun _ _ h => by (cases h), fun i b h => by (have h : (Tr.nil : Tr SBlk).get i = some b := h; rw [Tr.get_nil] at h; cases h), Nat.le_refl _, BelowF.refl _ _ _,
    fun _ _ h => by (cases h), fun _ _ _ _ _ _ h => by (cases h), fun g cs h => by rw [hg] at h; cases h⟩
/-- One block came in, at which nothing is written. -/
def oneD (ds : Array Value) (ty : TypeId) : SMem := ⟨1, Tr.node .nil (some ⟨.raw ds, ty, false⟩) .nil, []⟩
theorem one_get {ds : Array Value} {ty : TypeId} {i : Nat} {b : SBlk} (h : getB (oneD ds ty).bl i = some b) : i = 0 ∧ b = ⟨.raw ds, ty, false⟩ := by
  unfold getB oneD at h
  cases i with
  | zero => cases h; exact ⟨rfl, rfl⟩
  | succ i =>
    rw [Tr.get_succ, Tr.get_nil, ite_self] at h
    cases h
theorem rel_one (hg : glTab = []) {W : World} {b : Nat} {cs : Array Value} {ty : TypeId} {fz : Nat × Nat} (hb : W.heap[b]? = some (.cells cs ty fz)) :
    Rel W.heap.size (fun _ => False) W (fun i => if i = 0 then some ⟨b, cs.size⟩ else none) (oneD cs ty) W := by
  have key : ∀ {i : Nat} {g : Loc}, (if i = 0 then some (⟨b, cs.size⟩ : Loc) else none) = some g → i = 0 ∧ g = ⟨b, cs.size⟩ := by
    intro i g h
    split at h
    · rename_i e; cases h; exact ⟨e, rfl⟩
    · cases h
  have hlt : b < W.heap.size := (Array.getElem?_eq_some_iff.1 hb).1
  refine ⟨fun i j g h b c h1 h2 _ _ _ _ => by rw [(key h1).1, (key h2).1], fun i g h => by rw [(key h).2]; exact hlt, fun i g h => by rw [(key h).1]; exact Nat.zero_lt_one, fun i c hc => ?_, Nat.le_refl _, BelowF.refl _ _ _,
    fun _ _ h => by (cases h), fun _ _ _ _ _ _ _ _ _ h => by (cases h), fun g cs h => by rw [hg] at h; cases h⟩
  obtain ⟨rfl, rfl⟩ := one_get hc
  exact ⟨⟨b, cs.size⟩, cs, fz, rfl, hb, rfl, rfl, fun h => by cases h⟩
end
end Go.Proofs.Ytebkbihhnoellaa
/- Of flow: rows of instructions that came in. No condition. -/
namespace Go.Proofs.Ytebkbihhnoellaa
set_option maxRecDepth 100000
open Go.ChangeShapes Go.WideShapes Go.ChangeAt Go.RowKit Go.Deep
theorem cells52 : Try.prog.cellsOf 52 = 5 := by kernel_rfl
theorem gl_nil : glTab = [] := rfl
theorem isInt_of {k : IntKind} {cs : Array Value} {i : Nat} {n : Int} (h : cs.toList[i]? = some (.int k n)) : IsInt k cs i ∧ intAt cs i = n := by
  rw [Array.getElem?_toList] at h
  exact ⟨isI_of h, intAt_of h⟩
theorem wf_u8 {n : Int} (h : (Lit.int .u8 n).wf = true) : 0 ≤ n ∧ n ≤ 255 := by
  simp only [Lit.wf, Bool.and_eq_true, decide_eq_true_eq] at h
  exact h
theorem wf_u16 {n : Int} (h : (Lit.int .u16 n).wf = true) : 0 ≤ n ∧ n ≤ 65535 := by
  simp only [Lit.wf, Bool.and_eq_true, decide_eq_true_eq] at h
  exact h
theorem ins_of {H : Type} {enc : TypeId × Value → H} {W : World} {base : Nat} {held : Bool} {n : Nat} {cs : Array Value} {off i : Nat} {y : DataW H × List MemPlace}
    (h : DataW.trod enc Try.prog W base (fun _ => true) held n 52 ((cs.toList.drop (off + i * 5)).take 5) = some y) : InsAt cs (off + i * 5) ∧ (ins cs off i).In := by
  obtain ⟨n0, y0, h0⟩ := field_of Try.underlying52 h 0 rfl
  obtain ⟨n1, y1, h1⟩ := field_of Try.underlying52 h 1 rfl
  obtain ⟨n2, y2, h2⟩ := field_of Try.underlying52 h 2 rfl
  obtain ⟨n3, y3, h3⟩ := field_of Try.underlying52 h 3 rfl
  obtain ⟨n4, y4, h4⟩ := field_of Try.underlying52 h 4 rfl
  obtain ⟨m0, e0, _, w0⟩ := DataW.trod_int Try.underlying5 h0
  obtain ⟨m1, e1, _, w1⟩ := DataW.trod_int Try.underlying5 h1
  obtain ⟨m2, e2, _, w2⟩ := DataW.trod_int Try.underlying5 h2
  obtain ⟨m3, e3, _, w3⟩ := DataW.trod_int Try.underlying5 h3
  obtain ⟨m4, e4, _, w4⟩ := DataW.trod_int Try.underlying50 h4
  obtain ⟨a0, b0⟩ := isInt_of (sub_get (sub_one e0))
  obtain ⟨a1, b1⟩ := isInt_of (sub_get (sub_one e1))
  obtain ⟨a2, b2⟩ := isInt_of (sub_get (sub_one e2))
  obtain ⟨a3, b3⟩ := isInt_of (sub_get (sub_one e3))
  obtain ⟨a4, b4⟩ := isInt_of (sub_get (sub_one e4))
  refine ⟨⟨a0, a1, a2, a3, a4⟩, ?_⟩
  have w0 := wf_u8 w0
  have w1 := wf_u8 w1
  have w2 := wf_u8 w2
  have w3 := wf_u8 w3
  have w4 := wf_u16 w4
  rw [← b0] at w0
  rw [← b1] at w1
  rw [← b2] at w2
  rw [← b3] at w3
  rw [← b4] at w4
  exact ⟨w0, w1, w2, w3, w4⟩
/-- A row of instructions that came in: empty, or so many cells of a block. -/
def InsIn (W : World) (v : Value) : Prop :=
  (∃ a c, v = .slice a 0 c) ∨ ∃ b off n cap cs ty fz, v = .slice (some ⟨b, off, none⟩) n cap ∧ n ≠ 0 ∧ n ≤ cap ∧ W.heap[b]? = some (.cells cs ty fz) ∧ (n ≤ 200 → InsOk cs off n)
theorem ins_in {H : Type} {enc : TypeId × Value → H} {W : World} {base base' : Nat} {fuel : Nat} {v : Value} {held : Bool} {x : DataW H × List MemPlace}
    (hok : Value.okWide Try.prog W .any base 22 v) (h : DataW.trod enc Try.prog W base' (fun _ => true) held fuel 22 [v] = some x) : InsIn W v := by
  obtain ⟨A, len, cap, rfl⟩ := okWide_slice Try.underlying22 hok
  rcases slice_cells Try.underlying22 cells52 hok h with ⟨rfl, rfl, rfl⟩ | ⟨b, off, cs, ty, fz, rfl, hl, _, ho, hj⟩
  · exact .inl ⟨_, _, rfl⟩
  · by_cases h0 : len = 0
    · subst h0; exact .inl ⟨_, _, rfl⟩
    · refine .inr ⟨b, off, len, cap, cs, ty, fz, rfl, h0, hl, ho, fun hn => ⟨by omega, fun i hi => ?_⟩⟩
      obtain ⟨n, y, hy⟩ := hj i hi
      exact ins_of hy
theorem boolR_true {R : Ren} {s : SV} {m : SMem} {v : Value} (h : boolR true s m) (hv : s.ok R v) : v = .bool true := by
  unfold boolR at h
  split at h
  · have hv : v = .bool _ := hv
    rw [hv, h]
  · exact h.elim
theorem calls_of {W : World} {g : FuncId} {fn : Func} {c : Code} {l : List SV} {args : Array Value} {m : SMem} {R : Ren} (h1 : Try.prog.funcs[g]? = some fn) (h2 : fn.body = some c) (hg : Good Try.prog (boolR true) m.next [callFr g fn.ntmps l c] m) (hl : All2 (SV.ok R) l args.toList) (hR : Rel W.heap.size (fun _ => False) W R m W) :
    Calls Try.prog g args W fun e w' => e = .returned (.bool true) ∧ Below W.heap.size W w' := by
  have h := answers_of_good h1 h2 hg hl hR
  unfold Answers at h
  refine h.mono ?_
  rintro e w' ⟨v, rfl, s', m', R', hr, _, hR', hv⟩
  exact ⟨by rw [boolR_true hr hv], below_of hR'.fr⟩
end Go.Proofs.Ytebkbihhnoellaa
