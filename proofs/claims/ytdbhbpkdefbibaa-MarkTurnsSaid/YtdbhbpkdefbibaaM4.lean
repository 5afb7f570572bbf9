/- Of mark: the contract of leave. No condition. -/
import Derived.Test.YtdbhbpkdefbibaaM3
namespace Go.Proofs.Ytdbhbpkdefbibaa

noncomputable def E2 : Env := ⟨Try.prog, fnOf, fun g l m => if g = 22 then conPlace l m else none, fun _ i => isLoop i⟩
theorem E2_ok : EnvOk E2 := ⟨fn_ok, (fun g l m t A h hs => by
  replace h : (if g = 22 then conPlace l m else none) = some t := h
  by_cases e : g = 22
  · subst e
    rw [if_pos rfl] at h
    exact ⟨Try.f22, rfl, rfl, fun n0 F w0 w R args hl hR => conPlace_ok h hs hl hR⟩
  · rw [if_neg e] at h
    cases h), mixed⟩
def oneW (cs : Array Value) (ty : TypeId) : SMem := ⟨1, [⟨0, .op cs, ty, true⟩]⟩
theorem leave_vc0 (off : Nat) (t : Int) (cs X : Array Value) (ty : TypeId) :
    (run E2 1000 ⟨19, padN Try.f19.ntmps [some (ptr 0 (.o off)), some (i64 (.o t))], [.code (Try.f19.body.getD .skip)], 1⟩ (oneW cs ty)).follow (retOk 1 [] (.tup []) (oneW X ty)) (fun _ _ => False) [true] =
    ((Places cs off ∧ True) ∧ decide (placeOf cs off t < 0) = true ∧ ty = ty ∧ X = cs ∧ True) := by kernel_rfl
theorem leave_vc1 (off : Nat) (t : Int) (cs X : Array Value) (ty : TypeId) :
    (run E2 1000 ⟨19, padN Try.f19.ntmps [some (ptr 0 (.o off)), some (i64 (.o t))], [.code (Try.f19.body.getD .skip)], 1⟩ (oneW cs ty)).follow (retOk 1 [] (.tup []) (oneW X ty)) (fun _ _ => False) [false] =
    ((Places cs off ∧ True) ∧ decide (placeOf cs off t < 0) = false ∧
      (0 ≤ placeOf cs off t ∧ (placeOf cs off t).toNat ≤ 8 ∧ IsInt .u8 cs (off + 2) ∧ 0 ≤ intAt cs (off + 2) ∧ (intAt cs (off + 2)).toNat ≤ 8 ∧ 0 ≤ IntKind.i64.wrap (placeOf cs off t + 1) ∧
        (IntKind.i64.wrap (placeOf cs off t + 1)).toNat ≤ (intAt cs (off + 2)).toNat ∧
        lvS off (IntKind.i64.wrap (placeOf cs off t + 1)).toNat + ((intAt cs (off + 2)).toNat - (IntKind.i64.wrap (placeOf cs off t + 1)).toNat).min (8 - (placeOf cs off t).toNat) * 1 ≤ cs.size ∧
        lvS off (placeOf cs off t).toNat + (lvX cs off (placeOf cs off t) (intAt cs (off + 2)).toNat).size ≤ cs.size ∧ True) ∧
      (IsInt .u8 (lv1 cs off (placeOf cs off t) (intAt cs (off + 2)).toNat) (off + 2) ∧ True) ∧
      (off + 2 < (lv1 cs off (placeOf cs off t) (intAt cs (off + 2)).toNat).size ∧ True) ∧
      (IsInt .u8 (lv2 cs off (placeOf cs off t) (intAt cs (off + 2)).toNat) (off + 2) ∧ (0 ≤ intAt (lv2 cs off (placeOf cs off t) (intAt cs (off + 2)).toNat) (off + 2) ∧ intAt (lv2 cs off (placeOf cs off t) (intAt cs (off + 2)).toNat) (off + 2) < (8 : Nat)) ∧
        off + 3 + (intAt (lv2 cs off (placeOf cs off t) (intAt cs (off + 2)).toNat) (off + 2)).toNat * 1 < (lv2 cs off (placeOf cs off t) (intAt cs (off + 2)).toNat).size ∧ True) ∧
      ty = ty ∧ X = lv3 cs off (placeOf cs off t) (intAt cs (off + 2)).toNat ∧ True) := by kernel_rfl
end Go.Proofs.Ytdbhbpkdefbibaa
