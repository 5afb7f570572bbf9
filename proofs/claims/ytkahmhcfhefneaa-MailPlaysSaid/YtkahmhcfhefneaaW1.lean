/- Of mail: the closed test; the environment of its laws. No condition. -/
import Derived.Test.YtkahmhcfhefneaaE1
import Derived.Test.YtkahmhcfhefneaaK15
import Derived.Test.YtkahmhcfhefneaaR0
namespace Go.Proofs.Ytkahmhcfhefneaa
theorem wakes_true : (run E0 100000 0 [callFr 5 Try.f5.ntmps [] (Try.f5.body.getD .skip)] ⟨0, .nil, []⟩).allTrue = true := by kernel_rfl
theorem wakes_fn : E0.fn 5 = some Try.f5 := by kernel_rfl
theorem wakes_body : Try.f5.body = some (Try.f5.body.getD .skip) := by kernel_rfl
theorem wakes_con (m : SMem) : Con E0 5 [] m (needs [] (.ret (sB (.l true)) m)) :=
  Con.pure E0_ok wakes_fn wakes_body (by kernel_rfl) (by kernel_rfl) fun _ => good_true E0_ok wakes_true
def conW (g : FuncId) (l : List SV) (m : SMem) : Option Tree :=
  match g, l with
  | 5, [] => some (.ret (sB (.l true)) m)
  | _, _ => none
/-- The closed test by its contract; one stops at the laws' loops. -/
noncomputable def EL : Env := ⟨Try.prog, fnOf, conW, fun d f x => Nat.beq d 0 && (Nat.beq f 4 && Nat.beq (loopId x) 7 || Nat.beq f 3 && Nat.beq (loopId x) 6)⟩
theorem EL_ok : EnvOk EL := by
  refine EnvOk.with E0_ok _ _ fun g l m t h => ?_
  unfold conW at h
  split at h
  · cases h; exact wakes_con m
  · cases h
/-- The acts. -/
def actsS (off n : Nat) : SV := .s (.c (.f (.slice 0 (.o off) (.o n) .any)))

/-- An act's cells. -/
structure ActIs (ds : Array Value) (p : Nat) : Prop where
  a0 : ∀ q, q = p → IsInt .u8 ds q
  a1 : ∀ q, q = p + 1 → IsInt .u8 ds q
  a2 : ∀ q, q = p + 2 → IsInt .u64 ds q
  a3 : ∀ q, q = p + 3 → IsInt .u32 ds q
  a4 : ∀ q, q = p + 4 → IsBool ds q
  r1 : 0 ≤ intAt ds (p + 1) ∧ intAt ds (p + 1) ≤ 255
  r3 : 0 ≤ intAt ds (p + 3) ∧ intAt ds (p + 3) ≤ 4294967295
def ActsOk (ds : Array Value) (off n : Nat) : Prop := ∀ j, j < n → ActIs ds (off + j * 5)
/-- A message: from, word, region, share. -/
structure Msg where
  f : Int
  w : Int
  r : Int
  s : Bool
def Msg.cells (m : Msg) : List SC := [.f (.int .u8 (.o m.f)), .f (.int .u64 (.o m.w)), .f (.int .u32 (.o m.r)), .f (.bool (.o m.s))]
def zeroC : List SC := [.f (.int .u8 (.l 0)), .f (.int .u64 (.l 0)), .f (.int .u32 (.l 0)), .f (.bool (.l false))]
def msgsC : List Msg → List SC
  | [] => []
  | m :: l => m.cells ++ msgsC l
/-- A box's cells. -/
def boxC (ms : List Msg) (c : Bool) : List SC := msgsC ms ++ repL (4 - len ms) zeroC ++ [.f (.int .u8 (.l 0)), .f (.int .u8 (.l (len ms))), .f (.bool (.l c))]
def readMsg : List SC → Option Msg
  | [.f (.int _ f), .f (.int _ w), .f (.int _ r), .f (.bool s)] => some ⟨f.den, w.den, r.den, s.den⟩
  | _ => none
def readMsgs : Nat → List SC → List Msg
  | 0, _ => []
  | n + 1, l => match takeN l 4 with
    | some c => match readMsg c with
      | some m => m :: readMsgs n (dropN l 4)
      | none => []
    | none => []
/-- What a box's cells tell. -/
def readBox (l : List SC) : Option (List Msg × Bool) :=
  match nth l 17, nth l 18 with
  | some (.f (.int _ (.l k))), some (.f (.bool (.l c))) => some (readMsgs k.toNat l, c)
  | _, _ => none
end Go.Proofs.Ytkahmhcfhefneaa
