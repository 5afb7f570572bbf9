/- Of sched: the closed test. No condition. -/
import Derived.Test.YtdnnkmhgnomfgaaGreatDoorE1
import Derived.Test.YtdnnkmhgnomfgaaGreatDoorK15
import Derived.Test.YtdnnkmhgnomfgaaGreatDoorF1
namespace Go.Proofs.YtdnnkmhgnomfgaaGreatDoor
set_option maxRecDepth 1000000 in
theorem swakes_fast : (runC E0 100000 0 [callFr 27 Tryz.f27.ntmps [] (Tryz.f27.body.getD .skip)] ⟨0, .nil, []⟩).allTrue = true := by kernel_rfl
theorem swakes_true : (run E0 100000 0 [callFr 27 Tryz.f27.ntmps [] (Tryz.f27.body.getD .skip)] ⟨0, .nil, []⟩).allTrue = true := by
  rw [← runC_eq]
  exact swakes_fast
theorem swakes_fn : E0.fn 27 = some Tryz.f27 := by kernel_rfl
theorem swakes_body : Tryz.f27.body = some (Tryz.f27.body.getD .skip) := by kernel_rfl
theorem swakes_con (m : SMem) : Con E0 27 [] m (needs [] (.ret (sB (.l true)) m)) :=
  Con.pure E0_ok swakes_fn swakes_body (by kernel_rfl) (by kernel_rfl) fun _ => good_true E0_ok swakes_true
def conS (g : FuncId) (l : List SV) (m : SMem) : Option Tree :=
  match g, l with
  | 27, [] => some (.ret (sB (.l true)) m)
  | _, _ => none
/-- The closed test by its contract; one stops at the loops of Gap, the program's and the document's. -/
noncomputable def ES : Env := ⟨Tryz.prog, fnOf, conS, fun d f x => Nat.beq d 1 && (Nat.beq f 29 && Nat.beq (loopId x) 3 || Nat.beq f 30 && (Nat.beq (loopId x) 3 || Nat.beq (loopId x) 7))⟩
theorem ES_ok : EnvOk ES := by
  refine EnvOk.with E0_ok _ _ fun g l m t h => ?_
  unfold conS at h
  split at h
  · cases h; exact swakes_con m
  · cases h
/-- Picks. -/
def picksS (off n : Nat) : SV := .s (.c (.f (.slice 0 (.o off) (.o n) .any)))
def u8S (t : Int) : SV := .s (.c (.f (.int .u8 (.o t))))
/-- A policy, whose order is told. -/
def polS (k : Int) (o : SF) (s e la si : Int) : SV :=
  .s (.agg (.ls [.f (.int .u8 (.o k)), .f o, .f (.int .u64 (.o s)), .f (.int .i64 (.o e)), .f (.int .u8 (.o la)), .f (.int .i64 (.o si))]))
end Go.Proofs.YtdnnkmhgnomfgaaGreatDoor
