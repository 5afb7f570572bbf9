/- Of mail: MailOrder's loop: its states. No condition. -/
import Derived.Test.YtkahmhcfhefneaaW1
namespace Go.Proofs.Ytkahmhcfhefneaa
noncomputable def oRun (off n : Nat) (ds : Array Value) (ty : TypeId) : Tree := run EL 1000 1 [callFr 4 Try.f4.ntmps [actsS off n] (Try.f4.body.getD .skip)] (oneD ds ty)
noncomputable def oTodo0 : List SIt := (oRun 0 0 #[] 0).todo
noncomputable def oTodo : List SIt := headL oTodo0
def u64 (x : Int) : SV := .s (.c (.f (.int .u64 (.o x))))
def oTm (nt : Nat) (off n : Nat) (c : Bool) (put taken i : Int) : Tm :=
  tmOf nt [(0, actsS off n), (3, ptr 1 (.l 0)), (4, u64 put), (5, u64 taken), (6, sB (.l c)), (7, i64 (.o i))]
noncomputable def oFr (td : List SIt) (off n : Nat) (c : Bool) (put taken i : Int) : SFr := ⟨4, oTm Try.f4.ntmps off n c put taken i, td, [], .run, .normal, none⟩
def boxM (ds : Array Value) (ty : TypeId) (ms : List Msg) (c : Bool) : SMem :=
  ⟨2, (oneD ds ty).bl.set 1 (some ⟨.ls (boxC ms c), 31, true⟩), []⟩
def wordsOk : Int → List Msg → Prop
  | _, [] => True
  | t, m :: r => m.w = t ∧ wordsOk (t + 1) r
/-- What is so at each round. -/
def oInv (n : Nat) (ms : List Msg) (put taken i : Int) : Prop := len ms ≤ 4 ∧ wordsOk taken ms ∧ put = taken + len ms ∧ 0 ≤ taken ∧ taken + len ms ≤ i ∧ 0 ≤ i ∧ i ≤ n ∧ n ≤ 200
def svInt : Option SV → Option Int
  | some (.s (.c (.f (.int _ x)))) => some x.den
  | _ => none
/-- The next round's state, as it is come to. -/
noncomputable def oNext (td : List SIt) (off n : Nat) (ds : Array Value) (ty : TypeId) (nx : Int) (fs : List SFr) (m : SMem) : Prop :=
  match fs with
  | [f] => match f.tm.get 3, f.tm.get 6, svInt (f.tm.get 4), svInt (f.tm.get 5), svInt (f.tm.get 7) with
    | some (.s (.c (.f (.ptr id _)))), some (.s (.c (.f (.bool (.l c))))), some put, some taken, some i => match getB m.bl id with
      | some ⟨.ls l, _, _⟩ => match readBox l with
        | some (ms, c') => i = nx ∧ c' = c ∧ oInv n ms put taken i ∧ subOk 1 [(1, id)] [oFr td off n c put taken i] (boxM ds ty ms c) fs m
        | none => False
      | _ => False
    | _, _, _, _, _ => False
  | _ => False
def okRet (sv : SV) (_ : SMem) : Prop :=
  match sv with
  | .s (.c (.f (.bool (.l true)))) => True
  | .s (.c (.f (.bool (.o b)))) => b = true
  | _ => False
noncomputable def oStep (off n : Nat) (ds : Array Value) (ty : TypeId) (ms : List Msg) (c : Bool) (put taken i : Int) : Tree :=
  stepT EL.go (run EL 1000) 1 [oFr oTodo off n c put taken i] (boxM ds ty ms c)
end Go.Proofs.Ytkahmhcfhefneaa
