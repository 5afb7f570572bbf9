/- Of sched: SchedGaps' loops: their states. No condition. -/
import Derived.Test.YtdnnkmhgnomfgaaGreatDoorS1
namespace Go.Proofs.YtdnnkmhgnomfgaaGreatDoor
noncomputable section
/-- One block came in, at which nothing is written; two. -/
def m0 (ds : Array Value) (ty : TypeId) : SMem := ⟨2, (Tr.nil : Tr SBlk).set 0 (some ⟨.raw ds, ty, false⟩), []⟩
def m1 (ds : Array Value) (ty : TypeId) (es : Array Value) (ty2 : TypeId) : SMem := ⟨2, ((Tr.nil : Tr SBlk).set 0 (some ⟨.raw ds, ty, false⟩)).set 1 (some ⟨.raw es, ty2, false⟩), []⟩
def nilO : SF := .lit (.slice none 0 0)
def emO (o : Nat) : SF := .slice 1 (.o o) (.l 0) .any
def soO (o n : Nat) : SF := .slice 1 (.o o) (.o n) .any
def sRun (p : SV) (pol : SV) (t : Int) (m : SMem) : Tree := run ES 1000 2 [callFr 6 Tryz.f6.ntmps [p, u8S t, pol] (Tryz.f6.body.getD .skip)] m
/-- No pick; nothing is stopped at. -/
def nilS : SV := .s (.c (.f (.lit (.slice none 0 0))))
def m2 (es : Array Value) (ty2 : TypeId) : SMem := ⟨2, (Tr.nil : Tr SBlk).set 1 (some ⟨.raw es, ty2, false⟩), []⟩
def nRun (pol : SV) (t : Int) (m : SMem) : Tree := run ES.go 1000 2 [callFr 6 Tryz.f6.ntmps [nilS, u8S t, pol] (Tryz.f6.body.getD .skip)] m
def sRun0 : Tree := sRun (picksS 0 0) (polS 0 nilO 0 0 0 0) 0 (m0 #[] 0)
def Tree.todo2 : Tree → List SIt
  | .stop (_ :: f :: _) _ => f.todo
  | .need _ t => t.todo2
  | .br _ t e => match t.todo2 with
    | [] => e.todo2
    | l => l
  | _ => []
def aTodo0 : List SIt := sRun0.todo
def aTodo : List SIt := headL aTodo0
def lTodo1 : List SIt := sRun0.todo2
def gFr (td : List SIt) (off n : Nat) (t most nn i : Int) : SFr :=
  ⟨29, tmOf Tryz.f29.ntmps [(0, picksS off n), (1, u8S t), (5, i64 (.o most)), (6, i64 (.o nn)), (9, picksS off n), (10, i64 (.o n)), (11, i64 (.o i))], td, [], .run, .normal, none⟩
def lFr1 (td : List SIt) (off n : Nat) (t : Int) : SFr :=
  ⟨6, tmOf Tryz.f6.ntmps [(0, picksS off n), (1, u8S t), (8, .s (.c (.f (.int .u8 (.l 0))))), (9, sB (.l false)), (10, i64 (.l 1))], td, [], .run, .normal, none⟩
def aStep (off n : Nat) (ds : Array Value) (ty : TypeId) (t most nn i : Int) : Tree :=
  stepT ES.go (run ES 1000) 2 [gFr aTodo off n t most nn i, lFr1 lTodo1 off n t] (m0 ds ty)
/-- Where Gap's loop ends: the document's begins. -/
def bRun0 : Tree := aStep 0 0 #[] 0 0 0 0 0
def Tree.els : Tree → Tree
  | .br _ _ e => e
  | .need _ t => t.els
  | t => t
def bTodo0 : List SIt := bRun0.els.todo
def bTodo : List SIt := headL bTodo0
def lTodo2 : List SIt := bRun0.els.todo2
def rFr (td : List SIt) (off n : Nat) (t best i : Int) : SFr :=
  ⟨30, tmOf Tryz.f30.ntmps [(0, picksS off n), (1, u8S t), (5, i64 (.o best)), (6, i64 (.o i))], td, [], .run, .normal, none⟩
def lFr2 (td : List SIt) (g : Int) : SFr :=
  ⟨6, tmOf Tryz.f6.ntmps [(24, i64 (.o g)), (8, .s (.c (.f (.int .u8 (.l 0))))), (9, sB (.l false)), (10, i64 (.l 1))], td, [], .run, .normal, none⟩
def bStep (off n : Nat) (ds : Array Value) (ty : TypeId) (t g best i : Int) : Tree :=
  stepT ES.go (run ES 1000) 2 [rFr bTodo off n t best i, lFr2 lTodo2 g] (m0 ds ty)
def cRun0 : Tree := bStep 0 0 #[] 0 0 0 0 0
def cTodo0 : List SIt := cRun0.todo
def cTodo : List SIt := headL cTodo0
def qFr (td : List SIt) (off n : Nat) (t best i nn k : Int) : SFr :=
  ⟨30, tmOf Tryz.f30.ntmps [(0, picksS off n), (1, u8S t), (5, i64 (.o best)), (6, i64 (.o i)), (7, i64 (.o nn)), (8, i64 (.o k))], td, [], .run, .normal, none⟩
def cStep (off n : Nat) (ds : Array Value) (ty : TypeId) (t g best i nn k : Int) : Tree :=
  stepT ES.go (run ES 1000) 2 [qFr cTodo off n t best i nn k, lFr2 lTodo2 g] (m0 ds ty)
def svInt : Option SV → Option Int
  | some (.s (.c (.f (.int _ x)))) => some x.den
  | _ => none

/-! What is so. -/
def el (ds : Array Value) (off j : Nat) : Int := intAt ds (off + j)
/-- No pick of a window is the task's. -/
def Free (ds : Array Value) (off : Nat) (t : Int) (s e : Nat) : Prop := ∀ j : Nat, s ≤ j → j < e → el ds off j ≠ t
def IsMax (ds : Array Value) (off : Nat) (t : Int) (L m : Nat) : Prop :=
  (∀ s e : Nat, s ≤ e → e ≤ L → Free ds off t s e → e - s ≤ m) ∧ ∃ s e : Nat, s ≤ e ∧ e ≤ L ∧ Free ds off t s e ∧ e - s = m
def aInv (ds : Array Value) (off n : Nat) (t most nn i : Int) : Prop :=
  ∃ i' m' n' : Nat, i = i' ∧ most = m' ∧ nn = n' ∧ i' ≤ n ∧ n ≤ 300 ∧ n' ≤ i' ∧ m' ≤ i' ∧ Free ds off t (i' - n') i' ∧ (n' = i' ∨ el ds off (i' - n' - 1) = t) ∧ IsMax ds off t i' m'
def bInv (ds : Array Value) (off n : Nat) (t g best i : Int) : Prop :=
  ∃ i' g' b' : Nat, i = i' ∧ g = g' ∧ best = b' ∧ i' ≤ n ∧ n ≤ 300 ∧ IsMax ds off t n g' ∧ b' ≤ n ∧ (∀ s e : Nat, s < i' → s ≤ e → e ≤ n → Free ds off t s e → e - s ≤ b') ∧ ∃ s e : Nat, s ≤ e ∧ e ≤ n ∧ Free ds off t s e ∧ e - s = b'
def cInv (ds : Array Value) (off n : Nat) (t g best i nn k : Int) : Prop :=
  bInv ds off n t g best i ∧ ∃ i' n' : Nat, i = i' ∧ nn = n' ∧ k = i' + n' ∧ i' + n' ≤ n ∧ i' < n ∧ Free ds off t i' (i' + n')
def aNext (td ltd : List SIt) (off n : Nat) (ds : Array Value) (ty : TypeId) (t nx : Int) (fs : List SFr) (m : SMem) : Prop :=
  match fs with
  | [f, _] => match svInt (f.tm.get 5), svInt (f.tm.get 6), svInt (f.tm.get 11) with
    | some most, some nn, some i => i = nx ∧ aInv ds off n t most nn i ∧ subOk 2 [] [gFr td off n t most nn i, lFr1 ltd off n t] (m0 ds ty) fs m
    | _, _, _ => False
  | _ => False
def bNext (td ltd : List SIt) (off n : Nat) (ds : Array Value) (ty : TypeId) (t g nx : Int) (fs : List SFr) (m : SMem) : Prop :=
  match fs with
  | [f, l] => match svInt (f.tm.get 5), svInt (f.tm.get 6), svInt (l.tm.get 24) with
    | some best, some i, some g' => i = nx ∧ g' = g ∧ bInv ds off n t g best i ∧ subOk 2 [] [rFr td off n t best i, lFr2 ltd g] (m0 ds ty) fs m
    | _, _, _ => False
  | _ => False
def cNext (td ltd : List SIt) (off n : Nat) (ds : Array Value) (ty : TypeId) (t g nxi nxk : Int) (fs : List SFr) (m : SMem) : Prop :=
  match fs with
  | [f, _] => match svInt (f.tm.get 5), svInt (f.tm.get 6), svInt (f.tm.get 7), svInt (f.tm.get 8) with
    | some best, some i, some nn, some k => i = nxi ∧ k = nxk ∧ cInv ds off n t g best i nn k ∧ subOk 2 [] [qFr td off n t best i nn k, lFr2 ltd g] (m0 ds ty) fs m
    | _, _, _, _ => False
  | _ => False
def isFn (fs : List SFr) (g : Nat) : Bool := match fs with
  | f :: _ => Nat.beq f.fn g
  | [] => false
def isLp (fs : List SFr) (g : Nat) : Bool := match fs with
  | f :: _ => match f.todo with
    | x :: _ => Nat.beq (loopId x) g
    | [] => false
  | [] => false
def abNext (off n : Nat) (ds : Array Value) (ty : TypeId) (t nx most : Int) (fs : List SFr) (m : SMem) : Prop :=
  match isFn fs 29 with
  | true => aNext aTodo lTodo1 off n ds ty t nx fs m
  | false => bNext bTodo0 lTodo2 off n ds ty t most 0 fs m
def cbNext (off n : Nat) (ds : Array Value) (ty : TypeId) (t g i k : Int) (fs : List SFr) (m : SMem) : Prop :=
  match isLp fs 7 with
  | true => cNext cTodo lTodo2 off n ds ty t g i (k + 1) fs m
  | false => bNext bTodo lTodo2 off n ds ty t g (i + 1) fs m
def okRet (sv : SV) (_ : SMem) : Prop :=
  match sv with
  | .s (.c (.f (.bool (.l true)))) => True
  | .s (.c (.f (.bool (.o b)))) => b = true
  | _ => False
end
end Go.Proofs.YtdnnkmhgnomfgaaGreatDoor
