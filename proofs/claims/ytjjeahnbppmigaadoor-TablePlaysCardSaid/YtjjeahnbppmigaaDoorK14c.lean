/- Loops' states, read off the run itself. No condition. -/
import Derived.Test.YtjjeahnbppmigaaDoorK14b
set_option linter.unusedVariables false
set_option linter.unusedSimpArgs false
namespace Go.Proofs.YtjjeahnbppmigaaDoor
set_option linter.unusedSectionVars false
variable [Gh]
noncomputable section
omit [Gh] in
def Tree.fsE : Tree → List SFr
  | .stop fs _ => fs
  | .need _ t => t.fsE
  | .br _ t e => match t.fsE with
    | [] => e.fsE
    | l => l
  | _ => []
omit [Gh] in
def Tree.memE : Tree → SMem
  | .stop _ m => m
  | .need _ t => t.memE
  | .br _ t e => match t.fsE with
    | [] => e.memE
    | _ => t.memE
  | _ => ⟨0, .nil, []⟩
omit [Gh] in
def Tree.fsAt (id : Nat) : Tree → List SFr
  | .stop (f :: cs) _ => match f.todo with
    | x :: _ => match Nat.beq (loopId x) id with
      | true => f :: cs
      | false => []
    | [] => []
  | .need _ t => t.fsAt id
  | .br _ t e => match t.fsAt id with
    | [] => e.fsAt id
    | l => l
  | _ => []
omit [Gh] in
def Tree.memAt (id : Nat) : Tree → SMem
  | .stop _ m => m
  | .need _ t => t.memAt id
  | .br _ t e => match t.fsAt id with
    | [] => e.memAt id
    | _ => t.memAt id
  | _ => ⟨0, .nil, []⟩
omit [Gh] in
def Tm.bare : Tm → Tm
  | ⟨n, _, t⟩ => ⟨n, none, t⟩
omit [Gh] in
def SFr.bare : SFr → SFr
  | ⟨fn, tm, td, dfs, md, kind, rnd⟩ => ⟨fn, tm.bare, td, dfs, md, kind, rnd⟩
omit [Gh] in
def XB.bare : XB → XB
  | ⟨id, .loop st pe fn tm ps ag bd dl⟩ => ⟨id, .loop st pe fn tm.bare ps ag bd dl⟩
  | b => b
omit [Gh] in
def SMem.bare : SMem → SMem
  | ⟨n, bl, xs⟩ => ⟨n, bl, xs.map XB.bare⟩
omit [Gh] in
def idπ : Nat → List (Nat × Nat)
  | 0 => []
  | k + 1 => idπ k ++ [(k, k)]
omit [Gh] in
def svInt : Option SV → Option Int
  | some (.s (.c (.f (.int _ x)))) => some x.den
  | _ => none
omit [Gh] in
def setSl (l : List (Nat × SV)) : List SFr → List SFr
  | ⟨fn, tm, td, dfs, md, kind, rnd⟩ :: cs => ⟨fn, l.foldl (fun T p => T.set p.1 (some p.2)) tm, td, dfs, md, kind, rnd⟩ :: cs
  | [] => []
omit [Gh] in
def dropSl (l : List Nat) : List SFr → List SFr
  | ⟨fn, tm, td, dfs, md, kind, rnd⟩ :: cs => ⟨fn, l.foldl (fun T p => T.set p none) tm, td, dfs, md, kind, rnd⟩ :: cs
  | [] => []
omit [Gh] in
def putAll (l : List (Nat × SA)) (m : SMem) : SMem := ⟨m.next, l.foldl (fun t p => putB t p.1 p.2) m.bl, m.xs⟩
omit [Gh] in
def headTd : List SFr → List SIt
  | f :: _ => f.todo
  | [] => []
omit [Gh] in
def rdI (f : SFr) (d : Nat) : Option Int := svInt (f.tm.get d)
omit [Gh] in
def rdP (f : SFr) (d : Nat) : Option Nat := match f.tm.get d with
  | some (.s (.c (.f (.ptr id _)))) => some id
  | _ => none
omit [Gh] in
def rowOf (a : SA) : Option (Array Value) := match a with
  | .pop cs | .op cs => some cs
  | .pre l | .ls l => match plains l with
    | some vs => some vs.toArray
    | none => none
  | _ => none
omit [Gh] in
def rdA (m : SMem) (id : Nat) : Option (Array Value) := match getB m.bl id with
  | some ⟨a, _, _⟩ => rowOf a
  | none => none
omit [Gh] in
def rdS (f : SFr) (d : Nat) (m : SMem) : Option (Option (Nat × Nat × Array Value)) := match f.tm.get d with
  | some (.s (.c (.f (.lit (.slice none 0 0))))) => some none
  | some (.s (.c (.f (.slice sid _ k _)))) => match rdA m sid with
    | some cs => some (some (sid, k.den, cs))
    | none => none
  | _ => none
omit [Gh] in
def idFrom (b : Nat) : Nat → List (Nat × Nat)
  | 0 => []
  | k + 1 => idFrom b k ++ (match Nat.ble b k with | true => [(k, k)] | false => [])
section
variable (E : Env) (base : Nat) (c : List SFr) (m : SMem)
omit [Gh] in
def gR : Tree := run E 1000 base c m
omit [Gh] in
def gF (sl : List (Nat × SV)) : List SFr := setSl sl ((gR E base c m).fsE.map SFr.bare)
omit [Gh] in
def gH (sl : List (Nat × SV)) : List SFr := headF (gF E base c m sl)
omit [Gh] in
def gM (bl : List (Nat × SA)) : SMem := putAll bl (gR E base c m).memE.bare
omit [Gh] in
def gS (sl : List (Nat × SV)) (bl : List (Nat × SA)) : Tree := stepT E.go (run E 1000) base (gH E base c m sl) (gM E base c m bl)
omit [Gh] in
def gN (h : Bool) (sl : List (Nat × SV)) (bl : List (Nat × SA)) (fs : List SFr) (m' : SMem) : Prop :=
  subOk base (idFrom base (gM E base c m bl).next) ((cond h gH gF) E base c m sl) (gM E base c m bl) fs m'
end
theorem gN_good {h : Bool} {E : Env} {base : Nat} {c : List SFr} {m : SMem} {sl : List (Nat × SV)} {bl : List (Nat × SA)} {A : SV → SMem → Prop} {fs : List SFr} {m' : SMem} (hb : gN E base c m h sl bl fs m') (hg : Good E.P A base (gH E base c m sl) (gM E base c m bl)) : Good E.P A base fs m' := by
  cases h with
  | true => exact Good.of_sub hb hg
  | false => exact Good.of_sub hb (Good.head hg)
end
end Go.Proofs.YtjjeahnbppmigaaDoor
