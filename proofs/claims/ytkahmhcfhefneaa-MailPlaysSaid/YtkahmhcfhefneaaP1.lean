/- Of mail: MailPlays' loop: its states. No condition. -/
import Derived.Test.YtkahmhcfhefneaaM1
namespace Go.Proofs.Ytkahmhcfhefneaa
noncomputable def pRun (off n : Nat) (ds : Array Value) (ty : TypeId) : Tree := run EL 1000 1 [callFr 3 Try.f3.ntmps [actsS off n] (Try.f3.body.getD .skip)] (oneD ds ty)
noncomputable def pTodo0 : List SIt := (pRun 0 0 #[] 0).todo
noncomputable def pTodo : List SIt := headL pTodo0
/-- The document's row of messages: none; or where they lie. -/
abbrev WL := Option (Array Value × Nat)
/-- The half's: where they lie, and how many. -/
abbrev VL := Option (Array Value × Nat × Nat)
def wS (w : WL) (k : Nat) : SC :=
  match w with
  | none => .f .e0
  | some (_, o) => .f (.slice 5 (.o o) (.l k) .any)
def vS (v : VL) : SC :=
  match v with
  | none => .f .e0
  | some (_, o, k) => .f (.slice 6 (.o o) (.o k) .any)
/-- A box's cells, as values. -/
def boxV (ms : List Msg) (c : Bool) : Array Value := match plains (boxC ms c) with | some l => l.toArray | none => #[]
def pM (ds : Array Value) (ty : TypeId) (ms : List Msg) (c : Bool) (w : WL) (h : Array Value) (hc : Bool) (v : VL) : SMem :=
  ⟨7, ((((((oneD ds ty).bl.set 1 (some ⟨.ls (boxC ms c), 31, true⟩)).set 2 (some ⟨.op h, 31, true⟩)).set 3 (some ⟨.ls [wS w (len ms), .f (.bool (.l c))], 34, true⟩)).set 4 (some ⟨.ls [vS v, .f (.bool (.o hc))], 34, true⟩)).set 5
    (match w with | some (a, _) => some ⟨.pop a, 41, false⟩ | none => none)).set 6 (match v with | some (a, _) => some ⟨.pop a, 41, false⟩ | none => none), []⟩
def pTm (nt : Nat) (off n : Nat) (i : Int) : Tm :=
  tmOf nt [(0, actsS off n), (3, ptr 1 (.l 0)), (4, ptr 2 (.l 0)), (5, ptr 3 (.l 0)), (6, ptr 4 (.l 0)), (7, i64 (.o i))]
noncomputable def pFr (td : List SIt) (off n : Nat) (i : Int) : SFr := ⟨3, pTm Try.f3.ntmps off n i, td, [], .run, .normal, none⟩
/-- What lies at a place is so a message. -/
structure MsgAt (a : Array Value) (o : Nat) (m : Msg) : Prop where
  t0 : ∀ q, q = o → IsInt .i64 a q ∧ intAt a q = m.f
  t1 : ∀ q, q = o + 1 → IsInt .u64 a q ∧ intAt a q = m.w
  t2 : ∀ q, q = o + 2 → IsInt .i64 a q ∧ intAt a q = m.r
  t3 : ∀ q, q = o + 3 → IsBool a q ∧ boolAt a q = m.s
  sz : o + 4 ≤ a.size
def MsgsAt (a : Array Value) : Nat → List Msg → Prop
  | _, [] => True
  | o, m :: l => MsgAt a o m ∧ MsgsAt a (o + 4) l
def MsgOk (m : Msg) : Prop := 0 ≤ m.f ∧ m.f ≤ 255 ∧ 0 ≤ m.r ∧ m.r ≤ 4294967295
def MsgsOk : List Msg → Prop
  | [] => True
  | m :: l => MsgOk m ∧ MsgsOk l
def WOk (ms : List Msg) : WL → Prop
  | none => ms = []
  | some (a, o) => ms ≠ [] ∧ MsgsAt a o ms
def VOk (h : Array Value) (hc : Bool) (v : VL) : Prop := ∃ ms, h = boxV ms hc ∧ len ms ≤ 4 ∧ MsgsOk ms ∧
  match v with
  | none => ms = []
  | some (a, o, k) => ms ≠ [] ∧ k = len ms ∧ MsgsAt a o ms
/-- The document's row with a message more. -/
def newA (a : Array Value) (o k : Nat) (ds : Array Value) (p : Nat) : Array Value :=
  a.extract o (o + k * 4) ++ #[.int .i64 (IntKind.i64.wrap (intAt ds (p + 1))), .int .u64 (intAt ds (p + 2)), .int .i64 (IntKind.i64.wrap (intAt ds (p + 3))), .bool (boolAt ds (p + 4))]
def new0 (ds : Array Value) (p : Nat) : Array Value :=
  #[.int .i64 (IntKind.i64.wrap (intAt ds (p + 1))), .int .u64 (intAt ds (p + 2)), .int .i64 (IntKind.i64.wrap (intAt ds (p + 3))), .bool (boolAt ds (p + 4))]
/-- What is so at each round. -/
def pInv (n : Nat) (ms : List Msg) (w : WL) (i : Int) : Prop := len ms ≤ 4 ∧ MsgsOk ms ∧ WOk ms w ∧ 0 ≤ i ∧ i ≤ n ∧ n ≤ 200
def slInfo (m : SMem) : SC → Option (Option (Nat × Array Value × Nat × Nat))
  | .f .e0 => some none
  | .f (.lit (.slice none 0 0)) => some none
  | .f (.slice _ _ (.l 0) _) => some none
  | .f (.slice id o k _) => match getB m.bl id with
    | some ⟨.pop a, _, _⟩ => some (some (id, a, o.den, k.den))
    | some ⟨.pre l, _, _⟩ => match plains l with
      | some vs => some (some (id, vs.toArray, o.den, k.den))
      | none => none
    | _ => none
  | _ => none
def blkV (m : SMem) (id : Nat) : Option (Array Value) :=
  match getB m.bl id with
  | some ⟨.op a, _, _⟩ => some a
  | some ⟨.ls l, _, _⟩ => match plains l with
    | some vs => some vs.toArray
    | none => none
  | _ => none
def ptrOf : Option SV → Option Nat
  | some (.s (.c (.f (.ptr id _)))) => some id
  | _ => none
/-- The next round's state, as it is come to. -/
noncomputable def pNext (td : List SIt) (off n : Nat) (ds : Array Value) (ty : TypeId) (nx : Int) (fs : List SFr) (m : SMem) : Prop :=
  match fs with
  | [f] => match ptrOf (f.tm.get 3), ptrOf (f.tm.get 4), ptrOf (f.tm.get 5), ptrOf (f.tm.get 6), svInt (f.tm.get 7) with
    | some i1, some i2, some i3, some i4, some i => match getB m.bl i1, blkV m i2, getB m.bl i3, getB m.bl i4 with
      | some ⟨.ls l, _, _⟩, some h, some ⟨.ls [x, .f (.bool (.l c))], _, _⟩, some ⟨.ls [y, .f (.bool b)], _, _⟩ => match readBox l, slInfo m x, slInfo m y with
        | some (ms, c'), some none, some none => i = nx ∧ c' = c ∧ pInv n ms none i ∧ VOk h b.den none ∧ subOk 1 [(1, i1), (2, i2), (3, i3), (4, i4)] [pFr td off n i] (pM ds ty ms c none h b.den none) fs m
        | some (ms, c'), some none, some (some (i6, a', o', k')) => i = nx ∧ c' = c ∧ pInv n ms none i ∧ VOk h b.den (some (a', o', k')) ∧ subOk 1 [(1, i1), (2, i2), (3, i3), (4, i4), (6, i6)] [pFr td off n i] (pM ds ty ms c none h b.den (some (a', o', k'))) fs m
        | some (ms, c'), some (some (i5, a, o, k)), some none => i = nx ∧ c' = c ∧ k = len ms ∧ pInv n ms (some (a, o)) i ∧ VOk h b.den none ∧ subOk 1 [(1, i1), (2, i2), (3, i3), (4, i4), (5, i5)] [pFr td off n i] (pM ds ty ms c (some (a, o)) h b.den none) fs m
        | some (ms, c'), some (some (i5, a, o, k)), some (some (i6, a', o', k')) => i = nx ∧ c' = c ∧ k = len ms ∧ pInv n ms (some (a, o)) i ∧ VOk h b.den (some (a', o', k')) ∧
            subOk 1 [(1, i1), (2, i2), (3, i3), (4, i4), (5, i5), (6, i6)] [pFr td off n i] (pM ds ty ms c (some (a, o)) h b.den (some (a', o', k'))) fs m
        | _, _, _ => False
      | _, _, _, _ => False
    | _, _, _, _, _ => False
  | _ => False
noncomputable def pStep (off n : Nat) (ds : Array Value) (ty : TypeId) (ms : List Msg) (c : Bool) (w : WL) (h : Array Value) (hc : Bool) (v : VL) (i : Int) : Tree :=
  stepT EL.go (run EL 1000) 1 [pFr pTodo off n i] (pM ds ty ms c w h hc v)
/-- The half, and what the document says of it, at the end. -/
def qS (w : WL) (k : Nat) : SC :=
  match w with
  | none => .f .e0
  | some (_, o) => .f (.slice 6 (.o o) (.l k) .any)
def qM (ds : Array Value) (ty : TypeId) (hs : List Msg) (hc : Bool) (v : WL) : SMem :=
  ⟨7, ((((oneD ds ty).bl.set 2 (some ⟨.ls (boxC hs hc), 31, true⟩)).set 4 (some ⟨.ls [qS v (len hs), .f (.bool (.l hc))], 34, true⟩)).set 6 (match v with | some (a, _) => some ⟨.pop a, 41, false⟩ | none => none)), []⟩
noncomputable def qFr (off n : Nat) (i : Int) : SFr := ⟨3, tmOf Try.f3.ntmps [(0, actsS off n), (4, ptr 2 (.l 0)), (6, ptr 4 (.l 0)), (7, i64 (.o i))], pTodo, [], .run, .normal, none⟩
noncomputable def qStep (off n : Nat) (ds : Array Value) (ty : TypeId) (hs : List Msg) (hc : Bool) (v : WL) (i : Int) : Tree :=
  stepT EL.go (run EL 1000) 1 [qFr off n i] (qM ds ty hs hc v)
end Go.Proofs.Ytkahmhcfhefneaa
