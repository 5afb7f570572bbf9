/- The operations of the symbolic machine, and its steps. Plain definitions. No condition. -/
import Derived.Test.YtdbhbpkdefbibaaK1
import Derived.Orders
namespace Go.Proofs.Ytdbhbpkdefbibaa

def ariS (op : BinOp) (k : IntKind) (x y : Int) : Option Int :=
  match op with
  | .add => some (k.wrap (x + y))
  | .sub => some (k.wrap (x - y))
  | .mul => some (k.wrap (x * y))
  | .and => some (k.wrap (BitVec.ofInt k.bits x &&& BitVec.ofInt k.bits y).toNat)
  | .or => some (k.wrap (BitVec.ofInt k.bits x ||| BitVec.ofInt k.bits y).toNat)
  | .xor => some (k.wrap (BitVec.ofInt k.bits x ^^^ BitVec.ofInt k.bits y).toNat)
  | .andNot => some (k.wrap (BitVec.ofInt k.bits x &&& ~~~ BitVec.ofInt k.bits y).toNat)
  | .quo => some (k.wrap (x.tdiv y))
  | .rem => some (x.tmod y)
  | .shl => some (k.wrap (x * 2 ^ (min y.toNat k.bits)))
  | .shr => some (x.fdiv (2 ^ (min y.toNat k.bits)))
  | _ => none
def cmpS (op : BinOp) (x y : Int) : Option Bool :=
  match op with
  | .eql => some (x == y)
  | .neq => some (x != y)
  | .lss => some (decide (x < y))
  | .leq => some (decide (x ≤ y))
  | .gtr => some (decide (x > y))
  | .geq => some (decide (x ≥ y))
  | _ => none
/-- What an operation asks of its second operand. -/
def asksS (op : BinOp) (y : SI) : Option (List Prop) :=
  match op, y with
  | .quo, .l n | .rem, .l n => if n = 0 then none else some []
  | .quo, .o n | .rem, .o n => some [n ≠ 0]
  | .shl, .l n | .shr, .l n => if n < 0 then none else some []
  | .shl, .o n | .shr, .o n => some [0 ≤ n]
  | _, _ => some []
def isSh : BinOp → Bool
  | .shl | .shr => true
  | _ => false
def intS (op : BinOp) (k k' : IntKind) (x y : SI) : Option (List Prop × SC) :=
  if isSh op || decide (k = k') then
    match asksS op y with
    | none => none
    | some q =>
      match x, y with
      | .l a, .l b => match ariS op k a b with
        | some n => some (q, .f (.int k (.l n)))
        | none => match cmpS op a b with
          | some t => some (q, .f (.bool (.l t)))
          | none => none
      | x, y => match ariS op k x.den y.den with
        | some n => some (q, .f (.int k (.o n)))
        | none => match cmpS op x.den y.den with
          | some t => some (q, .f (.bool (.o t)))
          | none => none
  else none
def SB.beq : SB → SB → SB
  | .l a, .l b => .l (a == b)
  | a, b => .o (a.den == b.den)
def SB.not : SB → SB
  | .l a => .l (!a)
  | .o a => .o (!a)
/-- Whether two values are one; none: this is not said. -/
def eqS (P : Program) (t : TypeId) (x y : SC) : Option SB :=
  match P.underlying t, x, y with
  | some .bool, .f (.bool a), .f (.bool b) => some (a.beq b)
  | some (.pointer _), .f (.ptr _ _), .f (.lit (.pointer none)) => some (.l false)
  | some (.pointer _), .f (.lit (.pointer none)), .f (.ptr _ _) => some (.l false)
  | some (.pointer _), .f (.lit (.pointer none)), .f (.lit (.pointer none)) => some (.l true)
  | some (.slice _), .f (.slice _ _ _ _), .f (.lit (.slice none _ _)) => some (.l false)
  | some (.slice _), .f (.lit (.slice none _ _)), .f (.lit (.slice none _ _)) => some (.l true)
  | _, _, _ => none
def binS (P : Program) (op : BinOp) (t : TypeId) (x y : SV) : Option (List Prop × SV) :=
  match x, y with
  | .s (.c (.f (.int k a))), .s (.c (.f (.int k' b))) => (intS op k k' a b).map fun r => (r.1, .s (.c r.2))
  | .s (.c x), .s (.c y) => match op with
    | .eql => (eqS P t x y).map fun b => ([], .s (.c (.f (.bool b))))
    | .neq => (eqS P t x y).map fun b => ([], .s (.c (.f (.bool b.not))))
    | _ => none
  | _, _ => none
def unS (op : UnOp) (x : SV) : Option SV :=
  match op, x with
  | .neg, .s (.c (.f (.int k (.l n)))) => some (.s (.c (.f (.int k (.l (k.wrap (0 - n)))))))
  | .neg, .s (.c (.f (.int k (.o n)))) => some (.s (.c (.f (.int k (.o (k.wrap (0 - n)))))))
  | .xor, .s (.c (.f (.int k (.l n)))) => (ariS .xor k (if k.signed then -1 else k.max) n).map fun r => .s (.c (.f (.int k (.l r))))
  | .xor, .s (.c (.f (.int k (.o n)))) => (ariS .xor k (if k.signed then -1 else k.max) n).map fun r => .s (.c (.f (.int k (.o r))))
  | .not, .s (.c (.f (.bool b))) => some (.s (.c (.f (.bool b.not))))
  | _, _ => none
def SI.map (f : Int → Int) : SI → SI
  | .l n => .l (f n)
  | .o n => .o (f n)
def convS (P : Program) (src dst : TypeId) (x : SV) : Option SV :=
  match P.underlying src, P.underlying dst, x with
  | some _, some (.int k), .s (.c (.f (.int _ n))) => some (.s (.c (.f (.int k (n.map k.wrap)))))
  | _, _, _ => none

/-- An index within bounds. -/
def within (i : SI) (n : SN) : Option (List Prop) :=
  match i, n with
  | .l i, .l n => if 0 ≤ i ∧ i < n then some [] else none
  | i, n => some [0 ≤ i.den ∧ i.den < n.den]
def sizeS (P : Program) (t : TypeId) : Option Nat := (P.info? t).map (·.size)
def fieldAtS (P : Program) (s : TypeId) (x : SV) (f : Nat) : Option SV :=
  match P.underlying s, x with
  | some (.struct fs), .s (.c (.f (.ptr id off))) => match nth fs.toList f with
    | some f => match sizeS P f.type with
      | some (_ + 1) => some (.s (.c (.f (.ptr id (off.add (.l f.offset))))))
      | _ => none
    | none => none
  | _, _ => none
def indexAtS (P : Program) (t : TypeId) (x i : SV) : Option (List Prop × SV) :=
  match P.underlying t, x, i with
  | some (.array n e), .s (.c (.f (.ptr id off))), .s (.c (.f (.int _ i))) => match sizeS P e, within i (.l n) with
    | some sz, some q => some (q, .s (.c (.f (.ptr id (off.add (i.nat.mul sz))))))
    | _, _ => none
  | some (.slice e), .s (.c (.f (.slice id off n _))), .s (.c (.f (.int _ i))) => match sizeS P e, within i n with
    | some sz, some q => some (q, .s (.c (.f (.ptr id (off.add (i.nat.mul sz))))))
    | _, _ => none
  | _, _, _ => none
def fieldS (P : Program) (t : TypeId) (x : SV) (f : Nat) : Option (List Prop × SV) :=
  match P.underlying t, x with
  | some (.struct fs), .s (.agg a) => match nth fs.toList f with
    | some f => (partS P f.type a (.l f.offset)).map fun r => (r.1, .s r.2)
    | none => none
  | _, _ => none
def indexS (P : Program) (t : TypeId) (x i : SV) : Option (List Prop × SV) :=
  match P.underlying t, x, i with
  | some (.array n e), .s (.agg a), .s (.c (.f (.int _ i))) => match sizeS P e, within i (.l n) with
    | some sz, some q => (partS P e a (i.nat.mul sz)).map fun r => (q ++ r.1, .s r.2)
    | _, _ => none
  | _, _, _ => none

/-- An operation's outcome. -/
inductive XR where
  | no
  | ok (q : List Prop) (v : SV) (m : SMem)
def XR.of (m : SMem) : Option (List Prop × SV) → XR
  | some (q, v) => .ok q v m
  | none => .no
def XR.one (m : SMem) : Option SV → XR
  | some v => .ok [] v m
  | none => .no
def loadS (P : Program) (t : TypeId) (x : SV) (m : SMem) : XR :=
  match x with
  | .s (.c (.f (.ptr id off))) => match getB m.bl id with
    | some b => XR.of m ((partS P t b.arr off).map fun r => (r.1, .s r.2))
    | none => .no
  | _ => .no
/-- How many cells a row has; none: this is not known. -/
def SA.size : SA → Option Nat
  | .ls l => some (len l)
  | _ => none
def fitsS (P : Program) (t : TypeId) (a : SA) : Option (List Prop) :=
  match sizeS P t, a with
  | some n, .ls l => if n = len l then some [] else none
  | some n, .op cs => some [cs.size = n]
  | _, _ => none
def storeS (P : Program) (t : TypeId) (x v : SV) (m : SMem) : XR :=
  match x, v.cells with
  | .s (.c (.f (.ptr id off))), some a => match getB m.bl id, fitsS P t a with
    | some b, some q1 => match b.wr, putS b.arr off a with
      | true, some (q2, r) => .ok (q1 ++ q2) (.tup []) ⟨m.next, putB m.bl id r⟩
      | _, _ => .no
    | _, _ => .no
  | _, _ => .no
def newS (t : TypeId) (a : Option SA) (m : SMem) : XR :=
  match a with
  | some a => .ok [] (.s (.c (.f (.ptr m.next (.l 0))))) (m.new a t)
  | none => .no
def zeroS (P : Program) (t : TypeId) : Option SA :=
  match P.info? t with
  | some i => match i.zero with
    | some z => ofVals z.cells.toList
    | none => none
  | none => none
def evs (T : Tm) : List Operand → Option (List SV)
  | [] => some []
  | x :: l => match ev T x, evs T l with
    | some v, some r => some (v :: r)
    | _, _ => none
def flats : List SV → Option (List SF)
  | [] => some []
  | .s (.c (.f x)) :: l => (flats l).map (x :: ·)
  | _ :: _ => none

/-- The places of a type's parts. -/
def placesS (P : Program) (t : TypeId) (i : Nat) : Option (Nat × Nat) :=
  match P.underlying t with
  | some (.struct fs) => match nth fs.toList i with
    | some f => (sizeS P f.type).map fun n => (f.offset, n)
    | none => none
  | some (.array _ e) => (sizeS P e).map fun n => (i * n, n)
  | _ => none
def buildS (P : Program) (t : TypeId) (T : Tm) : List (Nat × Operand) → List SC → Option (List SC)
  | [], l => some l
  | (i, x) :: r, l => match placesS P t i, ev T x with
    | some (off, n), some v => match v.cells with
      | some (.ls y) => if len y = n then match splice l off y with
          | some l' => buildS P t T r l'
          | none => none
        else none
      | _ => none
    | _, _ => none
/-- All fields have a size. -/
def sized (P : Program) : List Field → Bool
  | [] => true
  | f :: l => (sizeS P f.type).isSome && sized P l
def wellS (P : Program) (t : TypeId) : Bool :=
  match P.underlying t with
  | some (.struct fs) => sized P fs.toList
  | some (.array _ e) => (sizeS P e).isSome
  | _ => false
def SN.int : SN → SI
  | .l n => .l n
  | .o n => .o n
def lenS (P : Program) (t : TypeId) (x : SV) : Option SV :=
  match P.underlying t, x with
  | some (.array n _), _ => some (.s (.c (.f (.int .i64 (.l n)))))
  | some (.slice _), .s (.c (.f (.slice _ _ n _))) => some (.s (.c (.f (.int .i64 n.int))))
  | some (.slice _), .s (.c (.f (.lit (.slice none n _)))) => some (.s (.c (.f (.int .i64 (.l n)))))
  | _, _ => none

/-- So many cells of a row, from a place on. -/
def rangeS (a : SA) (off n : SN) : Option (List Prop × SA) :=
  match a, off, n with
  | .ls l, .l k, .l n | .pre l, .l k, .l n => match Nat.ble (k + n) (len l), takeN (dropN l k) n with
    | true, some r => some ([], .ls r)
    | _, _ => none
  | .op cs, off, n | .pop cs, off, n => some ([off.den + n.den ≤ cs.size], .op (cs.extract off.den (off.den + n.den)))
  | _, _, _ => none
def SN.le : SN → SN → Option (List Prop)
  | .l a, .l b => if a ≤ b then some [] else none
  | a, b => some [a.den ≤ b.den]
def SI.nonneg : SI → Option (List Prop)
  | .l a => if 0 ≤ a then some [] else none
  | .o a => some [0 ≤ a]
def SN.min : SN → SN → SN
  | .l a, .l b => .l (Nat.min a b)
  | a, b => .o (Nat.min a.den b.den)
/-- Where a part of a row begins: as the language has it, at the old place if nothing is left. -/
def beginS (off l : SN) (m : SN) (sz : Nat) : SN :=
  match l, m, off with
  | .l 0, _, off => off
  | .l l, .l m, .l off => .l (if m = l then off else off + l * sz)
  | l, m, off => .o (if m.den = l.den then off.den else off.den + l.den * sz)
def boundS (x : Option SV) (d : SN) (top : SN) : Option (List Prop × SN) :=
  match x with
  | none => some ([], d)
  | some (.s (.c (.f (.int _ i)))) => match i.nonneg, i.nat.le top with
    | some q1, some q2 => some (q1 ++ q2, i.nat)
    | _, _ => none
  | _ => none
def sliceS (P : Program) (t : TypeId) (x : SV) (lo hi : Option SV) : Option (List Prop × SV) :=
  match P.underlying t, x with
  | some (.array n e), .s (.c (.f (.ptr id off))) => match sizeS P e, boundS hi (.l n) (.l n) with
    | some sz, some (q1, h) => match boundS lo (.l 0) h with
      | some (q2, l) => some (q1 ++ q2, .s (.c (.f (.slice id (beginS off l (.l n) sz) (h.sub l) (.n ((SN.l n).sub l))))))
      | none => none
    | _, _ => none
  | some (.slice e), .s (.c (.f (.slice id off n (.n c)))) => match sizeS P e, boundS hi n c with
    | some sz, some (q1, h) => match boundS lo (.l 0) h with
      | some (q2, l) => some (q1 ++ q2, .s (.c (.f (.slice id (beginS off l c sz) (h.sub l) (.n (c.sub l))))))
      | none => none
    | _, _ => none
  | some (.slice e), .s (.c (.f (.slice id off n c))) => match sizeS P e, boundS hi n n with
    | some sz, some (q1, h) => match lo with
      | none => some (q1, .s (.c (.f (.slice id off h c))))
      | some _ => match boundS lo (.l 0) h with
        | some (q2, l) => some (q1 ++ q2 ++ [l.den < h.den], .s (.c (.f (.slice id (off.add (l.mul sz)) (h.sub l) .any))))
        | none => none
    | _, _ => none
  | _, _ => none
def repN {α : Type} : Nat → List α → List α
  | 0, _ => []
  | n + 1, l => l ++ repN n l
def buildRowS (sz : Nat) (T : Tm) : List (Nat × Operand) → List SC → Option (List SC)
  | [], l => some l
  | (i, x) :: r, l => match ev T x with
    | some v => match v.cells with
      | some (.ls y) => if len y = sz then match splice l (i * sz) y with
          | some l' => buildRowS sz T r l'
          | none => none
        else none
      | _ => none
    | none => none
def buildSliceS (P : Program) (t : TypeId) (n : Nat) (T : Tm) (ps : List (Nat × Operand)) (m : SMem) : XR :=
  match P.underlying t with
  | some (.slice e) => match zeroS P e, sizeS P e with
    | some (.ls z), some (sz + 1) => if len z = sz + 1 ∧ n * (sz + 1) ≤ 16777216 ∧ 0 < n then match buildRowS (sz + 1) T ps (repN n z) with
        | some r => .ok [] (.s (.c (.f (.slice m.next (.l 0) (.l n) (.n (.l n)))))) (m.new (.ls r) e)
        | none => .no
      else .no
    | _, _ => .no
  | _ => .no
def copyS (P : Program) (t : TypeId) (x y : SV) (m : SMem) : XR :=
  match P.underlying t, x, y with
  | some (.slice e), .s (.c (.f (.slice i o n _))), .s (.c (.f (.slice j p k _))) => match sizeS P e, getB m.bl i, getB m.bl j with
    | some sz, some b, some c => match b.wr, rangeS c.arr p ((k.min n).mul sz) with
      | true, some (q1, xs) => match putS b.arr o xs with
        | some (q2, r) => .ok (q1 ++ q2) (.s (.c (.f (.int .i64 (k.min n).int)))) ⟨m.next, putB m.bl i r⟩
        | none => .no
      | _, _ => .no
    | _, _, _ => .no
  | _, _, _ => .no
def dropB : List SBlk → Nat → List SBlk
  | [], _ => []
  | b :: r, i => if Nat.beq b.id i then dropB r i else b :: dropB r i
def fitNat (n m : SN) (bytes : Nat) : Option (List Prop) :=
  match n, m with
  | .l n, .l m => if (n + m) * bytes ≤ 140737488355328 ∧ n + m ≤ 140737488355328 then some [] else none
  | n, m => some [(n.den + m.den) * bytes ≤ 140737488355328 ∧ n.den + m.den ≤ 140737488355328]
/-- One row behind the beginning of another one. -/
def behindS (a : SA) (k : SN) (x : SA) : Option (List Prop × SA) :=
  match a, k, x with
  | .ls l, .l k, .ls y | .pre l, .l k, .ls y => match takeN l k with
    | some r => some ([], .pre (r ++ y))
    | none => none
  | .op cs, k, .ls y | .pop cs, k, .ls y => match plains y with
    | some vs => some ([k.den = cs.size], .pop (cs ++ vs.toArray))
    | none => none
  | .op cs, k, .op y | .pop cs, k, .op y => some ([k.den = cs.size], .pop (cs ++ y))
  | _, _, _ => none
def whole (c : SK) (a : SA) (sz : Nat) : Bool :=
  match c, a with
  | .full s, _ => Nat.beq s sz
  | .n (.l c), .ls l => Nat.beq (len l) (c * sz) && Nat.ble c 140737488355328
  | _, _ => false
def preOf : SA → SA
  | .ls l => .pre l
  | .op cs => .pop cs
  | a => a
def posN : SN → Option (List Prop)
  | .l n => if 0 < n then some [] else none
  | .o n => some [0 < n]
def appendS (P : Program) (base : Nat) (t : TypeId) (s x : SV) (m : SMem) : XR :=
  match P.underlying t with
  | some (.slice e) => match P.info? e, zeroS P e with
    | some i, some (.ls z) =>
      if len z = i.size ∧ 0 < i.size then
        let xs : Option (List Prop × SN × SA) := match x with
          | .s (.c (.f (.slice j p k _))) => match getB m.bl j with
            | some c => (rangeS c.arr p (k.mul i.size)).map fun r => (r.1, k, r.2)
            | none => none
          | _ => none
        match xs with
        | some (q1, k, ys) => match s with
          | .s (.c (.f (.lit (.slice none 0 0)))) => match posN k, fitNat (.l 0) k i.bytes with
            | some q2, some q3 => .ok (q1 ++ q2 ++ q3) (.s (.c (.f (.slice m.next (.l 0) k (.full i.size))))) (m.new (preOf ys) e)
            | _, _ => .no
          | .s (.c (.f (.slice id (.l 0) n c))) => match getB m.bl id, fitNat n k i.bytes with
            | some b, some q2 => match b.wr && Nat.ble base id && Nat.beq b.ty e && whole c b.arr i.size, behindS b.arr (n.mul i.size) ys with
              | true, some (q3, r) => .ok (q1 ++ q2 ++ q3) (.s (.c (.f (.slice m.next (.l 0) (n.add k) (.full i.size))))) ⟨m.next + 1, ⟨m.next, r, e, true⟩ :: dropB m.bl id⟩
              | _, _ => .no
            | _, _ => .no
          | _ => .no
        | none => .no
      else .no
    | _, _ => .no
  | _ => .no
def intsOf : List SV → Option (List (IntKind × SI))
  | [] => some []
  | v :: l => match v, intsOf l with
    | .s (.c (.f (.int k n))), some r => some ((k, n) :: r)
    | _, _ => none
def sndOf : List (IntKind × SI) → List SI
  | [] => []
  | x :: l => x.2 :: sndOf l
def maxI (x y : Int) : Int := if y > x then y else x
def minI (x y : Int) : Int := if y < x then y else x
def SI.two (f : Int → Int → Int) : SI → SI → SI
  | .l a, .l b => .l (f a b)
  | a, b => .o (f a.den b.den)
def foldS (f : Int → Int → Int) : SI → List SI → SI
  | x, [] => x
  | x, y :: l => foldS f (x.two f y) l

def evO (T : Tm) : Option Operand → Option (Option SV)
  | none => some none
  | some x => (ev T x).map some

def xop (P : Program) (T : Tm) (m : SMem) (o : Op) : XR :=
  match o with
  | .move x | .assign x => XR.one m (ev T x)
  | .pick c a b => match ev T c with
    | some (.s (.c (.f (.bool (.l true))))) => XR.one m (ev T a)
    | some (.s (.c (.f (.bool (.l false))))) => XR.one m (ev T b)
    | _ => .no
  | .alloc t => newS t (zeroS P t) m
  | .box t x => newS t ((ev T x).bind SV.cells) m
  | .build t ps => match zeroS P t, wellS P t with
    | some (.ls l), true => match buildS P t T ps.toList l with
      | some r => .ok [] (.s (.agg (.ls r))) m
      | none => .no
    | _, _ => .no
  | .load t a => match ev T a with
    | some x => loadS P t x m
    | none => .no
  | .store t a x => match ev T a, ev T x with
    | some a, some v => storeS P t a v m
    | _, _ => .no
  | .nilCheck x => match ev T x with
    | some (.s (.c (.f (.ptr id off)))) => .ok [] (.s (.c (.f (.ptr id off)))) m
    | _ => .no
  | .binOp op t x y _ => match ev T x, ev T y with
    | some a, some b => XR.of m (binS P op t a b)
    | _, _ => .no
  | .unOp op _ x => match ev T x with
    | some a => XR.one m (unS op a)
    | none => .no
  | .convert s d x => match ev T x with
    | some a => XR.one m (convS P s d a)
    | none => .no
  | .makeFunc f a b => match evs T a.toList, evs T b.toList with
    | some a, some b => match flats a, flats b with
      | some a, some b => .ok [] (.s (.c (.fn f a b))) m
      | _, _ => .no
    | _, _ => .no
  | .fieldAddr s x f => match ev T x with
    | some a => XR.one m (fieldAtS P s a f)
    | none => .no
  | .field t x f => match ev T x with
    | some a => XR.of m (fieldS P t a f)
    | none => .no
  | .indexAddr t x i => match ev T x, ev T i with
    | some a, some b => XR.of m (indexAtS P t a b)
    | _, _ => .no
  | .index t x i => match ev T x, ev T i with
    | some a, some b => XR.of m (indexS P t a b)
    | _, _ => .no
  | .extract x i => match ev T x with
    | some (.tup l) => match nth l i with
      | some y => .ok [] (.s y) m
      | none => .no
    | _ => .no
  | .call { callee := .builtin .len, args, argTypes } => match nth argTypes.toList 0, evs T args.toList with
    | some t, some [x] => XR.one m (lenS P t x)
    | _, _ => .no
  | .slice t x lo hi none => match ev T x, evO T lo, evO T hi with
    | some a, some l, some h => XR.of m (sliceS P t a l h)
    | _, _, _ => .no
  | .buildSlice t n ps => buildSliceS P t n T ps.toList m
  | .call { callee := .builtin .copy, args, argTypes } => match nth argTypes.toList 0, evs T args.toList with
    | some t, some [x, y] => copyS P t x y m
    | _, _ => .no
  | .call { callee := .builtin .max, args, .. } => match evs T args.toList with
    | some l => match intsOf l with
      | some ((k, x) :: r) => .ok [] (.s (.c (.f (.int k (foldS maxI x (sndOf r)))))) m
      | _ => .no
    | none => .no
  | .call { callee := .builtin .min, args, .. } => match evs T args.toList with
    | some l => match intsOf l with
      | some ((k, x) :: r) => .ok [] (.s (.c (.f (.int k (foldS minI x (sndOf r)))))) m
      | _ => .no
    | none => .no
  | _ => .no

/-- append, by a function that began when so many blocks were there. -/
def xapp (P : Program) (base : Nat) (T : Tm) (m : SMem) (o : Op) : XR :=
  match o with
  | .call { callee := .builtin .append, args, argTypes } => match argTypes.toList, evs T args.toList with
    | [t, u], some [s, x] => if t = u then appendS P base t s x m else .no
    | _, _ => .no
  | _ => .no
def isApp : Op → Bool
  | .call { callee := .builtin .append, .. } => true
  | _ => false

/-! The machine. -/
structure SFr where
  fn : FuncId
  tm : Tm
  todo : List Item
  base : Nat
inductive Tree where
  | ret (v : SV) (m : SMem)
  | br (b : Bool) (t e : Tree)
  | need (q : List Prop) (t : Tree)
  | stop (f : SFr) (m : SMem)
  | fail (why : Nat)
def Tree.graft : Tree → (SV → SMem → Tree) → Tree
  | .ret v m, k => k v m
  | .br b t e, k => .br b (t.graft k) (e.graft k)
  | .need q t, k => .need q (t.graft k)
  | .stop _ _, _ => .fail 1
  | .fail n, _ => .fail n
def needs : List Prop → Tree → Tree
  | [], t => t
  | q :: r, t => .need (q :: r) t
def ite' : SB → Tree → Tree → Tree
  | .l true, t, _ => t
  | .l false, _, e => e
  | .o b, t, e => .br b t e

def dstS (T : Tm) (d : Option Tmp) (v : SV) : Tm :=
  match d with
  | some d => setN T d (some v)
  | none => T
/-- Whether a guarded operation is done. -/
def wantS (T : Tm) (ops : List Oper) (o : Oper) : Option SB :=
  match o.guard with
  | none => some (.l true)
  | some (j, want) => match nth ops j with
    | some p => match p.dst with
      | some d => match nth T d with
        | some (some (.s (.c (.f (.bool b))))) => some (b.beq (.l want))
        | some (some (.tup _)) => some (.l false)
        | _ => none
      | none => some (.l false)
    | none => some (.l false)
/-- What is known of a slot, once it is asked. -/
def knowS (T : Tm) (d : Nat) (b : Bool) : Tm :=
  match nth T d with
  | some (some (.s (.c (.f (.bool (.o _)))))) => setN T d (some (.s (.c (.f (.bool (.l b))))))
  | _ => T
def knowG (T : Tm) (ops : List Oper) (o : Oper) (yes : Bool) : Tm :=
  match o.guard with
  | none => T
  | some (j, want) => match nth ops j with
    | some p => match p.dst with
      | some d => knowS T d (want == yes)
      | none => T
    | none => T
def knowC (T : Tm) (c : Operand) (b : Bool) : Tm :=
  match c with
  | .tmp d => knowS T d b
  | _ => T
/-- The function that is called, and all that it is handed. -/
def callS (T : Tm) (o : Op) : Option (FuncId × List SV) :=
  match o with
  | .call { callee := .value f, args, .. } => match ev T f, evs T args.toList with
    | some (.s (.c (.fn (.func g) a b))), some l => some (g, a.map (fun x => .s (.c (.f x))) ++ l ++ b.map (fun x => .s (.c (.f x))))
    | _, _ => none
  | _ => none
def resS (P : Program) (T : Tm) (m : SMem) : List ResultVar → Option (List Prop × List S1)
  | [] => some ([], [])
  | .tmp t :: r => match nth T t, resS P T m r with
    | some (some (.s x)), some (q, l) => some (q, x :: l)
    | _, _ => none
  | .cell a t :: r => match nth T a, resS P T m r with
    | some (some x), some (q, l) => match loadS P t x m with
      | .ok q1 (.s y) _ => some (q1 ++ q, y :: l)
      | _ => none
    | _, _ => none
def oneOf : List S1 → SV
  | [x] => .s x
  | l => .tup l

/-- What is known of the program: its functions, what some of them answer, and where to stop. -/
structure Env where
  P : Program
  fn : FuncId → Option Func
  con : FuncId → List SV → SMem → Option Tree
  halt : FuncId → Item → Bool

def isCall : Op → Bool
  | .call { callee := .value _, .. } => true
  | _ => false
def padN : Nat → Tm → Tm
  | 0, l => l
  | n + 1, [] => some (.tup []) :: padN n []
  | n + 1, a :: l => a :: padN n l

def leaveT (E : Env) (f : SFr) (m : SMem) : Tree :=
  match E.fn f.fn with
  | some g => match resS E.P f.tm m g.results.toList with
    | some (q, l) => needs q (.ret (oneOf l) m)
    | none => .fail 2
  | none => .fail 3
/-- A call. -/
def callT (E : Env) (r : SFr → SMem → Tree) (tm : Tm) (o : Op) (m : SMem) (next : SV → SMem → Tree) : Tree :=
  match callS tm o with
  | none => .fail 8
  | some (g, l) => match E.con g l m with
    | some t => t.graft next
    | none => match E.fn g with
      | some fn => match fn.body with
        | some c => (r ⟨g, padN fn.ntmps (l.map some), [.code c], m.next⟩ m).graft next
        | none => .fail 9
      | none => .fail 10
def opT (E : Env) (r : SFr → SMem → Tree) (tag base : Nat) (tm : Tm) (o : Op) (m : SMem) (next : SV → SMem → Tree) : Tree :=
  match isCall o with
  | true => callT E r tm o m next
  | false => match isApp o with
    | true => match xapp E.P base tm m o with
      | .ok q v m' => needs q (next v m')
      | .no => .fail (tag + 1)
    | false => match xop E.P tm m o with
      | .ok q v m' => needs q (next v m')
      | .no => .fail (tag + 2)

/-! A region that draws its order. -/
def allB {α : Type} (p : α → Bool) : List α → Bool
  | [] => true
  | a :: l => p a && allB p l
def memB : List Nat → Nat → Bool
  | [], _ => false
  | a :: l, n => Nat.beq a n || memB l n
def SF.lt (n : Nat) : SF → Bool
  | .ptr id _ | .slice id _ _ _ => Nat.blt id n
  | _ => true
def SC.lt (n : Nat) : SC → Bool
  | .f x => x.lt n
  | .fn _ a b => allB (SF.lt n) a && allB (SF.lt n) b
def SA.lt (n : Nat) : SA → Bool
  | .ls l | .pre l => allB (SC.lt n) l
  | .op _ | .pop _ | .raw _ => true
def S1.lt (n : Nat) : S1 → Bool
  | .c x => x.lt n
  | .agg a => a.lt n
def SV.lt (n : Nat) : SV → Bool
  | .s x => x.lt n
  | .tup l => allB (S1.lt n) l
/-- Of the slots those that are looked at, and whose values are known so far. -/
def onlyT (keep : List Nat) (n : Nat) : Nat → Tm → Tm
  | _, [] => []
  | i, x :: l => (match memB keep i, x with
    | true, some v => if v.lt n then some v else none
    | _, _ => none) :: onlyT keep n (i + 1) l
/-- Of the memory some blocks, perhaps only to be read. -/
def onlyB (foot : List Nat) (n : Nat) (wr : Bool) : List SBlk → List Nat → List SBlk
  | [], _ => []
  | b :: l, seen => match memB foot b.id, memB seen b.id with
    | true, false => if Nat.blt b.id n && b.arr.lt n then ⟨b.id, b.arr, b.ty, b.wr && wr⟩ :: onlyB foot n wr l (b.id :: seen) else onlyB foot n wr l (b.id :: seen)
    | _, _ => onlyB foot n wr l seen
/-- No block is lost. -/
def keepB (a b : List SBlk) : Bool := allB (fun x => (getB b x.id).isSome) a
/-- What was there is as it was, but for its cells. -/
def sameB (n : Nat) (a b : List SBlk) : Bool :=
  allB (fun x => Nat.ble n x.id || (match getB a x.id with | some y => y.wr == x.wr | none => false)) b
/-- What is new. -/
def newsB (n : Nat) : List SBlk → List SBlk
  | [] => []
  | b :: l => if Nat.ble n b.id then b :: newsB n l else newsB n l
def SF.ids : SF → List Nat
  | .ptr id _ | .slice id _ _ _ => [id]
  | _ => []
def catN {α : Type} (f : α → List Nat) : List α → List Nat
  | [] => []
  | a :: l => f a ++ catN f l
def SC.ids : SC → List Nat
  | .f x => x.ids
  | .fn _ a b => catN SF.ids a ++ catN SF.ids b
def SA.ids : SA → List Nat
  | .ls l | .pre l => catN SC.ids l
  | .op _ | .pop _ | .raw _ => []
def S1.ids : S1 → List Nat
  | .c x => x.ids
  | .agg a => a.ids
def SV.ids : SV → List Nat
  | .s x => x.ids
  | .tup l => catN S1.ids l
def reach (bl : List SBlk) : Nat → List Nat → List Nat
  | 0, l => l
  | n + 1, l => l ++ reach bl n (catN (fun i => match getB bl i with | some b => b.arr.ids | none => []) l)
def evIds (T : Tm) (x : Operand) : List Nat := match ev T x with | some v => v.ids | none => []
def footOp (T : Tm) : Op → List Nat
  | .load _ a => evIds T a
  | .store _ a _ => evIds T a
  | .call { callee := .builtin .copy, args, .. } => catN (evIds T) args.toList
  | _ => []
def writesOp : Op → Bool
  | .store .. => true
  | .call { callee := .builtin .copy, .. } => true
  | _ => false
structure DRec where
  dst : Option Tmp
  v : SV
  looks : List Nat
  foot : List Nat
  bl : List SBlk
def Tree.leaf : Tree → Option (List Prop × SV × SMem)
  | .ret v m => some ([], v, m)
  | .need q t => match t.leaf with
    | some (q', v, m) => some (q ++ q', v, m)
    | none => none
  | _ => none
/-- An operation, by what it looks at alone. -/
def dop (E : Env) (r : SFr → SMem → Tree) (ops : Array Oper) (o : Oper) (T : Tm) (m : SMem) : Option (List Prop × DRec × Nat) :=
  let looks := o.looksAt ops
  let T' := onlyT looks m.next 0 T
  match wantS T' ops.toList o with
  | some (.l false) => some ([], ⟨o.dst, .tup [], looks, [], []⟩, m.next)
  | some (.l true) => match isCall o.op with
    | true => match callS T' o.op with
      | none => none
      | some (g, l) =>
        let foot := reach m.bl 3 (catN SV.ids l)
        let loc := onlyB foot m.next true m.bl []
        match E.con g l ⟨m.next, loc⟩ with
        | some t => match t.leaf with
          | some (q, v, m1) => if keepB loc m1.bl && sameB m.next loc m1.bl then some (q, ⟨o.dst, v, looks, foot, m1.bl⟩, m1.next) else none
          | none => none
        | none => match E.fn g with
          | none => none
          | some fn => match fn.body with
            | none => none
            | some c =>
              match (r ⟨g, padN fn.ntmps (l.map some), [.code c], m.next⟩ ⟨m.next, loc⟩).leaf with
              | some (q, v, m1) => if keepB loc m1.bl && sameB m.next loc m1.bl then some (q, ⟨o.dst, v, looks, foot, m1.bl⟩, m1.next) else none
              | none => none
    | false =>
      let foot := footOp T' o.op
      let loc := onlyB foot m.next (writesOp o.op) m.bl []
      match xop E.P T' ⟨m.next, loc⟩ o.op with
      | .ok q v m1 => if keepB loc m1.bl && sameB m.next loc m1.bl then some (q, ⟨o.dst, v, looks, foot, if writesOp o.op then m1.bl else newsB m.next m1.bl⟩, m1.next) else none
      | .no => none
  | _ => none
def drawS (E : Env) (r : SFr → SMem → Tree) (ops : Array Oper) : List Oper → Tm → SMem → Option (List Prop × List DRec × Tm × SMem)
  | [], T, m => some ([], [], T, m)
  | o :: l, T, m => match dop E r ops o T m with
    | none => none
    | some (q, d, n) => match Nat.ble m.next n, drawS E r ops l (dstS T d.dst d.v) ⟨n, d.bl ++ m.bl⟩ with
      | true, some (q', ds, T', m') => some (q ++ q', d :: ds, T', m')
      | _, _ => none
def meet (a b : List Nat) : Bool := !allB (fun x => !memB b x) a
def optL : Option Nat → List Nat
  | some n => [n]
  | none => []
def DRec.dom (d : DRec) : List Nat := d.bl.map (·.id)
/-- Whether the order of two operations matters. -/
def clash (x y : DRec) : Bool :=
  meet (optL x.dst) (y.looks ++ optL y.dst) || meet (optL y.dst) x.looks || meet x.dom (y.foot ++ y.dom) || meet y.dom x.foot
/-- What an operation comes behind, by the edges: of each operation so far, the last one first. -/
def predsS (o : Oper) : List Nat := (o.after.toList.filter (Region.binds .any)).map (·.on)
def ancS (tab : List (List Nat)) (n : Nat) (o : Oper) : List Nat :=
  predsS o ++ catN (fun p => match nth tab (n - 1 - p) with | some l => l | none => []) (predsS o)
/-- Each operation comes behind those ahead of it with which it clashes; edges go back. -/
def orderS (done : List DRec) (tab : List (List Nat)) (n : Nat) : List Oper → List DRec → Bool
  | [], [] => true
  | o :: l, d :: ds =>
    let an := ancS tab n o
    allB (fun e => !Region.binds .any e || Nat.blt e.on n) o.after.toList && ordered an done n d && orderS (d :: done) (an :: tab) (n + 1) l ds
  | _, _ => false
where
  ordered (an : List Nat) : List DRec → Nat → DRec → Bool
    | [], _, _ => true
    | x :: l, n, d => (!clash x d || memB an (n - 1)) && ordered an l (n - 1) d
def compact : List SBlk → List Nat → List SBlk
  | [], _ => []
  | b :: l, seen => if memB seen b.id then compact l seen else b :: compact l (b.id :: seen)
def drawT (E : Env) (r : SFr → SMem → Tree) (tag : Nat) (ops : Array Oper) (T : Tm) (m : SMem) (next : Tm → SMem → Tree) : Tree :=
  match drawS E r ops ops.toList T m with
  | none => .fail (tag + 3)
  | some (q, ds, T', m') => match orderS [] [] 0 ops.toList ds with
    | true => needs q (next T' ⟨m'.next, compact m'.bl []⟩)
    | false => .fail (tag + 4)

def stepT (E : Env) (r : SFr → SMem → Tree) (f : SFr) (m : SMem) : List Item → Tree
  | [] => leaveT E f m
  | x :: k => match E.halt f.fn x with
    | true => .stop f m
    | false => match x with
      | .code .ret => leaveT E f m
      | .code .skip => r ⟨f.fn, f.tm, k, f.base⟩ m
      | .code (.label _) => r ⟨f.fn, f.tm, k, f.base⟩ m
      | .inBlock _ => r ⟨f.fn, f.tm, k, f.base⟩ m
      | .inScope _ => r ⟨f.fn, f.tm, k, f.base⟩ m
      | .code (.seq a b) => r ⟨f.fn, f.tm, .code a :: .code b :: k, f.base⟩ m
      | .code (.cond c a b) => match ev f.tm c with
        | some (.s (.c (.f (.bool t)))) => ite' t (r ⟨f.fn, knowC f.tm c true, .code a :: k, f.base⟩ m) (r ⟨f.fn, knowC f.tm c false, .code b :: k, f.base⟩ m)
        | _ => .fail 4
      | .code (.block id b) => r ⟨f.fn, f.tm, .code b :: .inBlock id :: k, f.base⟩ m
      | .code (.loop b) => r ⟨f.fn, f.tm, .code b :: .inLoop b :: k, f.base⟩ m
      | .inLoop b => r ⟨f.fn, f.tm, .code b :: .inLoop b :: k, f.base⟩ m
      | .code (.scope b) => r ⟨f.fn, f.tm, .code b :: .inScope b :: k, f.base⟩ m
      | .code (.exit id) => match exitTo id k with
        | some k' => r ⟨f.fn, f.tm, k', f.base⟩ m
        | none => .fail 5
      | .code (.region _ ops false) => r ⟨f.fn, f.tm, .inRegion ops (List.range ops.size) :: k, f.base⟩ m
      | .code (.region id ops true) => drawT E r (f.fn * 100000 + id * 10) ops f.tm m fun T' m' => r ⟨f.fn, T', k, f.base⟩ m'
      | .inRegion ops l => match l with
        | [] => r ⟨f.fn, f.tm, k, f.base⟩ m
        | i :: rest => match nth ops.toList i with
          | none => .fail 6
          | some o => match wantS f.tm ops.toList o with
            | none => .fail (f.fn * 100000 + 7)
            | some b => ite' b
                (opT E r (f.fn * 100000 + (match o.dst with | some d => d | none => 999) * 10) f.base (knowG f.tm ops.toList o true) o.op m fun v m' => r ⟨f.fn, dstS (knowG f.tm ops.toList o true) o.dst v, .inRegion ops rest :: k, f.base⟩ m')
                (r ⟨f.fn, dstS (knowG f.tm ops.toList o false) o.dst (.tup []), .inRegion ops rest :: k, f.base⟩ m)
      | _ => .fail 11
def run (E : Env) : Nat → SFr → SMem → Tree
  | 0, _, _ => .fail 0
  | n + 1, f, m => stepT E (run E n) f m f.todo
end Go.Proofs.Ytdbhbpkdefbibaa
