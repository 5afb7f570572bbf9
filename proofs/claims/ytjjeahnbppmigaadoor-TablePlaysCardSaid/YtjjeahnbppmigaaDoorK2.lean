/- The operations of the symbolic machine, and its steps. Plain definitions. No condition. -/
import Derived.Test.YtjjeahnbppmigaaDoorK1
import Derived.Orders
set_option linter.unusedVariables false
set_option linter.unusedSimpArgs false
namespace Go.Proofs.YtjjeahnbppmigaaDoor
noncomputable section

def ariS (op : BinOp) (k : IntKind) (x y : Int) : Option Int :=
  match op with
  | .add => some (k.wrap (x + y))
  | .sub => some (k.wrap (x - y))
  | .mul => some (k.wrap (x * y))
  | .and => some (k.wrap (BitVec.ofInt k.bits x &&& BitVec.ofInt k.bits y).toNat)
  | .or => some (k.wrap (BitVec.ofInt k.bits x ||| BitVec.ofInt k.bits y).toNat)
  | .xor => some (k.wrap (BitVec.ofInt k.bits x ^^^ BitVec.ofInt k.bits y).toNat)
  | .andNot => some (k.wrap (BitVec.ofInt k.bits x &&& ~~~ BitVec.ofInt k.bits y).toNat)
  | .quo => some (k.wrap (x.tdiv y))
  | .rem => some (x.tmod y)
  | .shl => some (k.wrap (x * 2 ^ (min y.toNat k.bits)))
  | .shr => some (x.fdiv (2 ^ (min y.toNat k.bits)))
  | _ => none
def ari (op : BinOp) (k : IntKind) (x y : Int) : Int := (ariS op k x y).getD 0
theorem ari_of {op : BinOp} {k : IntKind} {x y n : Int} (h : ariS op k x y = some n) : ari op k x y = n := by unfold ari; rw [h]; rfl
theorem ari_add (k : IntKind) (x y : Int) : ari .add k x y = k.wrap (x + y) := rfl
theorem ari_sub (k : IntKind) (x y : Int) : ari .sub k x y = k.wrap (x - y) := rfl
theorem ari_mul (k : IntKind) (x y : Int) : ari .mul k x y = k.wrap (x * y) := rfl
theorem ari_and (k : IntKind) (x y : Int) : ari .and k x y = k.wrap (BitVec.ofInt k.bits x &&& BitVec.ofInt k.bits y).toNat := rfl
theorem ari_or (k : IntKind) (x y : Int) : ari .or k x y = k.wrap (BitVec.ofInt k.bits x ||| BitVec.ofInt k.bits y).toNat := rfl
theorem ari_xor (k : IntKind) (x y : Int) : ari .xor k x y = k.wrap (BitVec.ofInt k.bits x ^^^ BitVec.ofInt k.bits y).toNat := rfl
theorem ari_andNot (k : IntKind) (x y : Int) : ari .andNot k x y = k.wrap (BitVec.ofInt k.bits x &&& ~~~ BitVec.ofInt k.bits y).toNat := rfl
theorem ari_quo (k : IntKind) (x y : Int) : ari .quo k x y = k.wrap (x.tdiv y) := rfl
theorem ari_rem (k : IntKind) (x y : Int) : ari .rem k x y = x.tmod y := rfl
theorem ari_shl (k : IntKind) (x y : Int) : ari .shl k x y = k.wrap (x * 2 ^ (min y.toNat k.bits)) := rfl
theorem ari_shr (k : IntKind) (x y : Int) : ari .shr k x y = x.fdiv (2 ^ (min y.toNat k.bits)) := rfl
def cmpS (op : BinOp) (x y : Int) : Option Bool :=
  match op with
  | .eql => some (x == y)
  | .neq => some (x != y)
  | .lss => some (decide (x < y))
  | .leq => some (decide (x ≤ y))
  | .gtr => some (decide (x > y))
  | .geq => some (decide (x ≥ y))
  | _ => none
def asksS (op : BinOp) (y : SI) : Option (List Prop) :=
  match op, y with
  | .quo, .l n | .rem, .l n => if n = 0 then none else some []
  | .quo, .o n | .rem, .o n => some [n ≠ 0]
  | .shl, .l n | .shr, .l n => if n < 0 then none else some []
  | .shl, .o n | .shr, .o n => some [0 ≤ n]
  | _, _ => some []
def isSh : BinOp → Bool
  | .shl | .shr => true
  | _ => false
def intS (op : BinOp) (k k' : IntKind) (x y : SI) : Option (List Prop × SC) :=
  if isSh op || decide (k = k') then
    match asksS op y with
    | none => none
    | some q =>
      match x, y with
      | .l a, .l b => match ariS op k a b with
        | some n => some (q, .f (.int k (.l n)))
        | none => match cmpS op a b with
          | some t => some (q, .f (.bool (.l t)))
          | none => none
      | x, y => match ariS op k x.den y.den with
        | some _ => some (q, .f (.int k (.o (ari op k x.den y.den))))
        | none => match cmpS op x.den y.den with
          | some t => some (q, .f (.bool (.o t)))
          | none => none
  else none
abbrev SB.beq : SB → SB → SB
  | .l a, .l b => .l (a == b)
  | a, b => .o (a.den == b.den)
abbrev SB.not : SB → SB
  | .l a => .l (!a)
  | .o a => .o (!a)
def eqS (P : Program) (t : TypeId) (x y : SC) : Option SB :=
  match P.underlying t, x, y with
  | some .bool, .f (.bool a), .f (.bool b) => some (a.beq b)
  | some (.pointer _), .f (.ptr _ _), .f (.lit (.pointer none)) => some (.l false)
  | some (.pointer _), .f (.lit (.pointer none)), .f (.ptr _ _) => some (.l false)
  | some (.pointer _), .f (.lit (.pointer none)), .f (.lit (.pointer none)) => some (.l true)
  | some (.slice _), .f (.slice _ _ _ _), .f (.lit (.slice none _ _)) => some (.l false)
  | some (.slice _), .f (.lit (.slice none _ _)), .f (.lit (.slice none _ _)) => some (.l true)
  | some (.slice _), .f .e1, .f (.lit (.slice none _ _)) => some (.l false)
  | some (.interface _), .ifc _ _ _, .f (.lit .nilIface) => some (.l false)
  | some (.interface _), .f (.lit .nilIface), .ifc _ _ _ => some (.l false)
  | some (.func _ _ _), .fn _ _ _, .f (.lit .nilFunc) => some (.l false)
  | some (.func _ _ _), .yl _, .f (.lit .nilFunc) => some (.l false)
  | some (.func _ _ _), .f (.lit .nilFunc), .f (.lit .nilFunc) => some (.l true)
  | some (.map _ _), .f (.lit (.map none)), .f (.lit (.map none)) => some (.l true)
  | _, _, _ => none
def binS (P : Program) (op : BinOp) (t : TypeId) (x y : SV) : Option (List Prop × SV) :=
  match x, y with
  | .s (.c (.f (.int k a))), .s (.c (.f (.int k' b))) => (intS op k k' a b).map fun r => (r.1, .s (.c r.2))
  | .s (.c x), .s (.c y) => match op with
    | .eql => (eqS P t x y).map fun b => ([], .s (.c (.f (.bool b))))
    | .neq => (eqS P t x y).map fun b => ([], .s (.c (.f (.bool b.not))))
    | _ => none
  | _, _ => none
def unS (op : UnOp) (x : SV) : Option SV :=
  match op, x with
  | .neg, .s (.c (.f (.int k (.l n)))) => some (.s (.c (.f (.int k (.l (k.wrap (0 - n)))))))
  | .neg, .s (.c (.f (.int k (.o n)))) => some (.s (.c (.f (.int k (.o (ari .sub k 0 n))))))
  | .xor, .s (.c (.f (.int k (.l n)))) => (ariS .xor k (if k.signed then -1 else k.max) n).map fun r => .s (.c (.f (.int k (.l r))))
  | .xor, .s (.c (.f (.int k (.o n)))) => some (.s (.c (.f (.int k (.o (ari .xor k (if k.signed then -1 else k.max) n))))))
  | .not, .s (.c (.f (.bool b))) => some (.s (.c (.f (.bool b.not))))
  | _, _ => none
abbrev SI.map (f : Int → Int) : SI → SI
  | .l n => .l (f n)
  | .o n => .o (f n)
def convS (P : Program) (src dst : TypeId) (x : SV) : Option SV :=
  match P.underlying src, P.underlying dst, x with
  | some _, some (.int k), .s (.c (.f (.int _ n))) => some (.s (.c (.f (.int k (n.map k.wrap)))))
  | _, _, _ => none

def within (i : SI) (n : SN) : Option (List Prop) :=
  match i, n with
  | .l i, .l n => if 0 ≤ i ∧ i < n then some [] else none
  | i, n => some [0 ≤ i.den ∧ i.den < n.den]
def sizeS (P : Program) (t : TypeId) : Option Nat := (P.info? t).map (·.size)
def fieldAtS (P : Program) (s : TypeId) (x : SV) (f : Nat) : Option SV :=
  match P.underlying s, x with
  | some (.struct fs), .s (.c (.f (.ptr id off))) => match nth fs.toList f with
    | some f => match sizeS P f.type with
      | some (_ + 1) => some (.s (.c (.f (.ptr id (off.add (.l f.offset))))))
      | _ => none
    | none => none
  | some (.struct fs), .s (.c (.f (.gp g off))) => match nth fs.toList f with
    | some f => match sizeS P f.type with
      | some (_ + 1) => some (.s (.c (.f (.gp g (off.add (.l f.offset))))))
      | _ => none
    | none => none
  | _, _ => none
def indexAtS (P : Program) (t : TypeId) (x i : SV) : Option (List Prop × SV) :=
  match P.underlying t, x, i with
  | some (.array n e), .s (.c (.f (.ptr id off))), .s (.c (.f (.int _ i))) => match sizeS P e, within i (.l n) with
    | some sz, some q => some (q, .s (.c (.f (.ptr id (off.add (i.nat.mul sz))))))
    | _, _ => none
  | some (.array n e), .s (.c (.f (.gp g off))), .s (.c (.f (.int _ i))) => match sizeS P e, within i (.l n) with
    | some sz, some q => some (q, .s (.c (.f (.gp g (off.add (i.nat.mul sz))))))
    | _, _ => none
  | some (.slice e), .s (.c (.f (.slice id off n _))), .s (.c (.f (.int _ i))) => match sizeS P e, within i n with
    | some sz, some q => some (q, .s (.c (.f (.ptr id (off.add (i.nat.mul sz))))))
    | _, _ => none
  | _, _, _ => none
abbrev offT (P : Program) (t u : TypeId) (a : SA) (off : SN) : SN := match a, off with
  | .op _, .l 0 => (match sizeS P t, sizeS P u with
    | some n, some k => (match Nat.beq n k with
      | true => .l 0
      | false => .o 0)
    | _, _ => .l 0)
  | _, o => o
def atO {α : Type} (o : SN) (k : SN → α) : α := match o with
  | .l n => k (.l n)
  | .o n => k (.o n)
theorem atO_eq {α : Type} (o : SN) (k : SN → α) : atO o k = k o := by cases o <;> rfl
def fieldS (P : Program) (t : TypeId) (x : SV) (f : Nat) : Option (List Prop × SV) :=
  match P.underlying t, x with
  | some (.struct fs), .s (.agg a) => match nth fs.toList f with
    | some f => atO (offT P t f.type a (.l f.offset)) fun o => (partS P f.type a o).map fun r => (r.1, .s r.2)
    | none => none
  | _, _ => none
abbrev offO (a : SA) (o : SN) : SN := match a with
  | .op _ => .o o.den
  | _ => o
def indexS (P : Program) (t : TypeId) (x i : SV) : Option (List Prop × SV) :=
  match P.underlying t, x, i with
  | some (.array n e), .s (.agg a), .s (.c (.f (.int _ i))) => match sizeS P e, within i (.l n) with
    | some sz, some q => (partS P e a (offO a (i.nat.mul sz))).map fun r => (q ++ r.1, .s r.2)
    | _, _ => none
  | _, _, _ => none

inductive XR where
  | no
  | ok (q : List Prop) (v : SV) (m : SMem)
def XR.of (m : SMem) : Option (List Prop × SV) → XR
  | some (q, v) => .ok q v m
  | none => .no
def XR.one (m : SMem) : Option SV → XR
  | some v => .ok [] v m
  | none => .no
def lookG : List (Nat × List Value) → Nat → Option (List Value)
  | [], _ => none
  | (g, cs) :: l, i => if Nat.beq g i then some cs else lookG l i
def loadS (P : Program) (t : TypeId) (x : SV) (m : SMem) : XR :=
  match x with
  | .s (.c (.f (.ptr id off))) => match getB m.bl id with
    | some b => XR.of m (atO (offT P b.ty t b.arr off) fun o => (partL P t b.arr o).map fun r => (r.1, .s r.2))
    | none => .no
  | .s (.c (.f (.gp g off))) => match lookG glTab g with
    | some cs => match ofVals cs with
      | some a => XR.of m ((partS P t a off).map fun r => (r.1, .s r.2))
      | none => .no
    | none => .no
  | _ => .no
def SA.size : SA → Option Nat
  | .ls l => some (len l)
  | _ => none
def fitsS (P : Program) (t : TypeId) (a : SA) : Option (List Prop) :=
  match sizeS P t, a with
  | some n, .ls l => if n = len l then some [] else none
  | some n, .op cs => some [cs.size = n]
  | some n, .patch cs _ _ => some [cs.size = n]
  | _, _ => none
def storeS (P : Program) (t : TypeId) (x v : SV) (m : SMem) : XR :=
  match x, v.cells with
  | .s (.c (.f (.ptr id off))), some a => match getB m.bl id, fitsS P t a with
    | some b, some q1 => match b.wr, (atO (offT P b.ty t b.arr off) fun o => putS b.arr o a) with
      | true, some (q2, r) => .ok (q1 ++ q2) (.tup []) ⟨m.next, putB m.bl id r, m.xs⟩
      | _, _ => .no
    | _, _ => .no
  | _, _ => .no
def newS (t : TypeId) (a : Option SA) (m : SMem) : XR :=
  match a with
  | some a => .ok [] (.s (.c (.f (.ptr m.next (.l 0))))) (m.new a t)
  | none => .no
def bigZ (P : Program) (t : TypeId) : Array Value := match P.info? t with
  | some i => match i.zero with
    | some z => z.cells
    | none => #[]
  | none => #[]
def zeroS (P : Program) (t : TypeId) : Option SA :=
  match P.info? t with
  | some i => match i.zero with
    | some z => match Nat.ble 3000 z.cells.size with
      | true => match allOne z.cells.toList with
        | true => some (.op (bigZ P t))
        | false => none
      | false => ofVals z.cells.toList
    | none => none
  | none => none
def evs (T : Tm) : List Operand → Option (List SV)
  | [] => some []
  | x :: l => match ev T x, evs T l with
    | some v, some r => some (v :: r)
    | _, _ => none
def flats : List SV → Option (List SF)
  | [] => some []
  | .s (.c (.f x)) :: l => (flats l).map (x :: ·)
  | _ :: _ => none

def placesS (P : Program) (t : TypeId) (i : Nat) : Option (Nat × Nat) :=
  match P.underlying t with
  | some (.struct fs) => match nth fs.toList i with
    | some f => (sizeS P f.type).map fun n => (f.offset, n)
    | none => none
  | some (.array _ e) => (sizeS P e).map fun n => (i * n, n)
  | _ => none
def buildS (P : Program) (t : TypeId) (T : Tm) : List (Nat × Operand) → List SC → Option (List SC)
  | [], l => some l
  | (i, x) :: r, l => match placesS P t i, ev T x with
    | some (off, n), some v => match v.cells with
      | some (.ls y) => if len y = n then match splice l off y with
          | some l' => buildS P t T r l'
          | none => none
        else none
      | _ => none
    | _, _ => none
def build1S (P : Program) (t : TypeId) (T : Tm) (ps : List (Nat × Operand)) (l : List SC) : Option (List Prop × SV) :=
  match ps with
  | [(i, x)] => match placesS P t i, ev T x, plains l with
    | some (off, n), some v, some vs => match v.cells with
      | some (.op y) => some ([y.size = n, off + n ≤ vs.length], .s (.agg (.op (putAt vs.toArray off y.toList))))
      | _ => none
    | _, _, _ => none
  | _ => none
def sized (P : Program) : List Field → Bool
  | [] => true
  | f :: l => (sizeS P f.type).isSome && sized P l
def wellS (P : Program) (t : TypeId) : Bool :=
  match P.underlying t with
  | some (.struct fs) => sized P fs.toList
  | some (.array _ e) => (sizeS P e).isSome
  | _ => false
abbrev SN.int : SN → SI
  | .l n => .l n
  | .o n => .o n
def lenS (P : Program) (t : TypeId) (x : SV) : Option SV :=
  match P.underlying t, x with
  | some (.array n _), _ => some (.s (.c (.f (.int .i64 (.l n)))))
  | some (.slice _), .s (.c (.f (.slice _ _ n _))) => some (.s (.c (.f (.int .i64 n.int))))
  | some (.slice _), .s (.c (.f (.lit (.slice none n _)))) => some (.s (.c (.f (.int .i64 (.l n)))))
  | some (.slice _), .s (.c (.f .e0)) => some (.s (.c (.f (.int .i64 (.l 0)))))
  | some (.slice _), .s (.c (.f .e00)) => some (.s (.c (.f (.int .i64 (.l 0)))))
  | some (.slice _), .s (.c (.f .e1)) => some (.s (.c (.f (.int .i64 (.l 0)))))
  | _, _ => none

def IsSl (v : Value) : Prop := ∃ a n c, v = .slice a n c
def slN (v : Value) : Nat := match v with | .slice _ n _ => n | _ => 0
def lenQ (P : Program) (t : TypeId) (x : SV) : Option (List Prop × SV) :=
  match P.underlying t, x with
  | some (.slice _), .s (.c (.f (.opq v))) => some ([IsSl v], .s (.c (.f (.int .i64 (.o (slN v))))))
  | _, _ => none
def lenX (P : Program) (t : TypeId) (x : SV) (m : SMem) : XR :=
  match lenS P t x with
  | some s => .ok [] s m
  | none => XR.of m (lenQ P t x)

def rangeS0 (a : SA) (off n : SN) : Option (List Prop × SA) :=
  match a, off, n with
  | .ls l, .l k, .l n | .pre l, .l k, .l n => match Nat.ble (k + n) (len l), takeN (dropN l k) n with
    | true, some r => some ([], .ls r)
    | _, _ => none
  | .op cs, off, n | .pop cs, off, n => some ([off.den + n.den ≤ cs.size], .op (cs.extract off.den (off.den + n.den)))
  | _, _, _ => none
def rangeS (a : SA) (off n : SN) : Option (List Prop × SA) :=
  match a with
  | .raw cs => some ([off.den + n.den ≤ cs.size, AllOneIn cs off.den n.den], .op (cs.extract off.den (off.den + n.den)))
  | a => rangeS0 a off n
def SN.le : SN → SN → Option (List Prop)
  | .l a, .l b => if a ≤ b then some [] else none
  | a, b => some [a.den ≤ b.den]
def SI.nonneg : SI → Option (List Prop)
  | .l a => if 0 ≤ a then some [] else none
  | .o a => some [0 ≤ a]
abbrev SN.min : SN → SN → SN
  | .l a, .l b => .l (Nat.min a b)
  | a, b => .o (Nat.min a.den b.den)
def beginS (off l : SN) (m : SN) (sz : Nat) : SN :=
  match l, m, off with
  | .l 0, _, off => off
  | .l l, .l m, .l off => .l (if m = l then off else off + l * sz)
  | l, m, off => .o (if m.den = l.den then off.den else off.den + l.den * sz)
def boundS (x : Option SV) (d : SN) (top : SN) : Option (List Prop × SN) :=
  match x with
  | none => some ([], d)
  | some (.s (.c (.f (.int _ i)))) => match i.nonneg, i.nat.le top with
    | some q1, some q2 => some (q1 ++ q2, i.nat)
    | _, _ => none
  | _ => none
def cutK (hi : Option SV) (c : SK) : SK :=
  match hi, c with
  | some _, .full s => .cut s
  | _, c => c
def isCut : SK → Bool
  | .cut _ => true
  | _ => false
def sliceS (P : Program) (t : TypeId) (x : SV) (lo hi : Option SV) : Option (List Prop × SV) :=
  match P.underlying t, x with
  | some (.array n e), .s (.c (.f (.ptr id off))) => match sizeS P e, boundS hi (.l n) (.l n) with
    | some sz, some (q1, h) => match boundS lo (.l 0) h with
      | some (q2, l) => some (q1 ++ q2, .s (.c (.f (.slice id (beginS off l (.l n) sz) (h.sub l) (.n ((SN.l n).sub l))))))
      | none => none
    | _, _ => none
  | some (.slice e), .s (.c (.f (.slice id off n (.n c)))) => match sizeS P e, boundS hi n c with
    | some sz, some (q1, h) => match boundS lo (.l 0) h with
      | some (q2, l) => some (q1 ++ q2, .s (.c (.f (.slice id (beginS off l c sz) (h.sub l) (.n (c.sub l))))))
      | none => none
    | _, _ => none
  | some (.slice e), .s (.c (.f (.slice id off n c))) => match sizeS P e, boundS hi n n with
    | some sz, some (q1, h) => match lo with
      | none => some (q1, .s (.c (.f (.slice id off h (cutK hi c)))))
      | some _ => match boundS lo (.l 0) h with
        | some (q2, l) => some (q1 ++ q2 ++ [l.den < h.den], .s (.c (.f (.slice id (off.add (l.mul sz)) (h.sub l) .any))))
        | none => none
    | _, _ => none
  | _, _ => none
def isN : SK → Bool
  | .n _ => true
  | _ => false
def sliceL (P : Program) (t : TypeId) (x : SV) (lo hi : Option SV) : Option (List Prop × SV) :=
  match P.underlying t, x, lo with
  | some (.slice e), .s (.c (.f (.slice _ _ n c))), some _ => match isN c, sizeS P e, boundS hi n n with
    | false, some _, some (q1, .l h) => match boundS lo (.l 0) (.l h) with
      | some (q2, .l l) => if Nat.beq l h then some (q1 ++ q2, .s (.c (.f .e1))) else sliceS P t x lo hi
      | _ => sliceS P t x lo hi
    | _, _, _ => sliceS P t x lo hi
  | _, _, _ => sliceS P t x lo hi
def repN {α : Type} : Nat → List α → List α
  | 0, _ => []
  | n + 1, l => l ++ repN n l
def buildRowS (sz : Nat) (T : Tm) : List (Nat × Operand) → List SC → Option (List SC)
  | [], l => some l
  | (i, x) :: r, l => match ev T x with
    | some v => match v.cells with
      | some (.ls y) => if len y = sz then match splice l (i * sz) y with
          | some l' => buildRowS sz T r l'
          | none => none
        else none
      | _ => none
    | none => none
def buildSliceS (P : Program) (t : TypeId) (n : Nat) (T : Tm) (ps : List (Nat × Operand)) (m : SMem) : XR :=
  match P.underlying t with
  | some (.slice e) => if n = 0 ∧ len ps = 0 then (match sizeS P e with
    | some _ => .ok [] (.s (.c (.f (.slice m.next (.l 0) (.l 0) (.n (.l 0)))))) (m.new (.ls []) e)
    | none => .no) else match zeroS P e, sizeS P e with
    | some (.ls z), some (sz + 1) => if len z = sz + 1 ∧ n * (sz + 1) ≤ 16777216 ∧ 0 < n then match buildRowS (sz + 1) T ps (repN n z) with
        | some r => .ok [] (.s (.c (.f (.slice m.next (.l 0) (.l n) (.n (.l n)))))) (m.new (.ls r) e)
        | none => .no
      else .no
    | _, _ => .no
  | _ => .no
def copyS (P : Program) (t : TypeId) (x y : SV) (m : SMem) : XR :=
  match P.underlying t, x, y with
  | some (.slice e), .s (.c (.f (.slice i o n _))), .s (.c (.f (.slice j p k _))) => match sizeS P e, getB m.bl i, getB m.bl j with
    | some sz, some b, some c => match b.wr, rangeS c.arr p ((k.min n).mul sz) with
      | true, some (q1, xs) => match putS b.arr o xs with
        | some (q2, r) => .ok (q1 ++ q2) (.s (.c (.f (.int .i64 (k.min n).int)))) ⟨m.next, putB m.bl i r, m.xs⟩
        | none => .no
      | _, _ => .no
    | _, _, _ => .no
  | _, _, _ => .no
def dropB (l : Tr SBlk) (i : Nat) : Tr SBlk := l.set i none
def fitNat (n m : SN) (bytes : Nat) : Option (List Prop) :=
  match n, m with
  | .l n, .l m => if (n + m) * bytes ≤ 140737488355328 ∧ n + m ≤ 140737488355328 then some [] else none
  | n, m => some [(n.den + m.den) * bytes ≤ 140737488355328 ∧ n.den + m.den ≤ 140737488355328]
def behindS (a : SA) (k : SN) (x : SA) : Option (List Prop × SA) :=
  match a, k, x with
  | .ls l, .l k, .ls y | .pre l, .l k, .ls y => match takeN l k with
    | some r => some ([], .pre (r ++ y))
    | none => none
  | .op cs, k, .ls y | .pop cs, k, .ls y => match plains y with
    | some vs => some ([k.den = cs.size], .pop (cs ++ vs.toArray))
    | none => none
  | .op cs, k, .op y | .pop cs, k, .op y => some ([k.den = cs.size], .pop (cs ++ y))
  | .ls [], .l 0, .op y => some ([], .pop y)
  | .ls l, .l k, .op y | .pre l, .l k, .op y => match plains l, Nat.beq k (len l) with
    | some vs, true => some ([], .pop (vs.toArray ++ y))
    | _, _ => none
  | _, _, _ => none
def behindC (cut : Bool) (a : SA) (k : SN) (x : SA) : Option (List Prop × SA) :=
  match cut with
  | false => behindS a k x
  | true => match a, x with
    | .op cs, .ls y | .pop cs, .ls y => match plains y with
      | some vs => some ([k.den ≤ cs.size], .pop (cs.extract 0 k.den ++ vs.toArray))
      | none => none
    | .op cs, .op y | .pop cs, .op y => some ([k.den ≤ cs.size], .pop (cs.extract 0 k.den ++ y))
    | .ls l, .ls y => behindS (.ls l) k (.ls y)
    | .pre l, .ls y => behindS (.pre l) k (.ls y)
    | _, _ => none
def whole (c : SK) (a : SA) (sz : Nat) : Bool :=
  match c, a with
  | .full s, _ => Nat.beq s sz
  | .cut s, _ => Nat.beq s sz
  | .n (.l c), .ls l => Nat.beq (len l) (c * sz) && Nat.ble c 140737488355328
  | _, _ => false
def preOf : SA → SA
  | .ls l => .pre l
  | .op cs => .pop cs
  | .patch _ _ _ => .pre []
  | a => a
def posN : SN → Option (List Prop)
  | .l n => if 0 < n then some [] else none
  | .o n => some [0 < n]
def appendS (P : Program) (base : Nat) (t : TypeId) (s x : SV) (m : SMem) : XR :=
  match P.underlying t with
  | some (.slice e) => match P.info? e, zeroS P e with
    | some i, some (.ls z) =>
      if len z = i.size ∧ 0 < i.size then
        let xs : Option (List Prop × SN × SA) := match x with
          | .s (.c (.f (.slice j p k _))) => match getB m.bl j with
            | some c => (rangeS c.arr p (k.mul i.size)).map fun r => (r.1, k, r.2)
            | none => none
          | _ => none
        match xs with
        | some (q1, k, ys) => match s with
          | .s (.c (.f (.lit (.slice none 0 0)))) => match posN k, fitNat (.l 0) k i.bytes with
            | some q2, some q3 => .ok (q1 ++ q2 ++ q3) (.s (.c (.f (.slice m.next (.l 0) k (.full i.size))))) (m.new (preOf ys) e)
            | _, _ => .no
          | .s (.c (.f (.slice id (.l 0) n c))) => match getB m.bl id, fitNat n k i.bytes with
            | some b, some q2 => match b.wr && Nat.ble base id && Nat.beq b.ty e && whole c b.arr i.size, behindC (isCut c) b.arr (n.mul i.size) ys with
              | true, some (q3, r) => .ok (q1 ++ q2 ++ q3) (.s (.c (.f (.slice m.next (.l 0) (n.add k) (.full i.size))))) ⟨m.next + 1, (dropB m.bl id).set m.next (some ⟨r, e, true⟩), m.xs⟩
              | _, _ => .no
            | _, _ => .no
          | _ => .no
        | none => .no
      else .no
    | _, _ => .no
  | _ => .no
def emptyS : SV → Bool
  | .s (.c (.f .e0)) => true
  | .s (.c (.f .e00)) => true
  | .s (.c (.f .e1)) => true
  | .s (.c (.f (.lit (.slice none 0 0)))) => true
  | .s (.c (.f (.slice _ _ (.l 0) _))) => true
  | _ => false
def isNilS : SV → Bool
  | .s (.c (.f (.lit (.slice none 0 0)))) => true
  | _ => false
def append0 (P : Program) (base : Nat) (t : TypeId) (s x : SV) (m : SMem) : XR :=
  match P.underlying t, isNilS s && emptyS x with
  | some (.slice e), true => match sizeS P e with
    | some _ => .ok [] (.s (.c (.f (.lit (.slice none 0 0))))) ⟨m.next + 1, m.bl, m.xs⟩
    | none => .no
  | some (.slice e), false => match s with
    | .s (.c (.f .e00)) => match emptyS x with
      | true => match sizeS P e with
        | some _ => .ok [] (.s (.c (.f .e00))) ⟨m.next + 1, m.bl, m.xs⟩
        | none => .no
      | false => appendS P base t (.s (.c (.f (.lit (.slice none 0 0))))) x m
    | .s (.c (.f (.slice id off n c))) => match emptyS x, sizeS P e with
      | true, some _ => .ok [] (.s (.c (.f (.slice id off n c)))) ⟨m.next + 1, m.bl, m.xs⟩
      | _, _ => appendS P base t (.s (.c (.f (.slice id off n c)))) x m
    | s => appendS P base t s x m
  | _, _ => .no
def intsOf : List SV → Option (List (IntKind × SI))
  | [] => some []
  | v :: l => match v, intsOf l with
    | .s (.c (.f (.int k n))), some r => some ((k, n) :: r)
    | _, _ => none
def sndOf : List (IntKind × SI) → List SI
  | [] => []
  | x :: l => x.2 :: sndOf l
def maxI (x y : Int) : Int := if y > x then y else x
def minI (x y : Int) : Int := if y < x then y else x
abbrev SI.two (f : Int → Int → Int) : SI → SI → SI
  | .l a, .l b => .l (f a b)
  | a, b => .o (f a.den b.den)
def foldS (f : Int → Int → Int) : SI → List SI → SI
  | x, [] => x
  | x, y :: l => foldS f (x.two f y) l

def evO (T : Tm) : Option Operand → Option (Option SV)
  | none => some none
  | some x => (ev T x).map some

def xop_a1 (P : Program) (T : Tm) (m : SMem) (c : Operand) (a : Operand) (b : Operand) : XR :=
  match ev T c with
    | some (.s (.c (.f (.bool (.l true))))) => XR.one m (ev T a)
    | some (.s (.c (.f (.bool (.l false))))) => XR.one m (ev T b)
    | _ => .no
def xop_a4 (P : Program) (T : Tm) (m : SMem) (t : TypeId) (ps : Array (Nat × Operand)) : XR :=
  match zeroS P t, wellS P t with
    | some (.ls l), true => match buildS P t T ps.toList l with
      | some r => .ok [] (.s (.agg (.ls r))) m
      | none => XR.of m (build1S P t T ps.toList l)
    | _, _ => .no
def xop_a5 (P : Program) (T : Tm) (m : SMem) (t : TypeId) (a : Operand) : XR :=
  match ev T a with
    | some x => loadS P t x m
    | none => .no
def xop_a6 (P : Program) (T : Tm) (m : SMem) (t : TypeId) (a : Operand) (x : Operand) : XR :=
  match ev T a, ev T x with
    | some a, some v => storeS P t a v m
    | _, _ => .no
def xop_a7 (P : Program) (T : Tm) (m : SMem) (x : Operand) : XR :=
  match ev T x with
    | some (.s (.c (.f (.ptr id off)))) => .ok [] (.s (.c (.f (.ptr id off)))) m
    | some (.s (.c (.f (.gp g off)))) => .ok [] (.s (.c (.f (.gp g off)))) m
    | some (.s (.c (.fn (.func g) a b))) => .ok [] (.s (.c (.fn (.func g) a b))) m
    | some (.s (.c (.yl i))) => .ok [] (.s (.c (.yl i))) m
    | _ => .no
def xop_a8 (P : Program) (T : Tm) (m : SMem) (op : BinOp) (t : TypeId) (x : Operand) (y : Operand) : XR :=
  match ev T x, ev T y with
    | some a, some b => XR.of m (binS P op t a b)
    | _, _ => .no
def xop_a9 (P : Program) (T : Tm) (m : SMem) (op : UnOp) (x : Operand) : XR :=
  match ev T x with
    | some a => XR.one m (unS op a)
    | none => .no
def xop_a10 (P : Program) (T : Tm) (m : SMem) (s : TypeId) (d : TypeId) (x : Operand) : XR :=
  match ev T x with
    | some a => XR.one m (convS P s d a)
    | none => .no
def xop_a11 (P : Program) (T : Tm) (m : SMem) (f : Fn) (a : Array Operand) (b : Array Operand) : XR :=
  match evs T a.toList, evs T b.toList with
    | some a, some b => match flats a, flats b with
      | some a, some b => .ok [] (.s (.c (.fn f a b))) m
      | _, _ => .no
    | _, _ => .no
def xop_a12 (P : Program) (T : Tm) (m : SMem) (s : TypeId) (x : Operand) (f : Nat) : XR :=
  match ev T x with
    | some a => XR.one m (fieldAtS P s a f)
    | none => .no
def xop_a13 (P : Program) (T : Tm) (m : SMem) (t : TypeId) (x : Operand) (f : Nat) : XR :=
  match ev T x with
    | some a => XR.of m (fieldS P t a f)
    | none => .no
def xop_a14 (P : Program) (T : Tm) (m : SMem) (t : TypeId) (x : Operand) (i : Operand) : XR :=
  match ev T x, ev T i with
    | some a, some b => XR.of m (indexAtS P t a b)
    | _, _ => .no
def xop_a15 (P : Program) (T : Tm) (m : SMem) (t : TypeId) (x : Operand) (i : Operand) : XR :=
  match ev T x, ev T i with
    | some a, some b => XR.of m (indexS P t a b)
    | _, _ => .no
def xop_a16 (P : Program) (T : Tm) (m : SMem) (x : Operand) (i : Nat) : XR :=
  match ev T x with
    | some (.tup l) => match nth l i with
      | some y => .ok [] (.s y) m
      | none => .no
    | _ => .no
def xop_a17 (P : Program) (T : Tm) (m : SMem) (args : Array Operand) (argTypes : Array TypeId) : XR :=
  match nth argTypes.toList 0, evs T args.toList with
    | some t, some [x] => lenX P t x m
    | _, _ => .no
def xop_a18 (P : Program) (T : Tm) (m : SMem) (t : TypeId) (x : Operand) (lo : Option Operand) (hi : Option Operand) : XR :=
  match ev T x, evO T lo, evO T hi with
    | some a, some l, some h => XR.of m (sliceL P t a l h)
    | _, _, _ => .no
def xop_a21 (P : Program) (T : Tm) (m : SMem) (args : Array Operand) : XR :=
  match evs T args.toList with
    | some l => match intsOf l with
      | some ((k, x) :: r) => .ok [] (.s (.c (.f (.int k (foldS maxI x (sndOf r)))))) m
      | _ => .no
    | none => .no
def xop_a22 (P : Program) (T : Tm) (m : SMem) (args : Array Operand) : XR :=
  match evs T args.toList with
    | some l => match intsOf l with
      | some ((k, x) :: r) => .ok [] (.s (.c (.f (.int k (foldS minI x (sndOf r)))))) m
      | _ => .no
    | none => .no
def xop (P : Program) (T : Tm) (m : SMem) (o : Op) : XR :=
  match o with
  | .move x | .assign x => XR.one m (ev T x)
  | .pick c a b => xop_a1 P T m c a b
  | .alloc t => newS t (zeroS P t) m
  | .box t x => newS t ((ev T x).bind SV.cells) m
  | .build t ps => xop_a4 P T m t ps
  | .load t a => xop_a5 P T m t a
  | .store t a x => xop_a6 P T m t a x
  | .nilCheck x => xop_a7 P T m x
  | .binOp op t x y _ => xop_a8 P T m op t x y
  | .unOp op _ x => xop_a9 P T m op x
  | .convert s d x => xop_a10 P T m s d x
  | .makeFunc f a b => xop_a11 P T m f a b
  | .fieldAddr s x f => xop_a12 P T m s x f
  | .field t x f => xop_a13 P T m t x f
  | .indexAddr t x i => xop_a14 P T m t x i
  | .index t x i => xop_a15 P T m t x i
  | .extract x i => xop_a16 P T m x i
  | .call { callee := .builtin .len, args, argTypes } => xop_a17 P T m args argTypes
  | .slice t x lo hi none => xop_a18 P T m t x lo hi
  | .buildSlice t n ps => buildSliceS P t n T ps.toList m
  | .call { callee := .builtin .max, args, .. } => xop_a21 P T m args
  | .call { callee := .builtin .min, args, .. } => xop_a22 P T m args
  | _ => .no

def xapp (P : Program) (base : Nat) (T : Tm) (m : SMem) (o : Op) : XR :=
  match o with
  | .call { callee := .builtin .append, args, argTypes } => match argTypes.toList, evs T args.toList with
    | [t, u], some [s, x] => if t = u then append0 P base t s x m else .no
    | _, _ => .no
  | _ => .no
def xappE (P : Program) (T : Tm) (o : Op) : Option SV :=
  match o with
  | .call { callee := .builtin .append, args, argTypes } => match argTypes.toList, evs T args.toList with
    | [t, u], some [.s (.c (.f (.slice id off n c))), x] => match P.underlying t with
      | some (.slice e) => match sizeS P e, emptyS x && Nat.beq t u with
        | some _, true => some (.s (.c (.f (.slice id off n c))))
        | _, _ => none
      | _ => none
    | _, _ => none
  | _ => none
def isApp : Op → Bool
  | .call { callee := .builtin .append, .. } => true
  | _ => false


/-! Operations on what else lies in memory, interfaces, structs that are compared. -/
abbrev SB.and : SB → SB → SB
  | .l true, b => b
  | .l false, _ => .l false
  | .o _, .l false => .l false
  | .o a, .l true => .o a
  | .o a, .o b => .o (a && b)
abbrev SI.beq : SI → SI → SB
  | .l a, .l b => .l (a == b)
  | a, b => .o (a.den == b.den)
def eqF (P : Program) (p : TypeId → S1 → S1 → Option SB) (a b : SA) : List Field → Option SB
  | [] => some (.l true)
  | f :: l => if f.name = "_" then eqF P p a b l else match partS P f.type a (.l f.offset), partS P f.type b (.l f.offset) with
    | some ([], u), some ([], v) => match p f.type u v, eqF P p a b l with
      | some x, some y => some (x.and y)
      | _, _ => none
    | _, _ => none
def eqA (P : Program) (p : TypeId → S1 → S1 → Option SB) (e : TypeId) (c : Nat) (a b : SA) : List Nat → Option SB
  | [] => some (.l true)
  | i :: l => match partS P e a (.l (i * c)), partS P e b (.l (i * c)) with
    | some ([], u), some ([], v) => match p e u v, eqA P p e c a b l with
      | some x, some y => some (x.and y)
      | _, _ => none
    | _, _ => none
def eqV (P : Program) : Nat → TypeId → S1 → S1 → Option SB
  | 0, _, _, _ => none
  | n + 1, t, x, y => match P.underlying t, x, y with
    | some (.struct fs), .agg a, .agg b => if P.stoodInHeld t then none else eqF P (eqV P n) a b fs.toList
    | some (.array k e), .agg a, .agg b => match P.info? e with
      | some i => eqA P (eqV P n) e i.size a b (List.range k)
      | none => none
    | some (.int _), .c (.f (.int k p)), .c (.f (.int k' q)) => if k = k' then some (p.beq q) else none
    | some .bool, .c (.f (.bool p)), .c (.f (.bool q)) => some (p.beq q)
    | _, _, _ => none
def xop2_a0 (P : Program) (T : Tm) (m : SMem) (op : BinOp) (t : TypeId) (x : Operand) (y : Operand) : XR :=
  match ev T x, ev T y with
    | some (.s (.agg a)), some (.s (.agg b)) => match P.eqGuardType P.depth t, eqV P 100 t (.agg a) (.agg b), op with
      | false, some s, .eql => .ok [] (.s (.c (.f (.bool s)))) m
      | false, some s, .neq => .ok [] (.s (.c (.f (.bool s.not)))) m
      | _, _, _ => .no
    | _, _ => .no
def xop2 (P : Program) (T : Tm) (m : SMem) (o : Op) : XR :=
  match o with
  | .binOp op t x y _ => xop2_a0 P T m op t x y
  | _ => .no
/-! Strings. -/
def strS : SV → Option (Bool × ByteArray)
  | .s (.c (.f (.lit (.string s)))) => some (true, s)
  | .s (.c (.f (.opq (.string s)))) => some (false, s)
  | _ => none
def byteAt (s : ByteArray) (i : Nat) : Int := match s[i]? with | some b => b.toNat | none => 0
def mkSN : Bool → Nat → SN
  | true, n => .l n
  | false, n => .o n
def isStrT (P : Program) (t : TypeId) : Bool := match P.underlying t with | some .string => true | _ => false
def strIndex (P : Program) (t : TypeId) (x i : SV) : Option (List Prop × SV) :=
  match isStrT P t, strS x, i with
  | true, some (l, s), .s (.c (.f (.int _ i))) => match within i (mkSN l s.size) with
    | some q => match l, i with
      | true, .l i => some (q, .s (.c (.f (.int .u8 (.l (byteAt s i.toNat))))))
      | _, i => some (q, .s (.c (.f (.int .u8 (.o (byteAt s i.den.toNat))))))
    | none => none
  | _, _, _ => none
def isZero (T : Tm) (x : Option Operand) : Bool := match evO T x with
  | some none => true
  | some (some (.s (.c (.f (.int _ (.l 0)))))) => true
  | _ => false
def slice00 (P : Program) (t : TypeId) (x : SV) : Option SV :=
  match P.underlying t with
  | some (.slice e) => match sizeS P e, x with
    | some _, .s (.c (.f (.slice _ _ _ _))) => some (.s (.c (.f .e00)))
    | some _, .s (.c (.f .e0)) => some (.s (.c (.f .e00)))
    | some _, .s (.c (.f .e00)) => some (.s (.c (.f .e00)))
    | some _, .s (.c (.f (.lit (.slice none 0 0)))) => some (.s (.c (.f (.lit (.slice none 0 0)))))
    | _, _ => none
  | _ => none
def xop3_z (P : Program) (T : Tm) (m : SMem) (t : TypeId) (x : Operand) (lo : Option Operand) (hi mx : Operand) : XR :=
  match isZero T lo && isZero T (some hi) && isZero T (some mx), ev T x with
  | true, some a => XR.one m (slice00 P t a)
  | _, _ => .no
def xop3_a1 (P : Program) (T : Tm) (m : SMem) (t : TypeId) (x : Operand) (i : Operand) : XR :=
  match ev T x, ev T i with
    | some a, some b => XR.of m (strIndex P t a b)
    | _, _ => .no
def xop3 (P : Program) (T : Tm) (m : SMem) (o : Op) : XR :=
  match o with
  | .index t x i => xop3_a1 P T m t x i
  | .slice t x lo (some hi) (some mx) => xop3_z P T m t x lo hi mx
  | _ => .no
def xopW (P : Program) (T : Tm) (m : SMem) (o : Op) : XR :=
  match xop P T m o with
  | .no => match xop2 P T m o with
    | .no => xop3 P T m o
    | r => r
  | r => r

def boI (b : Bool) : Int := cond b 1 0
structure SPan where
  v : SC
  got : Bool
inductive SIt where
  | it (x : Item)
  | inR (id : Nat)
  | endR (id : Nat)
inductive SDf where
  | col (id : Nat)
  | fn (f : FuncId) (args : List SV) (cap : List SF)
inductive SMd where
  | run
  | ret
  | pan (l : List SPan)
structure SFr where
  fn : FuncId
  tm : Tm
  todo : List SIt
  dfs : List SDf
  md : SMd
  kind : CallKind
  rnd : Option Nat
inductive Tree where
  | ret (v : SV) (m : SMem)
  | br (b : Bool) (t e : Tree)
  | need (q : List Prop) (t : Tree)
  | stop (fs : List SFr) (m : SMem)
  | fail (why : Nat)
def Tree.graft : Tree → (SV → SMem → Tree) → Tree
  | .ret v m, k => k v m
  | .br b t e, k => .br b (t.graft k) (e.graft k)
  | .need q t, k => .need q (t.graft k)
  | .stop _ _, _ => .fail 1
  | .fail n, _ => .fail n
def needs : List Prop → Tree → Tree
  | [], t => t
  | q :: r, t => .need (q :: r) t
def ite' : SB → Tree → Tree → Tree
  | .l true, t, _ => t
  | .l false, _, e => e
  | .o b, t, e => .br b t e

def dstS (T : Tm) (d : Option Tmp) (v : SV) : Tm :=
  match d with
  | some d => T.set d (some v)
  | none => T
def wantS (T : Tm) (ops : List Oper) (o : Oper) : Option SB :=
  match o.guard with
  | none => some (.l true)
  | some (j, want) => match nth ops j with
    | some p => match p.dst with
      | some d => match T.get d with
        | some (.s (.c (.f (.bool b)))) => some (b.beq (.l want))
        | some (.tup _) => some (.l false)
        | _ => none
      | none => some (.l false)
    | none => some (.l false)
def knowS (T : Tm) (d : Nat) (b : Bool) : Tm :=
  match T.get d with
  | some (.s (.c (.f (.bool (.o _))))) => T.set d (some (.s (.c (.f (.bool (.l b))))))
  | _ => T
def knowG (T : Tm) (ops : List Oper) (o : Oper) (yes : Bool) : Tm :=
  match o.guard with
  | none => T
  | some (j, want) => match nth ops j with
    | some p => match p.dst with
      | some d => knowS T d (want == yes)
      | none => T
    | none => T
def knowC (T : Tm) (c : Operand) (b : Bool) : Tm :=
  match c with
  | .tmp d => knowS T d b
  | _ => T
def callS (T : Tm) (o : Op) : Option (FuncId × List SV) :=
  match o with
  | .call { callee := .value f, args, .. } => match ev T f, evs T args.toList with
    | some (.s (.c (.fn (.func g) a b))), some l => some (g, a.map (fun x => .s (.c (.f x))) ++ l ++ b.map (fun x => .s (.c (.f x))))
    | _, _ => none
  | _ => none
def resS (P : Program) (T : Tm) (m : SMem) : List ResultVar → Option (List Prop × List S1)
  | [] => some ([], [])
  | .tmp t :: r => match T.get t, resS P T m r with
    | some (.s x), some (q, l) => some (q, x :: l)
    | _, _ => none
  | .cell a t :: r => match T.get a, resS P T m r with
    | some x, some (q, l) => match loadS P t x m with
      | .ok q1 (.s y) _ => some (q1 ++ q, y :: l)
      | _ => none
    | _, _ => none
def oneOf : List S1 → SV
  | [x] => .s x
  | l => .tup l

structure Env where
  P : Program
  fn : FuncId → Option Func
  con : FuncId → List SV → SMem → Option Tree
  halt : Nat → FuncId → SIt → Bool

def isCall : Op → Bool
  | .call { callee := .value _, .. } => true
  | _ => false
def fillT : Nat → List SV → Tr (Option SV) → Tr (Option SV)
  | _, [], t => t
  | i, x :: l, t => fillT (i + 1) l (t.set i (some (some x)))
def padN (n : Nat) (l : List SV) : Tm := ⟨Nat.max n (len l), some (.tup []), fillT 0 l .nil⟩

def callFr (g : FuncId) (n : Nat) (l : List SV) (c : Code) : SFr := ⟨g, padN n l, [.it (.code c)], [], .run, .normal, none⟩
/-! A region that draws its order. -/
def allB {α : Type} (p : α → Bool) (l : List α) : Bool := List.rec (motive := fun _ => Bool) true (fun a _ ih => Bool.rec (motive := fun _ => Bool) false ih (p a)) l
theorem allB_nil {α : Type} (p : α → Bool) : allB p [] = true := rfl
theorem allB_cons {α : Type} (p : α → Bool) (a : α) (l : List α) : allB p (a :: l) = (p a && allB p l) := by
  show Bool.rec (motive := fun _ => Bool) false (allB p l) (p a) = _
  cases p a <;> rfl
def memB (l : List Nat) (n : Nat) : Bool := List.rec (motive := fun _ => Bool) false (fun a _ ih => Bool.rec (motive := fun _ => Bool) ih true (Nat.beq a n)) l
theorem memB_nil (n : Nat) : memB [] n = false := rfl
theorem memB_cons (a : Nat) (l : List Nat) (n : Nat) : memB (a :: l) n = (Nat.beq a n || memB l n) := by
  show Bool.rec (motive := fun _ => Bool) (memB l n) true (Nat.beq a n) = _
  cases Nat.beq a n <;> rfl
def SF.lt (n : Nat) : SF → Bool
  | .ptr id _ | .slice id _ _ _ | .mp id => Nat.blt id n
  | _ => true
def SC.lt (n : Nat) : SC → Bool
  | .f x => x.lt n
  | .fn _ a b => allB (SF.lt n) a && allB (SF.lt n) b
  | .yl id => Nat.blt id n
  | .ifc _ _ l => allB (SF.lt n) l
def SA.lt (n : Nat) : SA → Bool
  | .ls l | .pre l => allB (SC.lt n) l
  | .op _ | .pop _ | .raw _ => true
  | .patch _ _ x => x.lt n
def S1.lt (n : Nat) : S1 → Bool
  | .c x => x.lt n
  | .agg a => a.lt n
def SV.lt (n : Nat) : SV → Bool
  | .s x => x.lt n
  | .tup l => allB (S1.lt n) l
def onlyR (T : Tm) (n : Nat) : List Nat → Tr (Option SV)
  | [] => .nil
  | i :: l => match T.get i with
    | some v => match v.lt n with
      | true => (onlyR T n l).set i (some (some v))
      | false => onlyR T n l
    | none => onlyR T n l
def onlyT (keep : List Nat) (n : Nat) (T : Tm) : Tm := ⟨T.n, none, onlyR T n keep⟩
def onlyB (n : Nat) (wr : Bool) (bl : Tr SBlk) : List Nat → Tr SBlk
  | [] => .nil
  | i :: l => match bl.get i with
    | some b => match Nat.blt i n && b.arr.lt n with
      | true => (onlyB n wr bl l).set i (some ⟨b.arr, b.ty, b.wr && wr⟩)
      | false => onlyB n wr bl l
    | none => onlyB n wr bl l
def keepB (a b : Tr SBlk) (foot : List Nat) : Bool := allB (fun i => match a.get i with | some _ => (b.get i).isSome | none => true) foot
def sameB (a b : Tr SBlk) (foot : List Nat) : Bool :=
  allB (fun i => match b.get i with | some x => (match a.get i with | some y => y.wr == x.wr | none => false) | none => true) foot
def collect (bl : Tr SBlk) : List Nat → List (Nat × SBlk)
  | [] => []
  | i :: l => match bl.get i with
    | some b => (i, b) :: collect bl l
    | none => collect bl l
def upFrom : Nat → Nat → List Nat
  | 0, _ => []
  | k + 1, n => n :: upFrom k (n + 1)
def getL : List (Nat × SBlk) → Nat → Option SBlk
  | [], _ => none
  | (k, b) :: l, i => if Nat.beq k i then some b else getL l i
def insB : List (Nat × SBlk) → Tr SBlk → Tr SBlk
  | [], t => t
  | (i, b) :: l, t => (insB l t).set i (some b)
def SF.ids : SF → List Nat
  | .ptr id _ | .slice id _ _ _ | .mp id => [id]
  | _ => []
def catN {α : Type} (f : α → List Nat) (l : List α) : List Nat := List.rec (motive := fun _ => List Nat) [] (fun a _ ih => app (f a) ih) l
theorem catN_nil {α : Type} (f : α → List Nat) : catN f [] = [] := rfl
theorem catN_cons {α : Type} (f : α → List Nat) (a : α) (l : List α) : catN f (a :: l) = f a ++ catN f l := app_eq _ _
def SC.ids : SC → List Nat
  | .f x => x.ids
  | .fn _ a b => catN SF.ids a ++ catN SF.ids b
  | .yl id => [id]
  | .ifc _ _ l => catN SF.ids l
def SA.ids : SA → List Nat
  | .ls l | .pre l => catN SC.ids l
  | .op _ | .pop _ | .raw _ => []
  | .patch _ _ x => x.ids
def S1.ids : S1 → List Nat
  | .c x => x.ids
  | .agg a => a.ids
def SV.ids : SV → List Nat
  | .s x => x.ids
  | .tup l => catN S1.ids l
def newN (seen l : List Nat) : List Nat := List.rec (motive := fun _ => List Nat) [] (fun i _ ih => match memB seen i || memB ih i with
  | true => ih
  | false => i :: ih) l
def reachF (bl : Tr SBlk) : Nat → List Nat → List Nat → List Nat
  | 0, seen, _ => seen
  | n + 1, seen, l => match newN seen (catN (fun i => match getB bl i with | some b => b.arr.ids | none => []) l) with
    | [] => seen
    | i :: new => reachF bl n (seen ++ i :: new) (i :: new)
def reach (bl : Tr SBlk) (n : Nat) (l : List Nat) : List Nat := reachF bl n l l
def evIds (T : Tm) (x : Operand) : List Nat := match ev T x with | some v => v.ids | none => []
def footOp (T : Tm) : Op → List Nat
  | .load _ a => evIds T a
  | .store _ a _ => evIds T a
  | .call { callee := .builtin .copy, args, .. } => catN (evIds T) args.toList
  | .call { callee := .builtin .clear, args, .. } => catN (evIds T) args.toList
  | .call { callee := .builtin .len, args, .. } => catN (evIds T) args.toList
  | .lookup _ a _ _ => evIds T a
  | .convert _ _ a => evIds T a
  | _ => []
def writesOp : Op → Bool
  | .store .. => true
  | .call { callee := .builtin .copy, .. } => true
  | .call { callee := .builtin .clear, .. } => true
  | _ => false
structure DRec where
  dst : Option Tmp
  v : SV
  looks : List Nat
  foot : List Nat
  bl : List (Nat × SBlk)
  xs : List XB
  del : List Nat
def XO.lt (n : Nat) : XO → Bool
  | .map es _ | .mapR es _ => allB (fun x => x.1.lt n && x.2.1.lt n) es
  | .defr => true
  | .mapI .. => true
  | .mapE .. => true
  | .iter .. => false
  | .loop .. => false
def onlyX (xs : List XB) (n : Nat) : List Nat → List XB
  | [] => []
  | i :: l => match getX xs i with
    | some (.map es c) => if Nat.blt i n && (XO.map es c).lt n then ⟨i, .mapR es c⟩ :: onlyX xs n l else onlyX xs n l
    | some (.mapR es c) => if Nat.blt i n && (XO.map es c).lt n then ⟨i, .mapR es c⟩ :: onlyX xs n l else onlyX xs n l
    | some (.mapI _ kk vk es) => if Nat.blt i n then ⟨i, .mapI false kk vk es⟩ :: onlyX xs n l else onlyX xs n l
    | _ => onlyX xs n l
def newsX (n : Nat) : List XB → List XB
  | [] => []
  | b :: l => if Nat.ble n b.id then b :: newsX n l else newsX n l
def Tree.leaf : Tree → Option (List Prop × SV × SMem)
  | .ret v m => some ([], v, m)
  | .need q t => match t.leaf with
    | some (q', v, m) => some (q ++ q', v, m)
    | none => none
  | _ => none
def noneS : SV → Bool
  | .s (.c (.f (.lit (.slice none 0 0)))) => true
  | .s (.c (.f .e00)) => true
  | _ => false
def splitA (T : Tm) (o : Op) : Option (Nat × Tm) :=
  match o with
  | .call { callee := .builtin .append, args, .. } => match args.toList with
    | [a, .tmp j] => match ev T a, T.get j with
      | some s, some (.s (.c (.f (.slice _ _ (.o n) _)))) => match noneS s with
        | true => some (n, T.set j (some (.s (.c (.f .e0)))))
        | false => none
      | _, _ => none
    | _ => none
  | _ => none
def splitT (T : Tm) (o : Op) (k : Tm → Tree) : Tree :=
  match splitA T o with
  | some (n, T0) => .br (decide (n = 0)) (k T0) (k T)
  | none => k T
def appFoot (T : Tm) : Op → List Nat
  | .call { callee := .builtin .append, args, .. } => catN (evIds T) args.toList
  | _ => []
def appDst (T : Tm) : Op → List Nat
  | .call { callee := .builtin .append, args, .. } => match args.toList with
    | x :: _ => evIds T x
    | _ => []
  | _ => []
def appLoc (n : Nat) (bl : Tr SBlk) (foot : List Nat) : List Nat → Tr SBlk
  | i :: _ => match bl.get i with
    | some b => match Nat.blt i n && b.arr.lt n && memB foot i with
      | true => (onlyB n false bl foot).set i (some ⟨b.arr, b.ty, b.wr⟩)
      | false => onlyB n false bl foot
    | none => onlyB n false bl foot
  | [] => onlyB n false bl foot
def delB : List Nat → Tr SBlk → Tr SBlk
  | [], t => t
  | i :: l, t => (delB l t).set i none
def applyG (T : Tm) : List (Nat × Bool) → Tm
  | [] => T
  | (s, v) :: l => applyG (knowS T s v) l
def learnG (ops : List Oper) (o : Oper) (yes : Bool) (G : List (Nat × Bool)) : List (Nat × Bool) :=
  match o.guard with
  | none => G
  | some (j, want) => match nth ops j with
    | some p => match p.dst with
      | some d => (d, want == yes) :: G
      | none => G
    | none => G
def forgetG (d : Option Tmp) : List (Nat × Bool) → List (Nat × Bool)
  | [] => []
  | p :: l => match d with
    | none => p :: l
    | some d => match Nat.beq p.1 d with
      | true => forgetG (some d) l
      | false => p :: forgetG (some d) l
def writesF (E : Env) (g : FuncId) : Bool := !E.halt 1000000 g (.inR 0)
def eqI : Int → Int → Bool
  | .ofNat a, .ofNat b => Nat.beq a b
  | .negSucc a, .negSucc b => Nat.beq a b
  | _, _ => false
def kN : IntKind → Nat
  | .i8 => 0 | .i16 => 1 | .i32 => 2 | .i64 => 3 | .u8 => 4 | .u16 => 5 | .u32 => 6 | .u64 => 7
def eqVl : Value → Value → Bool
  | .pointer none, .pointer none => true
  | .slice none 0 0, .slice none 0 0 => true
  | .nilFunc, .nilFunc => true
  | .nilIface, .nilIface => true
  | .map none, .map none => true
  | _, _ => false
def eqBo : Bool → Bool → Bool
  | true, true => true
  | false, false => true
  | _, _ => false
def eqSN : SN → SN → Bool
  | .l a, .l b => Nat.beq a b
  | _, _ => false
def eqSK : SK → SK → Bool
  | .n a, .n b => eqSN a b
  | .full a, .full b => Nat.beq a b
  | .cut a, .cut b => Nat.beq a b
  | .any, .any => true
  | _, _ => false
def eqSF : SF → SF → Bool
  | .int k (.l a), .int k' (.l b) => Nat.beq (kN k) (kN k') && eqI a b
  | .bool (.l a), .bool (.l b) => eqBo a b
  | .ptr i a, .ptr j b => Nat.beq i j && eqSN a b
  | .slice i a n c, .slice j b k d => Nat.beq i j && (eqSN a b && (eqSN n k && eqSK c d))
  | .lit v, .lit w => eqVl v w
  | .gp g a, .gp h b => Nat.beq g h && eqSN a b
  | .e0, .e0 => true
  | .e00, .e00 => true
  | .e1, .e1 => true
  | _, _ => false
def eqLs {α : Type} (f : α → α → Bool) : List α → List α → Bool
  | [], [] => true
  | a :: l, b :: m => match f a b with
    | true => eqLs f l m
    | false => false
  | _, _ => false
def eqSC : SC → SC → Bool
  | .f a, .f b => eqSF a b
  | .fn (.func g) a b, .fn (.func h) c d => Nat.beq g h && (eqLs eqSF a c && eqLs eqSF b d)
  | .ifc t x l, .ifc u y k => Nat.beq t u && (eqBo x y && eqLs eqSF l k)
  | _, _ => false
def eqSA : SA → SA → Bool
  | .ls l, .ls k => eqLs eqSC l k
  | .pre l, .pre k => eqLs eqSC l k
  | _, _ => false
def eqS1 : S1 → S1 → Bool
  | .c a, .c b => eqSC a b
  | .agg a, .agg b => eqSA a b
  | _, _ => false
def eqSV : SV → SV → Bool
  | .s a, .s b => eqS1 a b
  | .tup l, .tup k => eqLs eqS1 l k
  | _, _ => false
def eqBk (a b : SBlk) : Bool := eqSA a.arr b.arr && (Nat.beq a.ty b.ty && eqBo a.wr b.wr)
def detF : SF → Bool
  | .int _ _ => true
  | .bool _ => true
  | .ptr _ _ => true
  | .slice _ _ _ (.n _) => true
  | .slice _ _ _ (.full s) => Nat.blt 0 s
  | .slice _ _ _ (.cut s) => Nat.blt 0 s
  | .lit _ => true
  | .opq _ => true
  | _ => false
def detC : SC → Bool
  | .f x => detF x
  | .fn _ a b => allB detF a && allB detF b
  | _ => false
def detA : SA → Bool
  | .ls l => allB detC l
  | _ => false
def left1 (a b : Tr SBlk) (i : Nat) : Bool := match getB a i with
  | some x => match getB b i with
    | some y => match eqBk x y with
      | true => detA x.arr
      | false => false
    | none => false
  | none => false
def chgs (a b : Tr SBlk) (l : List Nat) : List Nat := List.rec (motive := fun _ => List Nat) [] (fun i _ ih => match left1 a b i with
  | true => ih
  | false => i :: ih) l
def dopT (E : Env) (r : Nat → List SFr → SMem → Tree) (tag b0 : Nat) (ops : Array Oper) (o : Oper) (T : Tm) (m : SMem) (G : List (Nat × Bool)) (k : DRec → Nat → List (Nat × Bool) → Tree) : Tree :=
  let looks := o.looksAt ops
  let T' := applyG (onlyT looks m.next T) G
  let Gt := forgetG o.dst (learnG ops.toList o true G)
  match wantS T' ops.toList o with
  | none => .fail (tag + 7)
  | some b => ite' b
      (match isCall o.op with
        | true => match callS T' o.op with
          | none => .fail (tag + 8)
          | some (g, l) =>
            let foot := reach m.bl 8 (catN SV.ids l)
            let loc := onlyB m.next true m.bl foot
            match E.con g l ⟨m.next, loc, []⟩ with
            | some t => t.graft fun v m1 => if keepB loc m1.bl foot && sameB loc m1.bl foot then k ⟨o.dst, v, looks, foot, collect m1.bl (chgs loc m1.bl foot ++ upFrom (m1.next - m.next) m.next), newsX m.next m1.xs, []⟩ m1.next Gt else .fail (tag + 5)
            | none => match E.fn g with
              | none => .fail 10
              | some fn => match fn.body with
                | none => .fail 9
                | some c =>
                  let w := writesF E g
                  let loc := onlyB m.next w m.bl foot
                  (r m.next [callFr g fn.ntmps l c] ⟨m.next, loc, []⟩).graft fun v m1 =>
                  if keepB loc m1.bl foot && sameB loc m1.bl foot then k ⟨o.dst, v, looks, foot, collect m1.bl ((if w then chgs loc m1.bl foot else []) ++ upFrom (m1.next - m.next) m.next), newsX m.next m1.xs, []⟩ m1.next Gt else .fail (tag + 5)
        | false => match isApp o.op with
          | true =>
          let foot := appFoot T' o.op
          let loc := appLoc m.next m.bl foot (appDst T' o.op)
          splitT T' o.op fun T0 => (match xappE E.P T0 o.op with
          | some v => k ⟨o.dst, v, looks, [], [], [], []⟩ m.next Gt
          | none => match xapp E.P b0 T0 ⟨m.next, loc, []⟩ o.op with
          | .ok q v m1 => if allB (fun i => Nat.blt i m.next && (getB m1.bl i).isNone) (appDst T' o.op) then needs q (k ⟨o.dst, v, looks, foot, collect m1.bl (upFrom (m1.next - m.next) m.next), [], appDst T' o.op⟩ m1.next Gt) else .fail (tag + 6)
          | .no => .fail (tag + 2))
          | false =>
          let foot := footOp T' o.op
          let loc := onlyB m.next (writesOp o.op) m.bl foot
          match xopW E.P T' ⟨m.next, loc, onlyX m.xs m.next foot⟩ o.op with
          | .ok q v m1 => if keepB loc m1.bl foot && sameB loc m1.bl foot then needs q (k ⟨o.dst, v, looks, foot, collect m1.bl ((if writesOp o.op then foot else []) ++ upFrom (m1.next - m.next) m.next), newsX m.next m1.xs, []⟩ m1.next Gt) else .fail (tag + 6)
          | .no => .fail (tag + 3))
      (k ⟨o.dst, .tup [], looks, [], [], [], []⟩ m.next (forgetG o.dst (learnG ops.toList o false G)))
def drawG (E : Env) (r : Nat → List SFr → SMem → Tree) (tag b0 : Nat) (ops : Array Oper) : List Oper → Tm → SMem → List (Nat × Bool) → (List DRec → Tm → SMem → Tree) → Tree
  | [], T, m, _, k => k [] T m
  | o :: l, T, m, G, k => dopT E r tag b0 ops o T m G fun d n G' => match Nat.ble m.next n with
    | true => drawG E r tag b0 ops l (dstS T d.dst d.v) ⟨n, insB d.bl (delB d.del m.bl), d.xs ++ m.xs⟩ G' fun ds T' m' => k (d :: ds) T' m'
    | false => .fail (tag + 4)
def meet (a b : List Nat) : Bool := !allB (fun x => !memB b x) a
def optL : Option Nat → List Nat
  | some n => [n]
  | none => []
def DRec.dom (d : DRec) : List Nat := d.bl.map (·.1) ++ d.xs.map (·.id) ++ d.del
def clash (x y : DRec) : Bool :=
  meet (optL x.dst) (y.looks ++ optL y.dst) || meet (optL y.dst) x.looks || meet x.dom (y.foot ++ y.dom) || meet y.dom x.foot
def predsS (o : Oper) : List Nat := (o.after.toList.filter (Region.binds .any)).map (·.on)
def ancS (tab : List (List Nat)) (n : Nat) (o : Oper) : List Nat :=
  predsS o ++ catN (fun p => match nth tab (n - 1 - p) with | some l => l | none => []) (predsS o)
def orderS (done : List DRec) (tab : List (List Nat)) (n : Nat) : List Oper → List DRec → Bool
  | [], [] => true
  | o :: l, d :: ds =>
    let an := ancS tab n o
    allB (fun e => !Region.binds .any e || Nat.blt e.on n) o.after.toList && ordered an done n d && orderS (d :: done) (an :: tab) (n + 1) l ds
  | _, _ => false
where
  ordered (an : List Nat) : List DRec → Nat → DRec → Bool
    | [], _, _ => true
    | x :: l, n, d => (!clash x d || memB an (n - 1)) && ordered an l (n - 1) d
def drawT (E : Env) (r : Nat → List SFr → SMem → Tree) (tag base : Nat) (ops : Array Oper) (T : Tm) (m : SMem) (next : Tm → SMem → Tree) : Tree :=
  drawG E r tag base ops ops.toList T m [] fun ds T' m' => match orderS [] [] 0 ops.toList ds with
    | true => next T' m'
    | false => .fail (tag + 4)
def noDefer (l : List Oper) : Bool := allB (fun o => match o.op with | .defer _ => false | _ => true) l
/-! The steps. -/
def SFr.finish (f : SFr) (v : SV) : Option SFr :=
  match f.todo with
  | .it (.inRegion ops (i :: rest)) :: k => match nth ops.toList i with
    | some o => some { f with tm := dstS f.tm o.dst v, todo := .it (.inRegion ops rest) :: k }
    | none => none
  | .inR l :: k => some { f with todo := .endR l :: k }
  | _ => none
def goF (r : List SFr → SMem → Tree) (f : Option SFr) (cs : List SFr) (m : SMem) : Tree :=
  match f with
  | some f => r (f :: cs) m
  | none => .fail 20
def doRet (r : List SFr → SMem → Tree) (kind : CallKind) (cs : List SFr) (v : SV) (m : SMem) : Tree :=
  match cs, kind with
  | c :: cs, .normal => goF r (c.finish v) cs m
  | [], .normal => .ret v m
  | _, _ => .fail 21
def leaveT (r : List SFr → SMem → Tree) (f : SFr) (cs : List SFr) (m : SMem) (jump : Option Code) (ends : Bool) : Tree :=
  match f.rnd with
  | none => match ends with
    | true => r ({ f with md := .ret } :: cs) m
    | false => .fail 5
  | some l => match getX m.xs l, cs with
    | some (.loop _ _ fn tm ps as bd dl), c :: cs => match f.kind with
      | .normal => goF r (c.finish (.s (.c (.f (.bool (.l jump.isNone)))))) cs ⟨m.next, m.bl, putX m.xs l (.loop (if jump.isNone then .ready else .done) jump fn tm ps as bd dl)⟩
      | _ => .fail 22
    | _, _ => .fail 23
def unwindT (E : Env) (r : List SFr → SMem → Tree) (f : SFr) (cs : List SFr) (m : SMem) : Tree :=
  match f.dfs with
  | .col id :: ds => match getX m.xs id with
    | some .defr => r ({ f with dfs := ds } :: cs) ⟨m.next, m.bl, dropX m.xs id⟩
    | _ => .fail 24
  | .fn _ _ _ :: _ => .fail 25
  | [] => match E.fn f.fn with
    | none => .fail 3
    | some g => match f.md with
      | .run => .fail 26
      | .pan _ => .fail 27
      | .ret => match f.rnd, resS E.P f.tm m g.results.toList with
        | none, some (q, l) => needs q (doRet r f.kind cs (oneOf l) m)
        | _, _ => .fail 2
def enterT (E : Env) (r : List SFr → SMem → Tree) (g : FuncId) (l : List SV) (c : SFr) (cs : List SFr) (m : SMem) : Tree :=
  match E.con g l m with
  | some t => t.graft fun v m => goF r (c.finish v) cs m
  | none => match E.fn g with
    | some fn => match fn.body with
      | some b => r (callFr g fn.ntmps l b :: c :: cs) m
      | none => .fail 9
    | none => .fail 10
def setPs : Tm → List Tmp → List SV → Option Tm
  | T, [], [] => some T
  | T, p :: ps, v :: vs => setPs (T.set p (some v)) ps vs
  | _, _, _ => none
def roundT (r : List SFr → SMem → Tree) (id : Nat) (l : List SV) (c : SFr) (cs : List SFr) (m : SMem) : Tree :=
  match getX m.xs id with
  | some (.loop _ _ fn tm ps as bd _) => match setPs tm ps.toList l with
    | some T => r (⟨fn, T, [.it (.code as), .it .beginRound, .it (.code bd)], [], .run, .normal, some id⟩ :: c :: cs) m
    | none => .fail 28
  | _ => .fail 29
def rangeT (E : Env) (r : List SFr → SMem → Tree) (f : SFr) (k : List SIt) (cs : List SFr) (m : SMem) (g : Operand) (ps : Array Tmp) (as bd : Code) : Tree :=
  match ev f.tm g with
  | some (.s (.c (.fn (.func h) a b))) => match f.rnd with
    | none => enterT E r h (a.map (fun x => .s (.c (.f x))) ++ [.s (.c (.yl (m.next + 1)))] ++ b.map fun x => .s (.c (.f x))) { f with todo := .inR (m.next + 1) :: k, dfs := .col m.next :: f.dfs } cs
        ((m.newX .defr).newX (.loop .ready none f.fn f.tm ps as bd m.next))
    | some l0 => match getX m.xs l0 with
      | some (.loop _ _ _ _ _ _ _ dl) => enterT E r h (a.map (fun x => .s (.c (.f x))) ++ [.s (.c (.yl m.next))] ++ b.map fun x => .s (.c (.f x))) { f with todo := .inR m.next :: k } cs
          (m.newX (.loop .ready none f.fn f.tm ps as bd dl))
      | _ => .fail 30
  | _ => .fail 31
def pendS (pend : Option Code) (k : List SIt) : List SIt :=
  match pend with
  | some c => .it (.code c) :: k
  | none => k
def endT (r : List SFr → SMem → Tree) (f : SFr) (l : Nat) (k : List SIt) (cs : List SFr) (m : SMem) : Tree :=
  match getX m.xs l with
  | some (.loop st pend _ _ _ _ _ _) => match st with
    | .busy => .fail 32
    | _ => r ({ f with todo := pendS pend k } :: cs) ⟨m.next, m.bl, dropX m.xs l⟩
  | _ => .fail 33
def beginT (r : List SFr → SMem → Tree) (f : SFr) (k : List SIt) (cs : List SFr) (m : SMem) : Tree :=
  match f.rnd with
  | some l => match getX m.xs l with
    | some (.loop .ready pend fn tm ps as bd dl) => r ({ f with todo := k } :: cs) ⟨m.next, m.bl, putX m.xs l (.loop .busy pend fn tm ps as bd dl)⟩
    | _ => .fail 34
  | none => .fail 35
def exitS (id : Nat) : List SIt → Option (List SIt)
  | .it (.inBlock id') :: k => if id' == id then some k else exitS id k
  | _ :: k => exitS id k
  | [] => none


def callY (T : Tm) (o : Op) : Option (Nat × List SV) :=
  match o with
  | .call { callee := .value f, args, .. } => match ev T f, evs T args.toList with
    | some (.s (.c (.yl id))), some l => some (id, l)
    | _, _ => none
  | _ => none
def opT (E : Env) (r : List SFr → SMem → Tree) (base tag : Nat) (f : SFr) (cs : List SFr) (o : Op) (m : SMem) : Tree :=
  match isCall o with
    | true => match callY f.tm o with
      | some (id, l) => roundT r id l f cs m
      | none => match callS f.tm o with
        | some (g, l) => enterT E r g l f cs m
        | none => .fail (tag + 8)
    | false => match isApp o with
      | true => splitT f.tm o fun T0 => match xapp E.P base T0 m o with
        | .ok q v m' => needs q (goF r (SFr.finish { f with tm := T0 } v) cs m')
        | .no => .fail (tag + 1)
      | false => match xopW E.P f.tm m o with
        | .ok q v m' => needs q (goF r (f.finish v) cs m')
        | .no => .fail (tag + 2)
def itemT_a5 (E : Env) (r : Nat → List SFr → SMem → Tree) (base : Nat) (f : SFr) (k : List SIt) (cs : List SFr) (m : SMem) (a : Code) (b : Code) : Tree :=
  r base ({ f with todo := .it (.code a) :: .it (.code b) :: k } :: cs) m
def itemT_a6 (E : Env) (r : Nat → List SFr → SMem → Tree) (base : Nat) (f : SFr) (k : List SIt) (cs : List SFr) (m : SMem) (c : Operand) (a : Code) (b : Code) : Tree :=
  match ev f.tm c with
    | some (.s (.c (.f (.bool t)))) => ite' t (r base ({ f with tm := knowC f.tm c true, todo := .it (.code a) :: k } :: cs) m) (r base ({ f with tm := knowC f.tm c false, todo := .it (.code b) :: k } :: cs) m)
    | _ => .fail 4
def itemT_a7 (E : Env) (r : Nat → List SFr → SMem → Tree) (base : Nat) (f : SFr) (k : List SIt) (cs : List SFr) (m : SMem) (id : Nat) (b : Code) : Tree :=
  r base ({ f with todo := .it (.code b) :: .it (.inBlock id) :: k } :: cs) m
def itemT_a8 (E : Env) (r : Nat → List SFr → SMem → Tree) (base : Nat) (f : SFr) (k : List SIt) (cs : List SFr) (m : SMem) (b : Code) : Tree :=
  r base ({ f with todo := .it (.code b) :: .it (.inLoop b) :: k } :: cs) m
def itemT_a9 (E : Env) (r : Nat → List SFr → SMem → Tree) (base : Nat) (f : SFr) (k : List SIt) (cs : List SFr) (m : SMem) (b : Code) : Tree :=
  r base ({ f with todo := .it (.code b) :: .it (.inLoop b) :: k } :: cs) m
def itemT_a10 (E : Env) (r : Nat → List SFr → SMem → Tree) (base : Nat) (f : SFr) (k : List SIt) (cs : List SFr) (m : SMem) (b : Code) : Tree :=
  r base ({ f with todo := .it (.code b) :: .it (.inScope b) :: k } :: cs) m
def itemT_a11 (E : Env) (r : Nat → List SFr → SMem → Tree) (base : Nat) (f : SFr) (k : List SIt) (cs : List SFr) (m : SMem) (id : Nat) : Tree :=
  match exitS id k with
    | some k' => r base ({ f with todo := k' } :: cs) m
    | none => leaveT (r base) f cs m (some (.exit id)) false
def itemT_a12 (E : Env) (r : Nat → List SFr → SMem → Tree) (base : Nat) (f : SFr) (k : List SIt) (cs : List SFr) (m : SMem) (ops : Array Oper) : Tree :=
  r base ({ f with todo := .it (.inRegion ops (List.range ops.size)) :: k } :: cs) m
def itemT_a13 (E : Env) (r : Nat → List SFr → SMem → Tree) (base : Nat) (f : SFr) (k : List SIt) (cs : List SFr) (m : SMem) (id : Nat) (ops : Array Oper) : Tree :=
  match (match f.rnd with | none => true | some _ => noDefer ops.toList) with
    | true => drawT E r (f.fn * 100000 + id * 10) base ops f.tm m fun T' m' => r base ({ f with tm := T', todo := k } :: cs) m'
    | false => .fail (f.fn * 100000 + id * 10 + 9)
def itemT_a16 (E : Env) (r : Nat → List SFr → SMem → Tree) (base : Nat) (f : SFr) (k : List SIt) (cs : List SFr) (m : SMem) (ops : Array Oper) (l : List Nat) : Tree :=
  match l with
    | [] => r base ({ f with todo := k } :: cs) m
    | i :: rest => match nth ops.toList i with
      | none => .fail 6
      | some o => match wantS f.tm ops.toList o with
        | none => .fail (f.fn * 100000 + 7)
        | some b => ite' b
            (opT E (r base) base (f.fn * 100000 + (match o.dst with | some d => d | none => 999) * 10) { f with tm := knowG f.tm ops.toList o true, todo := .it (.inRegion ops (i :: rest)) :: k } cs o.op m)
            (r base ({ f with tm := dstS (knowG f.tm ops.toList o false) o.dst (.tup []), todo := .it (.inRegion ops rest) :: k } :: cs) m)
def itemT (E : Env) (r : Nat → List SFr → SMem → Tree) (base : Nat) (f : SFr) (k : List SIt) (cs : List SFr) (m : SMem) : Item → Tree
  | .code .ret => leaveT (r base) f cs m (some .ret) true
  | .code .skip => r base ({ f with todo := k } :: cs) m
  | .code (.label _) => r base ({ f with todo := k } :: cs) m
  | .inBlock _ => r base ({ f with todo := k } :: cs) m
  | .inScope _ => r base ({ f with todo := k } :: cs) m
  | .code (.seq a b) => itemT_a5 E r base f k cs m a b
  | .code (.cond c a b) => itemT_a6 E r base f k cs m c a b
  | .code (.block id b) => itemT_a7 E r base f k cs m id b
  | .code (.loop b) => itemT_a8 E r base f k cs m b
  | .inLoop b => itemT_a9 E r base f k cs m b
  | .code (.scope b) => itemT_a10 E r base f k cs m b
  | .code (.exit id) => itemT_a11 E r base f k cs m id
  | .code (.region _ ops false) => itemT_a12 E r base f k cs m ops
  | .code (.region id ops true) => itemT_a13 E r base f k cs m id ops
  | .code (.rangeFunc g ps as bd) => rangeT E (r base) f k cs m g ps as bd
  | .beginRound => beginT (r base) f k cs m
  | .inRegion ops l => itemT_a16 E r base f k cs m ops l
  | _ => .fail 11
def SFr.atRun (f : SFr) : SFr := { f with md := .run }
def stepT (E : Env) (r : Nat → List SFr → SMem → Tree) (base : Nat) (fs : List SFr) (m : SMem) : Tree :=
  match fs with
  | [] => .fail 40
  | f :: cs => match f.md with
    | .run => match f.todo with
      | [] => leaveT (r base) f cs m none true
      | x :: k => match E.halt (len cs) f.fn x with
        | true => .stop (f :: cs) m
        | false => match x with
          | .endR l => endT (r base) f.atRun l k cs m
          | .inR _ => .fail 41
          | .it x => itemT E r base f.atRun k cs m x
    | _ => unwindT E (r base) f cs m
def run (E : Env) : Nat → Nat → List SFr → SMem → Tree
  | 0, _, _, _ => .fail 0
  | n + 1, base, fs, m => stepT E (run E n) base fs m
end
end Go.Proofs.YtjjeahnbppmigaaDoor
