/- A symbolic machine for Go functions: its values, its memory, its steps. Plain definitions; the kernel runs them. No condition. -/
import Derived.Test.YtjjeahnbppmigaaDoorG
import Derived.Below
set_option linter.unusedVariables false
set_option linter.unusedSimpArgs false
namespace Go.Proofs.YtjjeahnbppmigaaDoor
noncomputable section

inductive SI where
  | l (n : Int)
  | o (n : Int)
abbrev SI.den : SI → Int | .l n => n | .o n => n
inductive SB where
  | l (b : Bool)
  | o (b : Bool)
abbrev SB.den : SB → Bool | .l b => b | .o b => b
inductive SN where
  | l (n : Nat)
  | o (n : Nat)
abbrev SN.den : SN → Nat | .l n => n | .o n => n
inductive SK where
  | n (n : SN)
  | full (sz : Nat)
  | any
  | cut (sz : Nat)
def SK.ok : SK → Nat → Nat → Prop | .n x, c, _ => c = x.den | .full sz, c, N => c * sz = N ∧ c ≤ maxLen | .any, _, _ => True | .cut sz, c, N => c * sz = N ∧ c ≤ maxLen

inductive SF where
  | int (k : IntKind) (n : SI)
  | bool (b : SB)
  | ptr (id : Nat) (off : SN)
  | slice (id : Nat) (off len : SN) (cap : SK)
  | lit (v : Value)
  | opq (v : Value)
  | gp (g : Nat) (off : SN)
  | mp (id : Nat)
  | e0
  | e00
  | e1
inductive SC where
  | f (x : SF)
  | fn (f : Fn) (first captured : List SF)
  | yl (id : Nat)
  | ifc (t : TypeId) (agg : Bool) (l : List SF)
inductive SA where
  | ls (l : List SC)
  | pre (l : List SC)
  | op (cs : Array Value)
  | pop (cs : Array Value)
  | raw (cs : Array Value)
  | patch (cs : Array Value) (o : Nat) (x : SF)
inductive S1 where
  | c (x : SC)
  | agg (a : SA)
inductive SV where
  | s (x : S1)
  | tup (l : List S1)

def All2 {α β : Type} (r : α → β → Prop) : List α → List β → Prop
  | [], [] => True
  | a :: l, b :: m => r a b ∧ All2 r l m
  | _, _ => False

structure Loc where
  b : Nat
  n : Nat
abbrev Ren := Nat → Option Loc

def SF.ok (R : Ren) : SF → Value → Prop
  | .int k n, v => v = .int k n.den
  | .bool b, v => v = .bool b.den
  | .ptr id off, v => ∃ g, R id = some g ∧ v = .pointer (some ⟨g.b, off.den, none⟩)
  | .slice id off len cap, v => ∃ g c, R id = some g ∧ v = .slice (some ⟨g.b, off.den, none⟩) len.den c ∧ cap.ok c g.n ∧ len.den ≤ c
  | .lit u, v | .opq u, v => v = u ∧ u.oneCell' = true
  | .gp g off, v => v = .pointer (some ⟨g, off.den, none⟩)
  | .mp id, v => ∃ g, R id = some g ∧ v = .map (some g.b)
  | .e0, v => ∃ a c, v = .slice a 0 c
  | .e00, v => ∃ a, v = .slice a 0 0
  | .e1, v => ∃ a c, v = .slice (some a) 0 c
def SC.ok (R : Ren) : SC → Value → Prop
  | .f x, v => x.ok R v
  | .fn g a b, v => ∃ x y : Array Value, v = .func g x y ∧ All2 (SF.ok R) a x.toList ∧ All2 (SF.ok R) b y.toList
  | .yl id, v => ∃ g, R id = some g ∧ v = .func (.yield g.b) #[] #[]
  | .ifc t true l, v => ∃ cs : Array Value, v = .iface t (.agg cs) ∧ All2 (SF.ok R) l cs.toList
  | .ifc t false l, v => ∃ u, v = .iface t u ∧ All2 (SF.ok R) l [u]
def SA.ok (R : Ren) : SA → Array Value → Prop
  | .ls l, cs => All2 (SC.ok R) l cs.toList
  | .pre l, cs => All2 (SC.ok R) l (cs.toList.take l.length) ∧ ∀ v ∈ cs.toList, v.oneCell' = true
  | .op a, cs => cs = a ∧ ∀ v ∈ cs.toList, v.oneCell' = true
  | .pop a, cs => cs.toList.take a.size = a.toList ∧ ∀ v ∈ cs.toList, v.oneCell' = true
  | .raw _, _ => False
  | .patch a o x, cs => (∃ v, x.ok R v ∧ cs = a.setIfInBounds o v) ∧ ∀ v ∈ cs.toList, v.oneCell' = true
def SA.okM (R : Ren) : SA → Array Value → Prop
  | .raw a, cs => cs = a
  | a, cs => a.ok R cs
def S1.ok (R : Ren) : S1 → Value → Prop
  | .c x, v => x.ok R v
  | .agg a, v => ∃ cs, v = .agg cs ∧ a.ok R cs
def SV.ok (R : Ren) : SV → Value → Prop
  | .s x, v => x.ok R v
  | .tup l, v => ∃ vs : Array Value, v = .tuple vs ∧ All2 (S1.ok R) l vs.toList
def TOk (R : Ren) : Option SV → Value → Prop
  | none, _ => True
  | some s, v => s.ok R v

inductive Tr (α : Type) where
  | nil
  | node (l : Tr α) (v : Option α) (r : Tr α)
def Tr.get {α : Type} (t : Tr α) : Nat → Option α :=
  Tr.rec (motive := fun _ => Nat → Option α) (fun _ => none) (fun _ v _ gl gr i => Nat.rec (motive := fun _ => Option α) v (fun k _ => Bool.rec (motive := fun _ => Option α) (gr (Nat.div k 2)) (gl (Nat.div k 2)) (Nat.beq (Nat.mod k 2) 0)) i) t
def Tr.setF {α : Type} (v : Option α) (f : Nat) : Tr α → Nat → Tr α :=
  Nat.rec (motive := fun _ => Tr α → Nat → Tr α) (fun t _ => t) (fun _ ih t i =>
    Tr.rec (motive := fun _ => Tr α) (Nat.rec (motive := fun _ => Tr α) (.node .nil v .nil) (fun k _ => Bool.rec (motive := fun _ => Tr α) (.node .nil none (ih .nil (Nat.div k 2))) (.node (ih .nil (Nat.div k 2)) none .nil) (Nat.beq (Nat.mod k 2) 0)) i)
      (fun l x r _ _ => Nat.rec (motive := fun _ => Tr α) (.node l v r) (fun k _ => Bool.rec (motive := fun _ => Tr α) (.node l x (ih r (Nat.div k 2))) (.node (ih l (Nat.div k 2)) x r) (Nat.beq (Nat.mod k 2) 0)) i) t) f
def Tr.set {α : Type} (t : Tr α) (i : Nat) (v : Option α) : Tr α := setF v (i + 1) t i
structure Tm where
  n : Nat
  d : Option SV
  t : Tr (Option SV)
def Tm.get (T : Tm) (i : Nat) : Option SV :=
  match T.t.get i with
  | some x => x
  | none => match Nat.blt i T.n with
    | true => T.d
    | false => none
def Tm.set (T : Tm) (i : Nat) (x : Option SV) : Tm :=
  match T with
  | ⟨n, d, t⟩ => match Nat.blt i n with
    | true => ⟨n, d, t.set i (some x)⟩
    | false => ⟨n, d, t⟩
def TmOkA (R : Ren) (T : Tm) (tmps : Array Value) : Prop := tmps.size = T.n ∧ ∀ i s, T.get i = some s → ∃ v, tmps[i]? = some v ∧ s.ok R v
structure SBlk where
  arr : SA
  ty : TypeId
  wr : Bool
inductive VK where
  | i (k : IntKind)
  | b
def VK.mk : VK → Int → Value
  | .i k, n => .int k n
  | .b, n => .bool (decide (n ≠ 0))
def encE (kk : IntKind) (vk : VK) (p : Int × Int) : Value × Value := (.int kk p.1, vk.mk p.2)
inductive XO where
  | loop (st : LoopState) (pend : Option Code) (fn : FuncId) (tm : Tm) (ps : Array Tmp) (assign body : Code) (dl : Nat)
  | defr
  | map (es : List (SF × S1 × Nat)) (clock : Nat)
  | mapR (es : List (SF × S1 × Nat)) (clock : Nat)
  | mapI (wr : Bool) (kk : IntKind) (vk : VK) (es : List (Int × Int))
  | mapE (l : Array MapEntry) (clock : Nat)
  | iter (mid since : Nat) (seen : Array Nat) (last : Nat)
structure XB where
  id : Nat
  o : XO
structure SMem where
  next : Nat
  bl : Tr SBlk
  xs : List XB
def getX : List XB → Nat → Option XO
  | [], _ => none
  | b :: r, i => if Nat.beq b.id i then some b.o else getX r i
def putX : List XB → Nat → XO → List XB
  | [], _, _ => []
  | b :: r, i, a => if Nat.beq b.id i then ⟨b.id, a⟩ :: putX r i a else b :: putX r i a
def dropX : List XB → Nat → List XB
  | [], _ => []
  | b :: r, i => if Nat.beq b.id i then dropX r i else b :: dropX r i
def BornOk (l : Array MapEntry) (c : Nat) : Prop := (∀ e ∈ l.toList, e.born < c) ∧ (l.toList.map (·.born)).Nodup
def EntryOk (R : Ren) (x : SF × S1 × Nat) (e : MapEntry) : Prop := x.1.ok R e.key ∧ x.2.1.ok R e.val ∧ e.born = x.2.2
def XO.ok (R : Ren) : XO → Obj → Prop
  | .loop st pend fn tm ps assign body dl, o => ∃ (tmps : Array Value) (g : Loc), R dl = some g ∧ TmOkA R tm tmps ∧ o = .loop { state := st, pending := pend, fn, tmps, params := ps, assign, body, defers := g.b }
  | .defr, o => o = .deferred (some [])
  | .map es clock, o | .mapR es clock, o => ∃ l : Array MapEntry, o = .map l clock ∧ All2 (EntryOk R) es l.toList
  | .mapI _ kk vk es, o => ∃ (l : Array MapEntry) (clock : Nat), o = .map l clock ∧ (l.toList.map fun e => (e.key, e.val)) = es.map (encE kk vk) ∧ BornOk l clock
  | .mapE l c, o => o = .map l c
  | .iter mid since seen last, o => ∃ g, R mid = some g ∧ o = .mapIter (some g.b) since seen last
def XO.own : XO → Bool
  | .mapR _ _ => false
  | .mapI wr _ _ _ => wr
  | .mapE _ _ => false
  | _ => true
def XO.es : XO → Option (List (SF × S1 × Nat))
  | .map es _ | .mapR es _ => some es
  | _ => none

def getB (l : Tr SBlk) (i : Nat) : Option SBlk := l.get i
def putB (l : Tr SBlk) (i : Nat) (a : SA) : Tr SBlk :=
  match l.get i with
  | some b => l.set i (some ⟨a, b.ty, b.wr⟩)
  | none => l
def SMem.new (m : SMem) (a : SA) (t : TypeId) : SMem := ⟨m.next + 1, m.bl.set m.next (some ⟨a, t, true⟩), m.xs⟩
def SMem.newR (m : SMem) (a : SA) (t : TypeId) : SMem := ⟨m.next + 1, m.bl.set m.next (some ⟨a, t, false⟩), m.xs⟩
def SMem.newX (m : SMem) (o : XO) : SMem := ⟨m.next + 1, m.bl, ⟨m.next, o⟩ :: m.xs⟩

structure BelowF (n0 : Nat) (F : Nat → Prop) (w w' : World) : Prop where
  os : w'.os = w.os
  tape : w'.tape = w.tape
  output : w'.output = w.output
  size : w.heap.size ≤ w'.heap.size
  block : ∀ k, k < n0 → ¬ F k → w'.heap[k]? = w.heap[k]?
  froz : ∀ k cs ty fz, k < n0 → w.heap[k]? = some (.cells cs ty fz) → ∃ cs', w'.heap[k]? = some (.cells cs' ty fz)

def FzOk (fz : Nat × Nat) (n : Nat) : Prop := fz = (0, 0) ∨ n ≤ fz.1
class Gh where
  tab : Nat → List Value → Prop
def GlP [Gh] (g : Nat) (cs : List Value) : Prop := (g, cs) ∈ glTab ∨ Gh.tab g cs
variable [Gh]
structure Rel (n0 : Nat) (F : Nat → Prop) (w0 : World) (R : Ren) (m : SMem) (w : World) : Prop where
  inj : ∀ i j g h b c, R i = some g → R j = some h → g.b = h.b → getB m.bl i = some b → getB m.bl j = some c → b.wr = true ∨ c.wr = true → i = j
  lt : ∀ i g, R i = some g → g.b < w.heap.size
  nx : ∀ i g, R i = some g → i < m.next
  blk : ∀ i b, getB m.bl i = some b → ∃ g cs fz, R i = some g ∧ w.heap[g.b]? = some (.cells cs b.ty fz) ∧ cs.size = g.n ∧ b.arr.okM R cs ∧ (b.wr = true → (n0 ≤ g.b ∨ F g.b) ∧ FzOk fz cs.size)
  base : n0 ≤ w.heap.size
  fr : BelowF n0 F w0 w
  xo : ∀ i x, getX m.xs i = some x → ∃ g o, R i = some g ∧ w.heap[g.b]? = some o ∧ x.ok R o ∧ (x.own = true → n0 ≤ g.b ∨ F g.b)
  xi : ∀ i j g h x y, R i = some g → R j = some h → g.b = h.b → getX m.xs i = some x → getX m.xs j = some y → i = j
  gl : ∀ g cs, GlP g cs → g < n0 ∧ ¬ F g ∧ ∃ cs' ty fz, w0.heap[g]? = some (.cells cs' ty fz) ∧ cs'.size = cs.length ∧ ∀ i : Nat, i < cs.length → cs'[i]? = cs[i]?

omit [Gh] in
def Ext (R R' : Ren) : Prop := ∀ i g, R i = some g → R' i = some g
omit [Gh] in
def ExtN (w w' : World) (n n' : Nat) (R R' : Ren) : Prop := Ext R R' ∧ (∀ i g, R' i = some g → R i = some g ∨ (w.heap.size ≤ g.b ∧ n ≤ i)) ∧ w.heap.size ≤ w'.heap.size ∧ n ≤ n'

/-! Constants. -/
omit [Gh] in
def SC.ofVal : Value → SC
  | .int k n => .f (.int k (.l n))
  | .bool b => .f (.bool (.l b))
  | v => .f (.lit v)
omit [Gh] in
def allOne : List Value → Bool
  | [] => true
  | v :: r => v.oneCell' && allOne r
omit [Gh] in
def ofVals (l : List Value) : Option SA := if allOne l then some (.ls (l.map SC.ofVal)) else none
omit [Gh] in
def SV.ofVal : Value → Option SV
  | .agg cs => (ofVals cs.toList).map fun a => .s (.agg a)
  | .tuple vs => match vs.toList with
    | [] => some (.tup [])
    | _ => none
  | v => some (.s (.c (SC.ofVal v)))

/-! Rows: by the recursors themselves, and no further than they are looked at. -/
section rows
variable {α : Type}
omit [Gh] in
def nth (l : List α) : Nat → Option α :=
  List.rec (motive := fun _ => Nat → Option α) (fun _ => none) (fun a _ ih n => Nat.rec (motive := fun _ => Option α) (some a) (fun k _ => ih k) n) l
omit [Gh] in
theorem nth_nil (n : Nat) : nth ([] : List α) n = none := rfl
omit [Gh] in
theorem nth_zero (a : α) (l : List α) : nth (a :: l) 0 = some a := rfl
omit [Gh] in
theorem nth_succ (a : α) (l : List α) (n : Nat) : nth (a :: l) (n + 1) = nth l n := rfl
omit [Gh] in
def setN : List α → Nat → α → List α
  | [], _, _ => []
  | _ :: l, 0, v => v :: l
  | a :: l, n + 1, v => a :: setN l n v
omit [Gh] in
def len (l : List α) : Nat := List.rec (motive := fun _ => Nat) 0 (fun _ _ ih => Nat.succ ih) l
omit [Gh] in
theorem len_nil : len ([] : List α) = 0 := rfl
omit [Gh] in
theorem len_cons (a : α) (l : List α) : len (a :: l) = len l + 1 := rfl
omit [Gh] in
def takeL (l : List α) : Nat → List α :=
  List.rec (motive := fun _ => Nat → List α) (fun _ => []) (fun a _ ih n => Nat.rec (motive := fun _ => List α) [] (fun k _ => a :: ih k) n) l
omit [Gh] in
theorem takeL_eq : ∀ (l : List α) (n : Nat), takeL l n = l.take n
  | [], n => by cases n <;> rfl
  | _ :: _, 0 => rfl
  | a :: l, n + 1 => by
    show a :: takeL l n = _
    rw [takeL_eq l n]
    rfl
omit [Gh] in
def takeN (l : List α) (n : Nat) : Option (List α) :=
  match Nat.ble n (len l) with
  | true => some (takeL l n)
  | false => none
omit [Gh] in
def dropN (l : List α) : Nat → List α :=
  List.rec (motive := fun _ => Nat → List α) (fun _ => []) (fun a t ih n => Nat.rec (motive := fun _ => List α) (a :: t) (fun k _ => ih k) n) l
omit [Gh] in
def overL (l : List α) : List α → List α :=
  List.rec (motive := fun _ => List α → List α) (fun _ => []) (fun b t ih v => List.rec (motive := fun _ => List α) (b :: t) (fun a v' _ => a :: ih v') v) l
omit [Gh] in
theorem overL_eq : ∀ (l v : List α), v.length ≤ l.length → overL l v = v ++ l.drop v.length
  | [], [], _ => rfl
  | [], _ :: _, h => by simp at h
  | _ :: _, [], _ => rfl
  | b :: t, a :: v, h => by
    show a :: overL t v = _
    rw [overL_eq t v (by simpa using h)]
    rfl
omit [Gh] in
def over (v l : List α) : Option (List α) :=
  match Nat.ble (len v) (len l) with
  | true => some (overL l v)
  | false => none
omit [Gh] in
def spliceL (y l : List α) : Nat → List α :=
  List.rec (motive := fun _ => Nat → List α) (fun _ => []) (fun a t ih n => Nat.rec (motive := fun _ => List α) (overL (a :: t) y) (fun k _ => a :: ih k) n) l
omit [Gh] in
theorem spliceL_eq (y : List α) : ∀ (l : List α) (n : Nat), n + y.length ≤ l.length → spliceL y l n = l.take n ++ y ++ l.drop (n + y.length)
  | [], n, h => by
    have h1 : n + y.length = 0 := by simpa using h
    obtain rfl : n = 0 := by omega
    obtain rfl : y = [] := List.eq_nil_of_length_eq_zero (by omega)
    rfl
  | a :: t, 0, h => by
    show overL (a :: t) y = _
    rw [overL_eq _ _ (by simpa using h)]
    simp
  | a :: t, n + 1, h => by
    show a :: spliceL y t n = _
    rw [spliceL_eq y t n (by simp only [List.length_cons] at h; omega)]
    have e : n + 1 + y.length = (n + y.length) + 1 := by omega
    rw [e]
    rfl
omit [Gh] in
def splice (l : List α) (n : Nat) (y : List α) : Option (List α) :=
  match Nat.ble (n + len y) (len l) with
  | true => some (spliceL y l n)
  | false => none
omit [Gh] in
def app (a b : List α) : List α := List.rec (motive := fun _ => List α) b (fun x _ ih => x :: ih) a
omit [Gh] in
theorem app_eq : ∀ (a b : List α), app a b = a ++ b
  | [], _ => rfl
  | x :: a, b => by
    show x :: app a b = _
    rw [app_eq a b]
    rfl
end rows

omit [Gh] in
def ev (T : Tm) : Operand → Option SV
  | .tmp t => T.get t
  | .const v => SV.ofVal v
  | .global g => some (.s (.c (.f (.gp g (.l 0)))))
  | .func f => some (.s (.c (.fn (.func f) [] [])))

omit [Gh] in
def SC.plain : SC → Option Value
  | .f (.int k n) => some (.int k n.den)
  | .f (.bool b) => some (.bool b.den)
  | .f (.lit v) => some v
  | .f (.opq v) => some v
  | _ => none
omit [Gh] in
def plains : List SC → Option (List Value)
  | [] => some []
  | c :: l => match c.plain, plains l with
    | some v, some r => some (v :: r)
    | _, _ => none
omit [Gh] in
def oneS : List SC → Option (List Value × Nat × SF)
  | [] => none
  | .f (.slice i o n c) :: l => match plains l with
    | some vs => some (.slice none 0 0 :: vs, 0, .slice i o n c)
    | none => none
  | .f .e0 :: l => match plains l with
    | some vs => some (.slice none 0 0 :: vs, 0, .e0)
    | none => none
  | .f .e00 :: l => match plains l with
    | some vs => some (.slice none 0 0 :: vs, 0, .e00)
    | none => none
  | c :: l => match c.plain, oneS l with
    | some v, some (vs, j, x) => some (v :: vs, j + 1, x)
    | _, _ => none
omit [Gh] in
def SV.cells : SV → Option SA
  | .s (.c x) => some (.ls [x])
  | .s (.agg a) => some a
  | .tup _ => none

omit [Gh] in
abbrev SN.add : SN → SN → SN
  | .l a, .l b => .l (a + b)
  | a, b => .o (a.den + b.den)
omit [Gh] in
abbrev SI.nat : SI → SN
  | .l n => .l n.toNat
  | .o n => .o n.toNat
omit [Gh] in
abbrev SN.mul : SN → Nat → SN
  | .l a, n => .l (a * n)
  | .o a, n => .o (a * n)
omit [Gh] in
abbrev SN.sub : SN → SN → SN
  | .l a, .l b => .l (a - b)
  | a, b => .o (a.den - b.den)

omit [Gh] in
def intAt (cs : Array Value) (i : Nat) : Int := match cs[i]? with | some (.int _ n) => n | _ => 0
omit [Gh] in
def boolAt (cs : Array Value) (i : Nat) : Bool := match cs[i]? with | some (.bool b) => b | _ => false
omit [Gh] in
def valAt (cs : Array Value) (i : Nat) : Value := cs[i]?.getD undef
omit [Gh] in
def IsInt (k : IntKind) (cs : Array Value) (i : Nat) : Prop := cs[i]? = some (.int k (intAt cs i))
omit [Gh] in
def IsBool (cs : Array Value) (i : Nat) : Prop := cs[i]? = some (.bool (boolAt cs i))
omit [Gh] in
def strAt (cs : Array Value) (i : Nat) : ByteArray := match cs[i]? with | some (.string s) => s | _ => .empty
omit [Gh] in
def IsStr (cs : Array Value) (i : Nat) : Prop := cs[i]? = some (.string (strAt cs i))
omit [Gh] in
def IsNil (cs : Array Value) (i : Nat) : Prop := cs[i]? = some (.slice none 0 0)
omit [Gh] in
def IsOne (cs : Array Value) (i : Nat) : Prop := ∃ v, cs[i]? = some v ∧ v.oneCell' = true
omit [Gh] in
def AllOneIn (cs : Array Value) (i n : Nat) : Prop := ∀ v ∈ (cs.extract i (i + n)).toList, v.oneCell' = true
omit [Gh] in
def putAt (cs : Array Value) (i : Nat) (l : List Value) : Array Value := (cs.toList.take i ++ l ++ cs.toList.drop (i + l.length)).toArray

omit [Gh] in
def isA (d : TypeDesc) : Bool := match d with | .struct _ | .array _ _ => true | _ => false
omit [Gh] in
def partS0 (P : Program) (t : TypeId) (a : SA) (off : SN) : Option (List Prop × S1) :=
  match P.underlying t with
  | none => none
  | some d =>
    match P.info? t with
    | none => none
    | some i =>
      match isA d with
      | true =>
        match a, off with
        | .ls l, .l k | .pre l, .l k => match Nat.ble (k + i.size) (len l), takeN (dropN l k) i.size with
          | true, some r => some ([], .agg (.ls r))
          | _, _ => none
        | .op cs, .l 0 => some ([cs.size = i.size], .agg (.op cs))
        | .patch cs o x, .l 0 => some ([cs.size = i.size], .agg (.patch cs o x))
        | .op cs, off | .pop cs, off => some ([off.den + i.size ≤ cs.size], .agg (.op (cs.extract off.den (off.den + i.size))))
        | .raw cs, off => some ([off.den + i.size ≤ cs.size, AllOneIn cs off.den i.size], .agg (.op (cs.extract off.den (off.den + i.size))))
        | _, _ => none
      | false =>
        match a, off with
        | .ls l, .l k | .pre l, .l k => match nth l k with
          | some c => some ([], .c c)
          | none => none
        | .op cs, off => match d with
          | .int k => some ([IsInt k cs off.den], .c (.f (.int k (.o (intAt cs off.den)))))
          | .bool => some ([IsBool cs off.den], .c (.f (.bool (.o (boolAt cs off.den)))))
          | .string => some ([IsStr cs off.den], .c (.f (.opq (.string (strAt cs off.den)))))
          | _ => some ([IsOne cs off.den], .c (.f (.opq (valAt cs off.den))))
        | .pop cs, off | .raw cs, off => match d with
          | .int k => some ([IsInt k cs off.den], .c (.f (.int k (.o (intAt cs off.den)))))
          | .bool => some ([IsBool cs off.den], .c (.f (.bool (.o (boolAt cs off.den)))))
          | .string => some ([IsStr cs off.den], .c (.f (.opq (.string (strAt cs off.den)))))
          | _ => some ([IsOne cs off.den], .c (.f (.opq (valAt cs off.den))))
        | .ls l, .o k => match plains l with
          | some vs => match d with
            | .int kd => some ([IsInt kd vs.toArray k], .c (.f (.int kd (.o (intAt vs.toArray k)))))
            | .bool => some ([IsBool vs.toArray k], .c (.f (.bool (.o (boolAt vs.toArray k)))))
            | _ => none
          | none => none
        | _, _ => none

omit [Gh] in
def wholeL (l : List SC) (k n : Nat) : Bool :=
  match k with
  | 0 => Nat.beq (len l) n
  | _ => false
omit [Gh] in
def partS (P : Program) (t : TypeId) (a : SA) (off : SN) : Option (List Prop × S1) :=
  match a, off with
  | .ls l, .l k => match P.underlying t, P.info? t with
    | some d, some i => match isA d && wholeL l k i.size with
      | true => some ([], .agg (.ls l))
      | false => partS0 P t (.ls l) (.l k)
    | _, _ => none
  | a, off => partS0 P t a off

omit [Gh] in
def leavesF (p : TypeId → Option (List TypeDesc)) : List Field → Option (List TypeDesc)
  | [] => some []
  | f :: l => match p f.type, leavesF p l with
    | some a, some b => some (a ++ b)
    | _, _ => none
omit [Gh] in
def repL {α : Type} : Nat → List α → List α
  | 0, _ => []
  | n + 1, l => l ++ repL n l
omit [Gh] in
def leaves (P : Program) : Nat → TypeId → Option (List TypeDesc)
  | 0, _ => none
  | n + 1, t => match P.underlying t with
    | some (.struct fs) => leavesF (leaves P n) fs.toList
    | some (.array k e) => match Nat.ble k 24 with
      | true => (leaves P n e).map (repL k)
      | false => none
    | some d => some [d]
    | none => none
omit [Gh] in
def leafC (nl : Bool) (cs : Array Value) (off : SN) : Nat → List TypeDesc → List Prop × List SC
  | _, [] => ([], [])
  | k, .int kd :: r => (IsInt kd cs (off.add (.l k)).den :: (leafC nl cs off (k + 1) r).1, .f (.int kd (.o (intAt cs (off.add (.l k)).den))) :: (leafC nl cs off (k + 1) r).2)
  | k, .bool :: r => (IsBool cs (off.add (.l k)).den :: (leafC nl cs off (k + 1) r).1, .f (.bool (.o (boolAt cs (off.add (.l k)).den))) :: (leafC nl cs off (k + 1) r).2)
  | k, .slice _ :: r => (match nl with
    | true => (IsNil cs (off.add (.l k)).den :: (leafC nl cs off (k + 1) r).1, .f (.lit (.slice none 0 0)) :: (leafC nl cs off (k + 1) r).2)
    | false => (IsOne cs (off.add (.l k)).den :: (leafC nl cs off (k + 1) r).1, .f (.opq (valAt cs (off.add (.l k)).den)) :: (leafC nl cs off (k + 1) r).2))
  | k, _ :: r => (IsOne cs (off.add (.l k)).den :: (leafC nl cs off (k + 1) r).1, .f (.opq (valAt cs (off.add (.l k)).den)) :: (leafC nl cs off (k + 1) r).2)
omit [Gh] in
def rawOf : SA → Option (Array Value)
  | .op cs | .pop cs | .raw cs => some cs
  | _ => none
omit [Gh] in
def isOp : SA → Bool
  | _ => false
omit [Gh] in
def isStr : TypeDesc → Bool
  | .struct _ => true
  | _ => false
omit [Gh] in
def sufC (kd : IntKind) (c : SC) (vs : List Int) : Nat × List Int :=
  match c with
  | .f (.int k n) => match decide (k = kd) with
    | true => (0, n.den :: vs)
    | false => (1, vs)
  | _ => (1, vs)
omit [Gh] in
def sufV (kd : IntKind) : List SC → Nat × List Int
  | [] => (0, [])
  | c :: l => match sufV kd l with
    | (0, vs) => sufC kd c vs
    | (n + 1, vs) => (n + 2, vs)
omit [Gh] in
def forceL {α : Type} : List Int → (Nat → List Int → α) → α
  | [], k => k 0 []
  | x :: l, k => forceL l fun n r => k (n + 1) (x :: r)
omit [Gh] in
def forceN {α : Type} : Nat → (Nat → α) → α
  | 0, k => k 0
  | n + 1, k => forceN n fun r => k (r + 1)
omit [Gh] in
def intL (vs : List Int) (i : Nat) : Int := (vs[i]?).getD 0
omit [Gh] in
def sufP (P : Program) (t : TypeId) (a : SA) (off : SN) : Option (List Prop × S1) :=
  match a, off, P.underlying t, P.info? t with
  | .ls l, .o k, some (.int kd), some _ => forceN (sufV kd l).1 fun lo => forceL (sufV kd l).2 fun c vs => some ([lo ≤ k ∧ k < lo + c], .c (.f (.int kd (.o (intL vs (k - lo))))))
  | _, _, _, _ => none
omit [Gh] in
def selI (k j : Nat) (v n : Int) : Int := if k = j then v else n
omit [Gh] in
def mixL (kd : IntKind) (lo k : Nat) (v : Int) : Nat → List SC → List SC
  | _, [] => []
  | j, c :: l => (match Nat.ble lo j, c with
    | true, .f (.int _ n) => .f (.int kd (.o (selI k j v n.den)))
    | _, c => c) :: mixL kd lo k v (j + 1) l
omit [Gh] in
def partL (P : Program) (t : TypeId) (a : SA) (off : SN) : Option (List Prop × S1) :=
  match rawOf a with
  | some cs => match P.underlying t, P.info? t, leaves P 8 t with
    | some d, some i, some ds => match isStr d && Nat.beq (len ds) i.size && Nat.ble (len ds) 24 && Nat.ble 1 (len ds) with
      | true => some ((leafC (isOp a) cs off 0 ds).1, .agg (.ls (leafC (isOp a) cs off 0 ds).2))
      | false => partS P t a off
    | _, _, _ => partS P t a off
  | none => match partS P t a off with
    | some r => some r
    | none => sufP P t a off

omit [Gh] in
def putS0 (a : SA) (off : SN) (x : SA) : Option (List Prop × SA) :=
  match a, off, x with
  | .ls l, .l k, .ls y => match splice l k y with
    | some r => some ([], .ls r)
    | none => none
  | .pre l, .l k, .ls y => match splice l k y with
    | some r => some ([], .pre r)
    | none => none
  | .op cs, .l 0, .op y => some ([y.size = cs.size], .op y)
  | .op cs, .l 0, .ls y => match plains y with
    | some vs => some ([vs.length ≤ cs.size], .op (putAt cs 0 vs))
    | none => none
  | .op cs, k, .ls [y] => match y.plain with
    | some v => some ([k.den < cs.size], .op (cs.setIfInBounds k.den v))
    | none => none
  | .op cs, k, .ls y => match plains y with
    | some vs => some ([k.den + vs.length ≤ cs.size], .op (putAt cs k.den vs))
    | none => match oneS y with
      | some (vs, j, x) => some ([k.den + vs.length ≤ cs.size], .patch (putAt cs k.den vs) (k.den + j) x)
      | none => none
  | .op cs, k, .op y => some ([k.den + y.size ≤ cs.size], .op (putAt cs k.den y.toList))
  | .pop cs, k, .ls [y] => match y.plain with
    | some v => some ([k.den < cs.size], .pop (cs.setIfInBounds k.den v))
    | none => none
  | .ls l, k, .ls [y] => match plains l, y.plain with
    | some vs, some v => some ([k.den < vs.length], .op (vs.toArray.setIfInBounds k.den v))
    | _, _ => none
  | .ls l, .l 0, .op y => some ([y.size = len l], .op y)
  | .pop cs, k, .op y => some ([k.den + y.size ≤ cs.size], .pop (putAt cs k.den y.toList))
  | .pop cs, k, .ls y => match plains y with
    | some vs => some ([k.den + vs.length ≤ cs.size], .pop (putAt cs k.den vs))
    | none => none
  | .op cs, .l 0, .patch y o x => some ([y.size = cs.size], .patch y o x)
  | .patch cs _ _, .l 0, .op y => some ([y.size = cs.size], .op y)
  | .patch cs _ _, .l 0, .patch y o x => some ([y.size = cs.size], .patch y o x)
  | .ls l, .l 0, .patch y o x => some ([y.size = len l], .patch y o x)
  | _, _, _ => none
omit [Gh] in
def putS (a : SA) (off : SN) (x : SA) : Option (List Prop × SA) :=
  match a, off, x with
  | .ls l, .l k, .ls y => match wholeL l k (len y) with
    | true => some ([], .ls y)
    | false => putS0 (.ls l) (.l k) (.ls y)
  | .ls l, .o k, .ls [.f (.int kd n)] => match plains l with
    | some _ => putS0 (.ls l) (.o k) (.ls [.f (.int kd n)])
    | none => forceN (sufV kd l).1 fun lo => forceL (sufV kd l).2 fun c _ => some ([lo ≤ k ∧ k < lo + c], .ls (mixL kd lo k n.den 0 l))
  | a, off, x => putS0 a off x
end
end Go.Proofs.YtjjeahnbppmigaaDoor
