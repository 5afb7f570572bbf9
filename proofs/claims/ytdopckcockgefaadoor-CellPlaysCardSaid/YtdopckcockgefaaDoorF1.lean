/- The same machine, which looks at each operation's form once: quick to run by the kernel. No condition. -/
import Derived.Test.YtdopckcockgefaaDoorK2
set_option linter.unusedVariables false
set_option linter.unusedSimpArgs false
namespace Go.Proofs.YtdopckcockgefaaDoor
noncomputable section
structure XC where
 go : Tm → SMem → XR
structure OC where
 go : (List SFr → SMem → Tree) → Nat → Nat → SFr → List SFr → SMem → Tree
structure IC where
 go : (Nat → List SFr → SMem → Tree) → Nat → SFr → List SIt → List SFr → SMem → Tree
def noX : XC := ⟨fun _ _ => .no⟩
def xopC (P : Program) (o : Op) : XC :=
 match o with
 | .move x => ⟨fun T m => XR.one m (ev T x)⟩
 | .assign x => ⟨fun T m => XR.one m (ev T x)⟩
 | .pick c a b => ⟨fun T m => xop_a1 P T m c a b⟩
 | .alloc t => ⟨fun _ m => newS t (zeroS P t) m⟩
 | .box t x => ⟨fun T m => newS t ((ev T x).bind SV.cells) m⟩
 | .build t ps => ⟨fun T m => xop_a4 P T m t ps⟩
 | .load t a => ⟨fun T m => xop_a5 P T m t a⟩
 | .store t a x => ⟨fun T m => xop_a6 P T m t a x⟩
 | .nilCheck x => ⟨fun T m => xop_a7 P T m x⟩
 | .binOp op t x y _ => ⟨fun T m => xop_a8 P T m op t x y⟩
 | .unOp op _ x => ⟨fun T m => xop_a9 P T m op x⟩
 | .convert s d x => ⟨fun T m => xop_a10 P T m s d x⟩
 | .makeFunc f a b => ⟨fun T m => xop_a11 P T m f a b⟩
 | .fieldAddr s x f => ⟨fun T m => xop_a12 P T m s x f⟩
 | .field t x f => ⟨fun T m => xop_a13 P T m t x f⟩
 | .indexAddr t x i => ⟨fun T m => xop_a14 P T m t x i⟩
 | .index t x i => ⟨fun T m => xop_a15 P T m t x i⟩
 | .extract x i => ⟨fun T m => xop_a16 P T m x i⟩
 | .call { callee := .builtin .len, args, argTypes } => ⟨fun T m => xop_a17 P T m args argTypes⟩
 | .slice t x lo hi none => ⟨fun T m => xop_a18 P T m t x lo hi⟩
 | .buildSlice t n ps => ⟨fun T m => buildSliceS P t n T ps.toList m⟩
 | .call { callee := .builtin .copy, args, argTypes } => ⟨fun T m => xop_a20 P T m args argTypes⟩
 | .call { callee := .builtin .max, args, .. } => ⟨fun T m => xop_a21 P T m args⟩
 | .call { callee := .builtin .min, args, .. } => ⟨fun T m => xop_a22 P T m args⟩
 | _ => noX
theorem xopC_eq (P : Program) (T : Tm) (m : SMem) (o : Op) : (xopC P o).go T m = xop P T m o := by
 cases o
 case call c =>
  obtain ⟨callee, args, ts⟩ := c
  cases callee with
  | builtin b => cases b <;> rfl
  | _ => rfl
 case slice t x lo hi mx => cases mx <;> rfl
 all_goals rfl
def xop2C (P : Program) (o : Op) : XC :=
 match o with
 | .binOp op t x y _ => ⟨fun T m => xop2_a0 P T m op t x y⟩
 | .makeInterface t x => ⟨fun T m => xop2_a1 P T m t x⟩
 | .typeAssert x _ t ok => ⟨fun T m => xop2_a2 P T m x t ok⟩
 | .buildSlice t 0 ps => ⟨fun T m => xop2_a3 P T m t ps⟩
 | .makeMap _ none => ⟨fun T m => xop2_a4 P T m⟩
 | .makeMap t (some x) => ⟨fun T m => xop2_a5 P T m t x⟩
 | .mapUpdate t a k v => ⟨fun T m => xop2_a6 P T m t a k v⟩
 | .insert t a k v => ⟨fun T m => xop2_a6 P T m t a k v⟩
 | .lookup t a k ok => ⟨fun T m => xop2_a7 P T m t a k ok⟩
 | .call { callee := .builtin .clear, args, argTypes } => ⟨fun T m => xop2_a8 P T m args argTypes⟩
 | .call { callee := .builtin .len, args, argTypes } => ⟨fun T m => xop2_a9 P T m args argTypes⟩
 | _ => noX
theorem xop2C_eq (P : Program) (T : Tm) (m : SMem) (o : Op) : (xop2C P o).go T m = xop2 P T m o := by
 cases o
 case call c =>
  obtain ⟨callee, args, ts⟩ := c
  cases callee with
  | builtin b => cases b <;> rfl
  | _ => rfl
 case buildSlice t n ps => cases n <;> rfl
 case makeMap t x => cases x <;> rfl
 all_goals rfl
def xop3C (P : Program) (o : Op) : XC :=
 match o with
 | .binOp op _ x y _ => ⟨fun T m => xop3_a0 P T m op x y⟩
 | .index t x i => ⟨fun T m => xop3_a1 P T m t x i⟩
 | .slice t x lo hi none => ⟨fun T m => xop3_a2 P T m t x lo hi⟩
 | .call { callee := .builtin .len, args, argTypes } => ⟨fun T m => xop3_a3 P T m args argTypes⟩
 | .call { callee := .builtin .copy, args, argTypes } => ⟨fun T m => xop3_a4 P T m args argTypes⟩
 | .slice t x lo (some hi) (some mx) => ⟨fun T m => xop3_z P T m t x lo hi mx⟩
 | .makeSlice t x y => ⟨fun T m => xop3_mk P T m t x y⟩
 | .convert s d x => ⟨fun T m => xop3_by P T m s d x⟩
 | _ => noX
theorem xop3C_eq (P : Program) (T : Tm) (m : SMem) (o : Op) : (xop3C P o).go T m = xop3 P T m o := by
 cases o
 case call c =>
  obtain ⟨callee, args, ts⟩ := c
  cases callee with
  | builtin b => cases b <;> rfl
  | _ => rfl
 case slice t x lo hi mx => cases hi <;> cases mx <;> rfl
 all_goals rfl
def xopWC (P : Program) (o : Op) : XC :=
 ⟨fun T m => match (xopC P o).go T m with
  | .no => match (xop2C P o).go T m with
   | .no => match (xop3C P o).go T m with
    | .no => xop4 P T m o
    | r => r
   | r => r
  | r => r⟩
theorem xopWC_eq (P : Program) (T : Tm) (m : SMem) (o : Op) : (xopWC P o).go T m = xopW P T m o := by
 unfold xopWC xopW
 dsimp only
 rw [xopC_eq, xop2C_eq, xop3C_eq]
 rfl
def isPure (o : Op) : Bool :=
 match o with
 | .panic _ => false
 | .defer { callee := .value _, .. } => false
 | .call { callee := .builtin .recover, .. } => false
 | .slice _ _ (some _) _ _ => false
 | o => match isCall o with
  | true => false
  | false => match isApp o with
   | true => false
   | false => true
theorem opT_pure {E : Env} {r : List SFr → SMem → Tree} {base tag : Nat} {f : SFr} {cs : List SFr} {o : Op} {m : SMem} (h : isPure o = true) :
  opT E r base tag f cs o m = match xopW E.P f.tm m o with
   | .ok q v m' => needs q (goF r (f.finish v) cs m')
   | .no => .fail (tag + 2) := by
 unfold isPure at h
 unfold opT
 split at h
 ·cases h
 ·cases h
 ·cases h
 ·cases h
 ·split at h
  ·cases h
  ·rename_i h1
   split at h
   ·cases h
   ·rename_i h2
    rename_i n1 n2 n3 n4 _ _
    have hcut : cutAt E.P f.tm o = none := by
     unfold cutAt cutS
     split
     ·rfl
     ·rename_i e
      split at e
      ·exact absurd rfl (n4 _ _ _ _ _)
      ·cases e
     ·rfl
    split
    ·exact absurd rfl (n1 _)
    ·exact absurd rfl (n2 _ _ _)
    ·exact absurd rfl (n3 _ _)
    ·rw [h1]
     unfold splitW
     rw [hcut]
     dsimp only
     rw [h2]
     rfl
def tagOf (d : Option Tmp) : Nat := match d with | some d => d | none => 999
def regC (E : Env) (ops : Array Oper) (l : List Nat) : IC :=
 match l with
 | [] => ⟨fun r base f k cs m => r base (⟨f.fn, f.tm, k, f.dfs, f.md, f.kind, f.rnd⟩ :: cs) m⟩
 | i :: rest => match nth ops.toList i with
  | none => ⟨fun _ _ _ _ _ _ => .fail 6⟩
  | some o => match o.guard with
   | none => match isPure o.op with
    | true => match o.dst with
     | some d => ⟨fun r base f k cs m => match (xopWC E.P o.op).go f.tm m with
      | .ok q v m' => needs q (r base (⟨f.fn, f.tm.set d (some v), .it (.inRegion ops rest) :: k, f.dfs, f.md, f.kind, f.rnd⟩ :: cs) m')
      | .no => .fail (f.fn * 100000 + d * 10 + 2)⟩
     | none => ⟨fun r base f k cs m => match (xopWC E.P o.op).go f.tm m with
      | .ok q _ m' => needs q (r base (⟨f.fn, f.tm, .it (.inRegion ops rest) :: k, f.dfs, f.md, f.kind, f.rnd⟩ :: cs) m')
      | .no => .fail (f.fn * 100000 + 999 * 10 + 2)⟩
    | false => ⟨fun r base f k cs m => opT E (r base) base (f.fn * 100000 + tagOf o.dst * 10) ⟨f.fn, f.tm, .it (.inRegion ops (i :: rest)) :: k, f.dfs, f.md, f.kind, f.rnd⟩ cs o.op m⟩
   | some _ => ⟨fun r base f k cs m => itemT_a16 E r base f k cs m ops (i :: rest)⟩
theorem regC_eq (E : Env) (r : Nat → List SFr → SMem → Tree) (base : Nat) (f : SFr) (k : List SIt) (cs : List SFr) (m : SMem) (ops : Array Oper) (l : List Nat) :
  (regC E ops l).go r base f k cs m = itemT_a16 E r base f k cs m ops l := by
 cases l with
 | nil => rfl
 | cons i rest =>
  unfold regC
  dsimp only
  cases hi : nth ops.toList i with
  | none =>
   unfold itemT_a16
   dsimp only
   rw [hi]
  | some o =>
   dsimp only
   cases hg : o.guard with
   | some g => rfl
   | none =>
    dsimp only
    have hk : ∀ b, knowG f.tm ops.toList o b = f.tm := by intro b; unfold knowG; rw [hg]
    have hw : wantS f.tm ops.toList o = some (.l true) := by unfold wantS; rw [hg]
    unfold itemT_a16
    dsimp only
    rw [hi]
    dsimp only
    rw [hw, hk]
    dsimp only [ite']
    cases hp : isPure o.op with
    | false => rfl
    | true =>
     rw [opT_pure hp]
     dsimp only
     cases hd : o.dst with
     | some d =>
      dsimp only
      rw [xopWC_eq]
      cases xopW E.P f.tm m o.op with
      | no => rfl
      | ok q v m' =>
       dsimp only [SFr.finish]
       rw [hi]
       dsimp only [dstS, goF]
       rw [hd]
     | none =>
      dsimp only
      rw [xopWC_eq]
      cases xopW E.P f.tm m o.op with
      | no => rfl
      | ok q v m' =>
       dsimp only [SFr.finish]
       rw [hi]
       dsimp only [dstS, goF]
       rw [hd]
def itC (E : Env) (x : Item) : IC :=
 match x with
 | .code .ret => ⟨fun r base f _ cs m => leaveT (r base) f cs m (some .ret) true⟩
 | .code .skip => ⟨fun r base f k cs m => r base (⟨f.fn, f.tm, k, f.dfs, f.md, f.kind, f.rnd⟩ :: cs) m⟩
 | .code (.label _) => ⟨fun r base f k cs m => r base (⟨f.fn, f.tm, k, f.dfs, f.md, f.kind, f.rnd⟩ :: cs) m⟩
 | .inBlock _ => ⟨fun r base f k cs m => r base (⟨f.fn, f.tm, k, f.dfs, f.md, f.kind, f.rnd⟩ :: cs) m⟩
 | .inScope _ => ⟨fun r base f k cs m => r base (⟨f.fn, f.tm, k, f.dfs, f.md, f.kind, f.rnd⟩ :: cs) m⟩
 | .code (.seq a b) => ⟨fun r base f k cs m => itemT_a5 E r base f k cs m a b⟩
 | .code (.cond c a b) => ⟨fun r base f k cs m => itemT_a6 E r base f k cs m c a b⟩
 | .code (.block id b) => ⟨fun r base f k cs m => itemT_a7 E r base f k cs m id b⟩
 | .code (.loop b) => ⟨fun r base f k cs m => itemT_a8 E r base f k cs m b⟩
 | .inLoop b => ⟨fun r base f k cs m => itemT_a9 E r base f k cs m b⟩
 | .code (.scope b) => ⟨fun r base f k cs m => itemT_a10 E r base f k cs m b⟩
 | .code (.exit id) => ⟨fun r base f k cs m => itemT_a11 E r base f k cs m id⟩
 | .code (.region _ ops false) => ⟨fun r base f k cs m => itemT_a12 E r base f k cs m ops⟩
 | .code (.region id ops true) => ⟨fun r base f k cs m => itemT_a13 E r base f k cs m id ops⟩
 | .code (.rangeFunc g ps as bd) => ⟨fun r base f k cs m => rangeT E (r base) f k cs m g ps as bd⟩
 | .beginRound => ⟨fun r base f k cs m => beginT (r base) f k cs m⟩
 | .inRegion ops l => regC E ops l
 | _ => ⟨fun _ _ _ _ _ _ => .fail 11⟩
theorem itC_eq (E : Env) (r : Nat → List SFr → SMem → Tree) (base : Nat) (f : SFr) (k : List SIt) (cs : List SFr) (m : SMem) (x : Item) : (itC E x).go r base f k cs m = itemT E r base f k cs m x := by
 cases x
 case code c =>
  cases c
  case region id ops d => cases d <;> rfl
  all_goals rfl
 case inRegion ops l => exact regC_eq ..
 all_goals rfl
def stepC (E : Env) (r : Nat → List SFr → SMem → Tree) (base : Nat) (fs : List SFr) (m : SMem) : Tree :=
 match fs with
 | [] => .fail 40
 | f :: cs => match f.md with
  | .run => match f.todo with
   | [] => leaveT (r base) f cs m none true
   | x :: k => match E.halt (len cs) f.fn x with
    | true => .stop (f :: cs) m
    | false => match x with
     | .endR l => endT (r base) f.atRun l k cs m
     | .inR _ => .fail 41
     | .it x => (itC E x).go r base f.atRun k cs m
  | _ => unwindT E (r base) f cs m
theorem stepC_eq (E : Env) (r : Nat → List SFr → SMem → Tree) (base : Nat) (fs : List SFr) (m : SMem) : stepC E r base fs m = stepT E r base fs m := by
 cases fs with
 | nil => rfl
 | cons f cs =>
  unfold stepC stepT
  dsimp only
  cases f.md with
  | run =>
   dsimp only
   cases f.todo with
   | nil => rfl
   | cons x k =>
    dsimp only
    cases E.halt (len cs) f.fn x with
    | true => rfl
    | false =>
     cases x with
     | it x => exact itC_eq ..
     | _ => rfl
  | _ => rfl
def runC (E : Env) (n : Nat) : Nat → List SFr → SMem → Tree :=
 Nat.rec (fun _ _ _ => .fail 0) (fun _ ih => stepC E ih) n
theorem runC_eq (E : Env) : ∀ n, runC E n = run E n
 | 0 => rfl
 | n + 1 => by
  funext base fs m
  show stepC E (runC E n) base fs m = stepT E (run E n) base fs m
  rw [stepC_eq, runC_eq E n]
end
end Go.Proofs.YtdopckcockgefaaDoor
