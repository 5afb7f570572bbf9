/- Loops over functions: where one stands in them, told by the code alone. No condition. -/
import Derived.Test.YtjjeahnbppmigaaDoorK23
set_option linter.unusedVariables false
set_option linter.unusedSimpArgs false
namespace Go.Proofs.YtjjeahnbppmigaaDoor
noncomputable section
def rfs : Code → List SIt → List (Array Tmp × Code × Code × List SIt)
  | .rangeFunc _ ps as bd, k => [(ps, as, bd, k)]
  | .seq a b, k => rfs a (.it (.code b) :: k) ++ rfs b k
  | .cond _ a b, k => rfs a k ++ rfs b k
  | .block j b, k => rfs b (.it (.inBlock j) :: k)
  | .loop b, k => rfs b (.it (.inLoop b) :: k)
  | .scope b, k => rfs b (.it (.inScope b) :: k)
  | _, _ => []
def rfOf (F : Func) (n : Nat) : Array Tmp × Code × Code × List SIt := match F.body with
  | some c => match nth (rfs c []) n with
    | some r => r
    | none => (#[], .skip, .skip, [])
  | none => (#[], .skip, .skip, [])
def rfK (F : Func) (n : Nat) : List SIt := (rfOf F n).2.2.2
def rfP (F : Func) (n : Nat) (fn : FuncId) : LoopP := ⟨.ready, none, fn, (rfOf F n).1, (rfOf F n).2.1, (rfOf F n).2.2.1⟩
def rfLp (F : Func) (n : Nat) (fn : FuncId) (tm : Tm) (dl : Nat) : XO := .loop .ready none fn tm (rfOf F n).1 (rfOf F n).2.1 (rfOf F n).2.2.1 dl
def frRf (fn : FuncId) (F : Func) (sl : List (Nat × SV)) (td : List SIt) (d : Nat) : SFr := ⟨fn, tmOf F.ntmps sl, td, [.col d], .run, .normal, none⟩
def rdYl (f : SFr) (d : Nat) : Option Nat := match f.tm.get d with
  | some (.s (.c (.yl i))) => some i
  | _ => none
def rdDl (m : SMem) (i : Nat) : Option Nat := match getX m.xs i with
  | some (.loop _ _ _ _ _ _ _ d) => some d
  | _ => none
def ylS (i : Nat) : SV := .s (.c (.yl i))
theorem TodoOk.rf {r : Nat → Option Nat} {i : Nat} {l : List SIt} (h : renIs r i i = true) (hl : allIt l = true) : TodoOk r (.inR i :: l) (.inR i :: l) := ⟨h, TodoOk.it hl⟩
theorem TodoOk.rf2 {r : Nat → Option Nat} {i j : Nat} {l : List SIt} (h : renIs r i j = true) (hl : allIt l = true) : TodoOk r (.inR i :: l) (.inR j :: l) := ⟨h, TodoOk.it hl⟩
/-! Loops over functions within loops: each leaves a mark. -/
def colD : Nat → List SDf
  | 0 => []
  | j + 1 => .col (20 + j) :: colD j
def colX : Nat → List XB
  | 0 => []
  | j + 1 => ⟨20 + j, .defr⟩ :: colX j
def idZ : Nat → List (Nat × Nat)
  | 0 => []
  | j + 1 => (20 + j, 20 + j) :: idZ j
def colZ : Nat → List SDf → List (Nat × Nat)
  | j + 1, .col i :: l => (20 + j, i) :: colZ j l
  | _, _ => []
def addX (xs : List XB) (m : SMem) : SMem := ⟨m.next, m.bl, m.xs ++ xs⟩
def frOfD (fn : FuncId) (F : Func) (sl : List (Nat × SV)) (td : List SIt) (ds : List SDf) : SFr := ⟨fn, tmOf F.ntmps sl, td, ds, .run, .normal, none⟩
end
end Go.Proofs.YtjjeahnbppmigaaDoor
