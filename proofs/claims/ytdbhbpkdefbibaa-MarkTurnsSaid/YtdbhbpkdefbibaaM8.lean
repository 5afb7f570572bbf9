/- Of mark: Free, Holder; contracts of what uses no memory. No condition. -/
import Derived.Test.YtdbhbpkdefbibaaM7
namespace Go.Proofs.Ytdbhbpkdefbibaa

theorem all2_any {R R' : Ren} : ∀ {l : List SV} {vs : List Value}, (∀ s ∈ l, noIds s = true) → All2 (SV.ok R) l vs → All2 (SV.ok R') l vs
  | [], [], _, h => h
  | _ :: _, _ :: _, hn, h => ⟨ok_any (hn _ (List.mem_cons_self ..)) h.1, all2_any (fun x hx => hn x (List.mem_cons_of_mem _ hx)) h.2⟩
  | [], _ :: _, _, h => h.elim
  | _ :: _, [], _, h => h.elim
/-- A function of plain values. -/
theorem pure_ok {P : Program} {g : FuncId} {fn : Func} {c : Code} (hg : P.funcs[g]? = some fn) (hc : fn.body = some c) {l : List SV} {s0 : SV}
    (good : Good P (fun s m => s = s0 ∧ m = ⟨0, []⟩) ⟨g, padN fn.ntmps (l.map some), [.code c], 0⟩ ⟨0, []⟩) (hn : ∀ s ∈ l, noIds s = true) (h0 : noIds s0 = true)
    {A : SV → SMem → Prop} {m : SMem} (hA : A s0 m) {n0 : Nat} {F : Nat → Prop} {w0 w : World} {R : Ren} {args : Array Value}
    (hl : All2 (SV.ok R) l args.toList) (hR : Rel n0 F w0 R m w) : Answers P g args w fun u w' => ∃ s m' R', A s m' ∧ ExtN w w' m.next m'.next R R' ∧ Rel n0 F w0 R' m' w' ∧ s.ok R' u := by
  refine (frame_ro (P := P) (ms := ⟨0, []⟩) hg hc good (ι := fun i => i) (m := m) (fun i b hb => by cases hb) (all2_any hn hl) hR).mono ?_
  rintro u w' ⟨h1, h2, s, m', R', ⟨rfl, _⟩, h3⟩
  exact ⟨_, m, R, hA, ExtN.same _ R h2, h1, ok_any h0 h3⟩

def two (cs : Array Value) (s : Int) : List SV := [agg cs, i64 (.o s)]
def three (cs : Array Value) (s t : Int) : List SV := [agg cs, i64 (.o s), i64 (.o t)]
theorem three_no (cs : Array Value) (s t : Int) : ∀ x ∈ three cs s t, noIds x = true := by
  intro x hx
  simp only [three, List.mem_cons, List.not_mem_nil, or_false] at hx
  rcases hx with rfl | rfl | rfl <;> rfl
theorem two_no (cs : Array Value) (s : Int) : ∀ x ∈ two cs s, noIds x = true := by
  intro x hx
  simp only [two, List.mem_cons, List.not_mem_nil, or_false] at hx
  rcases hx with rfl | rfl <;> rfl

/-! Free. -/
def freeOn (s t : Int) : Bool := decide (0 ≤ s ∧ s < 32 ∧ 0 ≤ t)
def freeM (cs : Array Value) (s t : Int) : Array Value :=
  if freeOn s t then mk (freeH (hOf cs) s.toNat t.toNat) (lOf cs) else cs
def fr1 (cs : Array Value) (o : Nat) : Array Value := cs.setIfInBounds (o + 0) (.bool false)
def fr2 (cs : Array Value) (o : Nat) : Array Value := (fr1 cs o).setIfInBounds (o + 1) (.int .u8 0)
def fEnd (Y X : Array Value) : Prop := (Y.size = 352 ∧ True) ∧ (Y.size = 352 ∧ Y.size = 352 ∧ True) ∧ (Y.size = 352 ∧ True) ∧ X = Y ∧ True
noncomputable def freeF (cs : Array Value) (s t : Int) (X : Array Value) (p : List Bool) : Prop :=
  (run E3 1000 ⟨7, padN Try.f7.ntmps ((three cs s t).map some), [.code (Try.f7.body.getD .skip)], 0⟩ ⟨0, []⟩).follow (retOk 0 [] (agg X) ⟨0, []⟩) (fun _ _ => False) p
section
variable (cs X : Array Value) (s t : Int)
theorem free_n1 : freeF cs s t X [false] = ((cs.size = 352 ∧ True) ∧ (decide (s ≥ 0) == true) = false ∧ fEnd cs X) := by kernel_rfl
theorem free_n2 : freeF cs s t X [true, false] = ((cs.size = 352 ∧ True) ∧ (decide (s ≥ 0) == true) = true ∧ ((!decide (s < 32)) == false) = false ∧ fEnd cs X) := by kernel_rfl
theorem free_n3 : freeF cs s t X [true, true, true] = ((cs.size = 352 ∧ True) ∧ (decide (s ≥ 0) == true) = true ∧ ((!decide (s < 32)) == false) = true ∧ ((0 ≤ s ∧ s < (32 : Nat)) ∧ True) ∧ (IsBool cs (so s + 0) ∧ True) ∧
    (!boolAt cs (so s + 0)) = true ∧ fEnd cs X) := by kernel_rfl
theorem free_n4 : freeF cs s t X [true, true, false, false] = ((cs.size = 352 ∧ True) ∧ (decide (s ≥ 0) == true) = true ∧ ((!decide (s < 32)) == false) = true ∧ ((0 ≤ s ∧ s < (32 : Nat)) ∧ True) ∧ (IsBool cs (so s + 0) ∧ True) ∧
    (!boolAt cs (so s + 0)) = false ∧ ((0 ≤ s ∧ s < (32 : Nat)) ∧ True) ∧ (IsInt .u8 cs (so s + 1) ∧ True) ∧ (IntKind.i64.wrap (intAt cs (so s + 1)) == t) = false ∧ fEnd cs X) := by kernel_rfl
theorem free_y : freeF cs s t X [true, true, false, true] = ((cs.size = 352 ∧ True) ∧ (decide (s ≥ 0) == true) = true ∧ ((!decide (s < 32)) == false) = true ∧ ((0 ≤ s ∧ s < (32 : Nat)) ∧ True) ∧ (IsBool cs (so s + 0) ∧ True) ∧
    (!boolAt cs (so s + 0)) = false ∧ ((0 ≤ s ∧ s < (32 : Nat)) ∧ True) ∧ (IsInt .u8 cs (so s + 1) ∧ True) ∧ (IntKind.i64.wrap (intAt cs (so s + 1)) == t) = true ∧
    ((0 ≤ s ∧ s < (32 : Nat)) ∧ True) ∧ (so s + 0 < cs.size ∧ True) ∧ ((0 ≤ s ∧ s < (32 : Nat)) ∧ True) ∧ (so s + 1 < (fr1 cs (so s)).size ∧ True) ∧ fEnd (fr2 cs (so s)) X) := by kernel_rfl
end
section
variable {h : Nat → Option Nat} {l : Nat → List Nat}
theorem fEnd_mk {Y X : Array Value} {h' : Nat → Option Nat} {l' : Nat → List Nat} (hY : Y = mk h' l') (hX : X = mk h' l') : fEnd Y X := by
  have e : Y.size = 352 := by rw [hY, mk_size]
  exact ⟨⟨e, trivial⟩, ⟨e, e, trivial⟩, ⟨e, trivial⟩, hX.trans hY.symm, trivial⟩
theorem fr2_mk {i : Nat} (hi : i < 32) : fr2 (mk h l) (i * 11) = mk (upd h i none) l := set_has hi none
theorem ge0 {s : Int} (h1 : 0 ≤ s) : (decide (s ≥ 0) == true) = true := by simp [h1]
theorem not_ge0 {s : Int} (h1 : ¬ 0 ≤ s) : (decide (s ≥ 0) == true) = false := by simp [h1]
theorem lt32 {s : Int} (h1 : s < 32) : ((!decide (s < 32)) == false) = true := by simp [h1]
theorem not_lt32 {s : Int} (h1 : ¬ s < 32) : ((!decide (s < 32)) == false) = false := by simp [h1]
theorem free_good (F : Fine h l) (s t : Int) : Good Try.prog (fun sv m => sv = agg (freeM (mk h l) s t) ∧ m = ⟨0, []⟩) ⟨7, padN Try.f7.ntmps ((three (mk h l) s t).map some), [.code (Try.f7.body.getD .skip)], 0⟩ ⟨0, []⟩ := by
  have way : ∀ {p V}, freeF (mk h l) s t (freeM (mk h l) s t) p = V → V → _ := fun {p V} e hV =>
    Good.ret (s0m := ⟨0, []⟩) (s0 := agg (freeM (mk h l) s t)) [] (run_way E3_ok 1000 (A' := retOk 0 [] (agg (freeM (mk h l) s t)) ⟨0, []⟩) e hV (fun _ _ h => h) (fun _ _ h => h.elim))
  have hsz : (mk h l).size = 352 ∧ True := ⟨mk_size h l, trivial⟩
  have off : ¬ (0 ≤ s ∧ s < 32 ∧ 0 ≤ t) → freeM (mk h l) s t = mk h l := fun hc => by
    have e : freeOn s t = false := by unfold freeOn; exact decide_eq_false hc
    unfold freeM
    rw [e, if_neg (by decide)]
  by_cases h1 : 0 ≤ s
  case neg => exact way (free_n1 _ _ _ _) ⟨hsz, not_ge0 h1, fEnd_mk rfl (off (by omega))⟩
  by_cases h2 : s < 32
  case neg => exact way (free_n2 _ _ _ _) ⟨hsz, ge0 h1, not_lt32 h2, fEnd_mk rfl (off (by omega))⟩
  obtain ⟨i, rfl⟩ := Int.eq_ofNat_of_zero_le h1
  have hi : i < 32 := by omega
  have hr : (0 ≤ (i : Int) ∧ (i : Int) < (32 : Nat)) ∧ True := ⟨⟨by omega, by omega⟩, trivial⟩
  have hisb : IsBool (mk h l) (so (i : Int) + 0) := by rw [so_at]; exact isBool_of (bool_has hi)
  have hist : IsInt .u8 (mk h l) (so (i : Int) + 1) := by rw [so_at]; exact isInt_of (int_task hi)
  have hbool : boolAt (mk h l) (so (i : Int) + 0) = (h i).isSome := by rw [so_at]; exact boolAt_of (bool_has hi)
  have htask : intAt (mk h l) (so (i : Int) + 1) = ((h i).getD 0 : Nat) := by rw [so_at]; exact intAt_of (int_task hi)
  have on : 0 ≤ t → freeM (mk h l) i t = mk (freeH h i t.toNat) l := fun ht => by
    have e : freeOn i t = true := by unfold freeOn; exact decide_eq_true (by omega)
    unfold freeM
    rw [e, hOf_eq F, lOf_eq F, if_pos rfl, Int.toNat_natCast]
  have self : (∀ x : Nat, h i = some x → ¬ (x : Int) = t) → freeM (mk h l) i t = mk h l := fun hx => by
    by_cases ht : 0 ≤ t
    · rw [on ht]
      unfold freeH
      rw [if_neg]
      intro e
      exact hx _ e (by omega)
    · exact off (by omega)
  cases hh : h i with
  | none =>
    rw [hh] at hbool
    exact way (free_n3 _ _ _ _) ⟨hsz, ge0 h1, lt32 h2, hr, ⟨hisb, trivial⟩, by rw [hbool]; rfl, fEnd_mk rfl (self fun x e => by rw [hh] at e; cases e)⟩
  | some x =>
    rw [hh] at hbool htask
    have hx := F.has i x hh
    have htask : intAt (mk h l) (so (i : Int) + 1) = (x : Nat) := htask
    have hw : IntKind.i64.wrap (intAt (mk h l) (so (i : Int) + 1)) = (x : Nat) := by rw [htask, wrap64_of (by omega) (by omega)]
    by_cases e : (x : Int) = t
    · have e1 : h i = some t.toNat := by rw [hh, show t.toNat = x by omega]
      refine way (free_y _ _ _ _) ⟨hsz, ge0 h1, lt32 h2, hr, ⟨hisb, trivial⟩, by rw [hbool]; rfl, hr, ⟨hist, trivial⟩, by rw [hw]; simp [e], hr, ⟨by rw [so_at, mk_size]; omega, trivial⟩, hr,
        ⟨by unfold fr1; rw [so_at, Array.size_setIfInBounds, mk_size]; omega, trivial⟩, fEnd_mk (by rw [so_at]; exact fr2_mk hi) ?_⟩
      rw [on (by omega)]
      unfold freeH
      rw [if_pos e1]
    · refine way (free_n4 _ _ _ _) ⟨hsz, ge0 h1, lt32 h2, hr, ⟨hisb, trivial⟩, by rw [hbool]; rfl, hr, ⟨hist, trivial⟩, by rw [hw]; simp [e], fEnd_mk rfl (self fun y ey => ?_)⟩
      rw [hh] at ey
      cases ey
      exact e
end

/-! Holder. -/
def holdB (cs : Array Value) (s : Int) : Bool := decide (0 ≤ s ∧ s < 32) && (hOf cs s.toNat).isSome
def holdV (cs : Array Value) (s : Int) : Int := if holdB cs s then ((hOf cs s.toNat).getD 0 : Nat) else 0
def holdR (v : Int) (b : Bool) : SV := .tup [.c (.f (.int .i64 (.o v))), .c (.f (.bool (.o b)))]
noncomputable def holdF (cs : Array Value) (s v : Int) (b : Bool) (p : List Bool) : Prop :=
  (run E3 1000 ⟨14, padN Try.f14.ntmps ((two cs s).map some), [.code (Try.f14.body.getD .skip)], 0⟩ ⟨0, []⟩).follow (retOk 0 [] (holdR v b) ⟨0, []⟩) (fun _ _ => False) p
section
variable (cs : Array Value) (s v : Int) (b : Bool)
theorem hold_n1 : holdF cs s v b [false] = ((decide (s ≥ 0) == true) = false ∧ v = 0 ∧ b = false ∧ True) := by kernel_rfl
theorem hold_n2 : holdF cs s v b [true, false] = ((decide (s ≥ 0) == true) = true ∧ ((!decide (s < 32)) == false) = false ∧ v = 0 ∧ b = false ∧ True) := by kernel_rfl
theorem hold_n3 : holdF cs s v b [true, true, true] = ((decide (s ≥ 0) == true) = true ∧ ((!decide (s < 32)) == false) = true ∧ ((0 ≤ s ∧ s < (32 : Nat)) ∧ True) ∧ (IsBool cs (so s + 0) ∧ True) ∧ (!boolAt cs (so s + 0)) = true ∧ v = 0 ∧ b = false ∧ True) := by kernel_rfl
theorem hold_y : holdF cs s v b [true, true, false] = ((decide (s ≥ 0) == true) = true ∧ ((!decide (s < 32)) == false) = true ∧ ((0 ≤ s ∧ s < (32 : Nat)) ∧ True) ∧ (IsBool cs (so s + 0) ∧ True) ∧ (!boolAt cs (so s + 0)) = false ∧
    ((0 ≤ s ∧ s < (32 : Nat)) ∧ True) ∧ (IsInt .u8 cs (so s + 1) ∧ True) ∧ v = IntKind.i64.wrap (intAt cs (so s + 1)) ∧ b = true ∧ True) := by kernel_rfl
end
section
variable {h : Nat → Option Nat} {l : Nat → List Nat}
theorem hold_good (F : Fine h l) (s : Int) : Good Try.prog (fun sv m => sv = holdR (holdV (mk h l) s) (holdB (mk h l) s) ∧ m = ⟨0, []⟩) ⟨14, padN Try.f14.ntmps ((two (mk h l) s).map some), [.code (Try.f14.body.getD .skip)], 0⟩ ⟨0, []⟩ := by
  have way : ∀ {p V}, holdF (mk h l) s (holdV (mk h l) s) (holdB (mk h l) s) p = V → V → _ := fun {p V} e hV =>
    Good.ret (s0m := ⟨0, []⟩) (s0 := holdR (holdV (mk h l) s) (holdB (mk h l) s)) [] (run_way E3_ok 1000 (A' := retOk 0 [] (holdR (holdV (mk h l) s) (holdB (mk h l) s)) ⟨0, []⟩) e hV (fun _ _ h => h) (fun _ _ h => h.elim))
  have off : holdB (mk h l) s = false → holdV (mk h l) s = 0 := fun e => by unfold holdV; rw [e]; rfl
  by_cases h1 : 0 ≤ s
  case neg =>
    have e : holdB (mk h l) s = false := by unfold holdB; rw [decide_eq_false (by omega)]; rfl
    exact way (hold_n1 _ _ _ _) ⟨not_ge0 h1, off e, e, trivial⟩
  by_cases h2 : s < 32
  case neg =>
    have e : holdB (mk h l) s = false := by unfold holdB; rw [decide_eq_false (by omega)]; rfl
    exact way (hold_n2 _ _ _ _) ⟨ge0 h1, not_lt32 h2, off e, e, trivial⟩
  obtain ⟨i, rfl⟩ := Int.eq_ofNat_of_zero_le h1
  have hi : i < 32 := by omega
  have hr : (0 ≤ (i : Int) ∧ (i : Int) < (32 : Nat)) ∧ True := ⟨⟨by omega, by omega⟩, trivial⟩
  have hisb : IsBool (mk h l) (so (i : Int) + 0) := by rw [so_at]; exact isBool_of (bool_has hi)
  have hist : IsInt .u8 (mk h l) (so (i : Int) + 1) := by rw [so_at]; exact isInt_of (int_task hi)
  have hbool : boolAt (mk h l) (so (i : Int) + 0) = (h i).isSome := by rw [so_at]; exact boolAt_of (bool_has hi)
  have htask : intAt (mk h l) (so (i : Int) + 1) = ((h i).getD 0 : Nat) := by rw [so_at]; exact intAt_of (int_task hi)
  have hB : holdB (mk h l) i = (h i).isSome := by
    unfold holdB
    rw [decide_eq_true (by omega), hOf_eq F, Bool.true_and, Int.toNat_natCast]
  cases hh : h i with
  | none =>
    rw [hh] at hbool hB
    exact way (hold_n3 _ _ _ _) ⟨ge0 h1, lt32 h2, hr, ⟨hisb, trivial⟩, by rw [hbool]; rfl, off hB, hB, trivial⟩
  | some x =>
    rw [hh] at hbool hB htask
    have hx := F.has i x hh
    have htask : intAt (mk h l) (so (i : Int) + 1) = (x : Nat) := htask
    have hw : IntKind.i64.wrap (intAt (mk h l) (so (i : Int) + 1)) = (x : Nat) := by rw [htask, wrap64_of (by omega) (by omega)]
    refine way (hold_y _ _ _ _) ⟨ge0 h1, lt32 h2, hr, ⟨hisb, trivial⟩, by rw [hbool]; rfl, hr, ⟨hist, trivial⟩, ?_, hB, trivial⟩
    unfold holdV
    rw [hB, hw, hOf_eq F, Int.toNat_natCast, hh]
    rfl
end
end Go.Proofs.Ytdbhbpkdefbibaa
