/- Of mark: leave within any memory; its callers' environment. No condition. -/
import Derived.Test.YtdbhbpkdefbibaaM4
namespace Go.Proofs.Ytdbhbpkdefbibaa

def LeaveOk (cs : Array Value) (off : Nat) (t : Int) : Prop := ∃ h l i u, Fine h l ∧ cs = mk h l ∧ i < 32 ∧ off = i * 11 ∧ t = (u : Nat)
def leaveOf (cs : Array Value) (off : Nat) (t : Int) : Array Value := mk (hOf cs) (upd (lOf cs) (off / 11) ((lOf cs (off / 11)).erase t.toNat))
theorem leaveOf_mk {h : Nat → Option Nat} {l : Nat → List Nat} (F : Fine h l) (i t : Nat) : leaveOf (mk h l) (i * 11) t = mk h (upd l i ((l i).erase t)) := by
  unfold leaveOf
  rw [hOf_eq F, lOf_eq F, show i * 11 / 11 = i by omega]
  rfl
theorem leave_good {off : Nat} {t : Int} {cs : Array Value} (ty : TypeId) (hp : LeaveOk cs off t) :
    Good Try.prog (fun s m => s = .tup [] ∧ m = oneW (leaveOf cs off t) ty) ⟨19, padN Try.f19.ntmps [some (ptr 0 (.o off)), some (i64 (.o t))], [.code (Try.f19.body.getD .skip)], 1⟩ (oneW cs ty) := by
  obtain ⟨h, l, i, t, F, rfl, hi, rfl, rfl⟩ := hp
  have hn := F.len i
  have hc : intAt (mk h l) (i * 11 + 2) = ((l i).length : Nat) := intAt_of (int_count hi)
  have hcn : (intAt (mk h l) (i * 11 + 2)).toNat = (l i).length := by rw [hc]; rfl
  rw [leaveOf_mk F]
  by_cases ht : t ∈ l i
  · have ha := idx_lt ht
    have hpl := placeOf_at F hi ht
    have hw : IntKind.i64.wrap (((l i).idxOf t : Nat) + 1 : Int) = ((l i).idxOf t + 1 : Nat) := by rw [wrap64_of (by omega) (by omega)]; omega
    have h2 := lv2_count (h := h) (l := l) hi ha hn
    have hs1 := lv1_size (h := h) (l := l) hi ha hn
    have hsx := lvX_size (h := h) (l := l) hi ha hn
    refine Good.ret [] (run_way E2_ok 1000 (leave_vc1 (i * 11) t (mk h l) (mk h (upd l i ((l i).erase t))) ty) ?_ (fun _ _ h => h) (fun _ _ h => h.elim))
    rw [hcn, hpl, hw]
    have hmin : ((l i).length - ((l i).idxOf t + 1)).min (8 - (l i).idxOf t) = (l i).length - ((l i).idxOf t + 1) := Nat.min_eq_left (by omega)
    have ea : (((l i).idxOf t : Nat) : Int).toNat = (l i).idxOf t := rfl
    have eb : (((l i).idxOf t + 1 : Nat) : Int).toNat = (l i).idxOf t + 1 := rfl
    rw [ea, eb, hmin, hsx, hs1, intAt_of h2]
    refine ⟨⟨places_mk F hi, trivial⟩, decide_eq_false (by omega), ⟨by omega, by omega, isInt_of (int_count hi), by omega, by omega, by omega, by omega, ?_, ?_, trivial⟩,
      ⟨isInt_of (lv1_count hi ha hn), trivial⟩, ⟨by omega, trivial⟩, ⟨isInt_of h2, ⟨by omega, by omega⟩, ?_, trivial⟩, rfl, (lv3_mk F hi ht).symm, trivial⟩
    · rw [mk_size]; unfold lvS; split <;> omega
    · rw [mk_size]; unfold lvS; split <;> omega
    · unfold lv2
      rw [Array.size_setIfInBounds, hs1]
      omega
  · have hpl := placeOf_not F hi ht
    refine Good.ret [] (run_way E2_ok 1000 (leave_vc0 (i * 11) t (mk h l) (mk h (upd l i ((l i).erase t))) ty) ?_ (fun _ _ h => h) (fun _ _ h => h.elim))
    rw [hpl]
    refine ⟨⟨places_mk F hi, trivial⟩, rfl, rfl, ?_, trivial⟩
    rw [List.erase_of_not_mem ht, upd_self]

def conLeave (l : List SV) (m : SMem) : Option Tree :=
  match l with
  | [.s (.c (.f (.ptr id off))), .s (.c (.f (.int .i64 t)))] => match getB m.bl id with
    | some b => match b.arr, b.wr with
      | .op cs, true => some (needs [LeaveOk cs off.den t.den] (.ret (.tup []) ⟨m.next, ⟨id, .op (leaveOf cs off.den t.den), b.ty, true⟩ :: m.bl⟩))
      | _, _ => none
    | none => none
  | _ => none
theorem conLeave_ok {l : List SV} {m : SMem} {t : Tree} {A : SV → SMem → Prop} (h : conLeave l m = some t) (hs : t.sat A (fun _ _ => False)) {n0 : Nat} {F : Nat → Prop} {w0 w : World} {R : Ren} {args : Array Value}
    (hl : All2 (SV.ok R) l args.toList) (hR : Rel n0 F w0 R m w) : Answers Try.prog 19 args w fun u w' => ∃ s m' R', A s m' ∧ ExtN w w' m.next m'.next R R' ∧ Rel n0 F w0 R' m' w' ∧ s.ok R' u := by
  unfold conLeave at h
  split at h
  case h_2 => cases h
  rename_i id off t0
  split at h
  case h_2 => cases h
  rename_i b hb
  split at h
  case h_2 => cases h
  rename_i cs harr hwr
  cases h
  obtain ⟨hq, hA⟩ := Tree.sat_needs hs
  have hp : LeaveOk cs off.den t0.den := hq _ (List.mem_singleton.2 rfl)
  obtain ⟨g, cs', fz, k1, k2, k3, k4, k5⟩ := hR.blk id b hb
  have hid : id < m.next := hR.nx _ _ k1
  have hgood := leave_good b.ty hp
  have hbody : Try.f19.body = some (Try.f19.body.getD .skip) := rfl
  match hargs : args.toList, hl with
  | [u, v], hl =>
    have hl' : All2 (SV.ok (pull (fun _ => id) 1 R)) [ptr 0 (.o off.den), i64 (.o t0.den)] args.toList := by
      rw [hargs]
      obtain ⟨⟨x, e1, e2⟩, h2, _⟩ := hl
      exact ⟨⟨x, e1, e2⟩, h2, trivial⟩
    refine (frame (P := Try.prog) (l := [ptr 0 (.o off.den), i64 (.o t0.den)]) (ms := oneW cs b.ty) (ms' := oneW (leaveOf cs off.den t0.den) b.ty) (s0 := .tup []) Try.func19 hbody hgood (ι := fun _ => id) (m := m)
      (fun i j hi hj _ => by have hi : i < 1 := hi; have hj : j < 1 := hj; omega) (fun _ _ => hid) (fun i c hc => ?_) (fun i c hc _ => ?_) (fun i c hc _ => ?_) (show 1 ≤ 1 from Nat.le_refl 1) hl' hR).mono ?_
    · obtain ⟨rfl, rfl⟩ := one_get hc
      exact ⟨Nat.zero_lt_one, b, hb, rfl, fun _ => hwr, fun R cs'' h => by rw [harr] at h; exact h⟩
    · obtain ⟨rfl, rfl⟩ := one_get hc
      rfl
    · obtain ⟨rfl, rfl⟩ := one_get hc
      exact ⟨_, rfl, rfl⟩
    · rintro u w' ⟨R', h1, h2, h3⟩
      exact ⟨_, _, R', hA, h1, h2, h3⟩
  | [], hl => exact hl.elim
  | [_], hl => exact hl.2.elim
  | _ :: _ :: _ :: _, hl => exact hl.2.2.elim

noncomputable def E3 : Env := ⟨Try.prog, fnOf, fun g l m => if g = 19 then conLeave l m else if g = 22 then conPlace l m else none, fun _ i => isLoop i⟩
theorem E3_ok : EnvOk E3 := ⟨fn_ok, (fun g l m t A h hs => by
  replace h : (if g = 19 then conLeave l m else if g = 22 then conPlace l m else none) = some t := h
  by_cases e : g = 19
  · subst e
    rw [if_pos rfl] at h
    exact ⟨Try.f19, rfl, rfl, fun n0 F w0 w R args hl hR => conLeave_ok h hs hl hR⟩
  · rw [if_neg e] at h
    by_cases e : g = 22
    · subst e
      rw [if_pos rfl] at h
      exact ⟨Try.f22, rfl, rfl, fun n0 F w0 w R args hl hR => conPlace_ok h hs hl hR⟩
    · rw [if_neg e] at h
      cases h), mixed⟩
end Go.Proofs.Ytdbhbpkdefbibaa
