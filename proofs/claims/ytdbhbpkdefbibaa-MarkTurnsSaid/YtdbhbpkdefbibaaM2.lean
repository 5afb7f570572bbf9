/- Of mark: where a task waits. No condition. -/
import Derived.Test.YtdbhbpkdefbibaaE
import Derived.Test.YtdbhbpkdefbibaaK14
import Derived.Test.YtdbhbpkdefbibaaM1
import Derived.IntWalk
namespace Go.Proofs.Ytdbhbpkdefbibaa

noncomputable def E1 : Env := ⟨Try.prog, fnOf, fun _ _ _ => none, fun _ i => isLoop i⟩
theorem E1_ok : EnvOk E1 := ⟨fn_ok, (fun _ _ _ _ _ h => by cases h), mixed⟩

/-- Where a task waits; below 0: it does not. -/
def placeOf (cs : Array Value) (o : Nat) (t : Int) : Int :=
  match (List.range (intAt cs (o + 2)).toNat).find? (fun j => intAt cs (o + 3 + j) == t) with
  | some j => j
  | none => -1
noncomputable def placeTodo : List Item := (run E1 1000 ⟨22, padN Try.f22.ntmps [some (ptr 0 (.o 0)), some (i64 (.o 0))], [.code (Try.f22.body.getD .skip)], 1⟩ ⟨1, [⟨0, .op #[], 29, false⟩]⟩).todo
noncomputable def placeI (off : Nat) (t : Int) (n k : Nat) (td : List Item) : SFr :=
  ⟨22, tmOf 27 [(1, i64 (.o t)), (14, .s (.c (.f (.slice 0 (.o (off + 3)) (.o n) .any)))), (15, i64 (.o n)), (16, i64 (.o k))], td, 1⟩
def oneM (cs : Array Value) (ty : TypeId) : SMem := ⟨1, [⟨0, .op cs, ty, false⟩]⟩
theorem place_vc0 (off : Nat) (t : Int) (cs : Array Value) (ty : TypeId) : Tree.vc (fun _ _ => False) (subOk [] (placeI off t (intAt cs (off + 2)).toNat 0 placeTodo) (oneM cs ty))
    (run E1 1000 ⟨22, padN Try.f22.ntmps [some (ptr 0 (.o off)), some (i64 (.o t))], [.code (Try.f22.body.getD .skip)], 1⟩ (oneM cs ty)) =
    ((IsInt .u8 cs (off + 2) ∧ 0 ≤ intAt cs (off + 2) ∧ (intAt cs (off + 2)).toNat ≤ 8 ∧ True) ∧
      TodoOk placeTodo placeTodo ∧ t = t ∧ off + 3 = off + 3 ∧ (intAt cs (off + 2)).toNat = (intAt cs (off + 2)).toNat - 0 ∧ ((intAt cs (off + 2)).toNat : Int) = ((intAt cs (off + 2)).toNat - 0 : Nat) ∧ ((0 : Nat) : Int) = 0 ∧ ty = ty ∧ cs = cs ∧ True) := by
  kernel_rfl
theorem place_vc1 (off : Nat) (t p : Int) (cs : Array Value) (ty : TypeId) (n k : Nat) (C : Prop) : Tree.vc (retOk 1 [] (i64 (.o p)) (oneM cs ty)) (fun f m => C ∧ subOk [] (placeI off t n (k + 1) (headL placeTodo)) (oneM cs ty) f m)
    (stepT E1.go (run E1 1000) (placeI off t n k (headL placeTodo)) (oneM cs ty) (placeI off t n k (headL placeTodo)).todo) =
    ((decide ((k : Int) < n) = true → ((0 ≤ (k : Int) ∧ (k : Int) < n) ∧ True) ∧ (IsInt .u8 cs (off + 3 + (k : Int).toNat * 1) ∧ True) ∧
        ((IntKind.i64.wrap (intAt cs (off + 3 + (k : Int).toNat * 1)) == t) = true → p = k ∧ ty = ty ∧ cs = cs ∧ True) ∧
        ((IntKind.i64.wrap (intAt cs (off + 3 + (k : Int).toNat * 1)) == t) = false →
          C ∧ TodoOk (headL placeTodo) (headL placeTodo) ∧ t = t ∧ off + 3 = off + 3 ∧ n = n ∧ (n : Int) = n ∧ ((k + 1 : Nat) : Int) = IntKind.i64.wrap (k + 1) ∧ ty = ty ∧ cs = cs ∧ True)) ∧
      (decide ((k : Int) < n) = false → p = -1 ∧ ty = ty ∧ cs = cs ∧ True)) := by
  kernel_rfl
theorem wrap64_of {n : Int} (h1 : -9223372036854775808 ≤ n) (h2 : n ≤ 9223372036854775807) : IntKind.i64.wrap n = n := IntWalk.i64_in _ (by omega)

/-- What place asks of its cells. -/
def Places (cs : Array Value) (o : Nat) : Prop := IsInt .u8 cs (o + 2) ∧ 0 ≤ intAt cs (o + 2) ∧ intAt cs (o + 2) ≤ 8 ∧ ∀ j, j < 8 → IsInt .u8 cs (o + 3 + j) ∧ 0 ≤ intAt cs (o + 3 + j) ∧ intAt cs (o + 3 + j) < 256
theorem place_good {off : Nat} {t : Int} {cs : Array Value} {ty : TypeId} (hp : Places cs off) :
    Good Try.prog (fun s m => s = i64 (.o (placeOf cs off t)) ∧ m = oneM cs ty) ⟨22, padN Try.f22.ntmps [some (ptr 0 (.o off)), some (i64 (.o t))], [.code (Try.f22.body.getD .skip)], 1⟩ (oneM cs ty) := by
  obtain ⟨p1, p2, p3, p4⟩ := hp
  have loop : ∀ r k, k + r = (intAt cs (off + 2)).toNat → (∀ j, j < k → ¬ intAt cs (off + 3 + j) = t) →
      Good Try.prog (retOk 1 [] (i64 (.o (placeOf cs off t))) (oneM cs ty)) (placeI off t (intAt cs (off + 2)).toNat k (headL placeTodo)) (oneM cs ty) := by
    intro r
    induction r with
    | zero =>
      intro k hk hno
      refine past_vc E1_ok 1000 (place_vc1 off t (placeOf cs off t) cs ty _ k False) ⟨fun h => ?_, fun _ => ⟨?_, rfl, rfl, trivial⟩⟩ (fun _ _ h => h) (fun f m h => h.1.elim)
      · have := of_decide_eq_true h; omega
      · unfold placeOf
        have : (List.range (intAt cs (off + 2)).toNat).find? (fun j => intAt cs (off + 3 + j) == t) = none := by
          rw [List.find?_eq_none]
          intro j hj
          have := hno j (by have := List.mem_range.1 hj; omega)
          simpa using this
        rw [this]
    | succ r ih =>
      intro k hk hno
      obtain ⟨c1, c2, c3⟩ := p4 k (by omega)
      have hkk : (k : Int).toNat * 1 = k := by omega
      have hw : IntKind.i64.wrap (intAt cs (off + 3 + k)) = intAt cs (off + 3 + k) := wrap64_of (by omega) (by omega)
      refine past_vc E1_ok 1000 (place_vc1 off t (placeOf cs off t) cs ty _ k (¬ intAt cs (off + 3 + k) = t))
        ⟨fun _ => ⟨⟨⟨by omega, by omega⟩, trivial⟩, ⟨by rw [hkk]; exact c1, trivial⟩, fun h => ⟨?_, rfl, rfl, trivial⟩, fun h => ⟨?_, rfl, rfl, rfl, rfl, rfl, (wrap64_of (by omega) (by omega)).symm, rfl, rfl, trivial⟩⟩, fun h => ?_⟩
        (fun _ _ h => h) (fun f m h => Good.of_sub h.2 (ih (k + 1) (by omega) fun j hj => ?_))
      · rw [hkk, hw] at h
        have he : intAt cs (off + 3 + k) = t := by simpa using h
        unfold placeOf
        have : (List.range (intAt cs (off + 2)).toNat).find? (fun j => intAt cs (off + 3 + j) == t) = some k := by
          rw [List.find?_range_eq_some]
          refine ⟨by simpa using he, by simp; omega, fun j hj => ?_⟩
          have := hno j hj
          simpa using this
        rw [this]
      · rw [hkk, hw] at h
        simpa using h
      · have := of_decide_eq_false h; omega
      · by_cases e : j = k
        · rw [e]; exact h.1
        · exact hno j (by omega)
  have h0 := loop (intAt cs (off + 2)).toNat 0 (by omega) fun j hj => by omega
  exact Good.ret [] (run_vc E1_ok 1000 (place_vc0 off t cs ty) ⟨⟨p1, p2, by omega, trivial⟩, rfl, rfl, rfl, by omega, by omega, rfl, rfl, rfl, trivial⟩ (fun _ _ h => h.elim) (fun f m h => Good.of_sub h (Good.head h0)))

/-- Its contract, within any memory. -/
def conPlace (l : List SV) (m : SMem) : Option Tree :=
  match l with
  | [.s (.c (.f (.ptr id off))), .s (.c (.f (.int .i64 t)))] => match getB m.bl id with
    | some b => match b.arr with
      | .op cs => some (needs [Places cs off.den] (.ret (i64 (.o (placeOf cs off.den t.den))) m))
      | _ => none
    | none => none
  | _ => none
theorem conPlace_ok {l : List SV} {m : SMem} {t : Tree} {A : SV → SMem → Prop} (h : conPlace l m = some t) (hs : t.sat A (fun _ _ => False)) {n0 : Nat} {F : Nat → Prop} {w0 w : World} {R : Ren} {args : Array Value}
    (hl : All2 (SV.ok R) l args.toList) (hR : Rel n0 F w0 R m w) : Answers Try.prog 22 args w fun u w' => ∃ s m' R', A s m' ∧ ExtN w w' m.next m'.next R R' ∧ Rel n0 F w0 R' m' w' ∧ s.ok R' u := by
  unfold conPlace at h
  split at h
  case h_2 => cases h
  rename_i id off t0
  split at h
  case h_2 => cases h
  rename_i b hb
  split at h
  case h_2 => cases h
  rename_i cs harr
  cases h
  obtain ⟨hq, hA⟩ := Tree.sat_needs hs
  have hp : Places cs off.den := hq _ (List.mem_singleton.2 rfl)
  obtain ⟨g, cs', fz, k1, k2, k3, k4, k5⟩ := hR.blk id b hb
  have hid : id < m.next := hR.nx _ _ k1
  have hgood := place_good (t := t0.den) (ty := b.ty) hp
  have hbody : Try.f22.body = some (Try.f22.body.getD .skip) := rfl
  match hargs : args.toList, hl with
  | [u, v], hl =>
    have hl' : All2 (SV.ok (pull (fun _ => id) 1 R)) [ptr 0 (.o off.den), i64 (.o t0.den)] args.toList := by
      rw [hargs]
      obtain ⟨⟨x, e1, e2⟩, h2, _⟩ := hl
      exact ⟨⟨x, e1, e2⟩, h2, trivial⟩
    refine (frame_ro (P := Try.prog) (ms := oneM cs b.ty) Try.func22 hbody hgood (ι := fun _ => id) (m := m) (fun i c hc => ?_) hl' hR).mono ?_
    · obtain ⟨rfl, rfl⟩ := one_get hc
      exact ⟨Nat.zero_lt_one, rfl, b, hb, rfl, fun R cs'' h => by rw [harr] at h; exact h⟩
    · rintro u w' ⟨h1, h2, s, m', R', ⟨rfl, _⟩, h3⟩
      exact ⟨_, m, R, hA, ExtN.same _ R h2, h1, ok_any rfl h3⟩
  | [], hl => exact hl.elim
  | [_], hl => exact hl.2.elim
  | _ :: _ :: _ :: _, hl => exact hl.2.2.elim
end Go.Proofs.Ytdbhbpkdefbibaa
