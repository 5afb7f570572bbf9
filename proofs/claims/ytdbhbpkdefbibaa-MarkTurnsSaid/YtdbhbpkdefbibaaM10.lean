/- Of mark: contracts of Try, Free, Holder, Waiting. No condition. -/
import Derived.Test.YtdbhbpkdefbibaaM9
namespace Go.Proofs.Ytdbhbpkdefbibaa

def conTry (l : List SV) (m : SMem) : Option Tree :=
  match l with
  | [.s (.agg (.op cs)), .s (.c (.f (.int .i64 s))), .s (.c (.f (.int .i64 t)))] => some (needs [IsM cs] (.ret (.tup [.agg (.op (tryM cs s.den t.den)), .c (.f (.bool (.o (tryOk cs s.den t.den))))]) m))
  | _ => none
def conFree (l : List SV) (m : SMem) : Option Tree :=
  match l with
  | [.s (.agg (.op cs)), .s (.c (.f (.int .i64 s))), .s (.c (.f (.int .i64 t)))] => some (needs [IsM cs] (.ret (agg (freeM cs s.den t.den)) m))
  | _ => none
def conHold (l : List SV) (m : SMem) : Option Tree :=
  match l with
  | [.s (.agg (.op cs)), .s (.c (.f (.int .i64 s)))] => some (needs [IsM cs] (.ret (holdR (holdV cs s.den) (holdB cs s.den)) m))
  | _ => none
section
variable {l : List SV} {m : SMem} {t : Tree} {A : SV → SMem → Prop} {n0 : Nat} {F : Nat → Prop} {w0 w : World} {R : Ren} {args : Array Value}
theorem conTry_ok (h : conTry l m = some t) (hs : t.sat A (fun _ _ => False)) (hl : All2 (SV.ok R) l args.toList) (hR : Rel n0 F w0 R m w) :
    Answers Try.prog 11 args w fun u w' => ∃ s m' R', A s m' ∧ ExtN w w' m.next m'.next R R' ∧ Rel n0 F w0 R' m' w' ∧ s.ok R' u := by
  unfold conTry at h
  split at h
  case h_2 => cases h
  cases h
  obtain ⟨hq, hA⟩ := Tree.sat_needs hs
  obtain ⟨hh, ll, hf, rfl⟩ : IsM _ := hq _ (List.mem_singleton.2 rfl)
  have hbody : Try.f11.body = some (Try.f11.body.getD .skip) := rfl
  exact pure_ok Try.func11 hbody (try_good hf _ _) (three_no _ _ _) rfl hA (all2_three hl) hR
theorem conFree_ok (h : conFree l m = some t) (hs : t.sat A (fun _ _ => False)) (hl : All2 (SV.ok R) l args.toList) (hR : Rel n0 F w0 R m w) :
    Answers Try.prog 7 args w fun u w' => ∃ s m' R', A s m' ∧ ExtN w w' m.next m'.next R R' ∧ Rel n0 F w0 R' m' w' ∧ s.ok R' u := by
  unfold conFree at h
  split at h
  case h_2 => cases h
  cases h
  obtain ⟨hq, hA⟩ := Tree.sat_needs hs
  obtain ⟨hh, ll, hf, rfl⟩ : IsM _ := hq _ (List.mem_singleton.2 rfl)
  have hbody : Try.f7.body = some (Try.f7.body.getD .skip) := rfl
  exact pure_ok Try.func7 hbody (free_good hf _ _) (three_no _ _ _) rfl hA (all2_three hl) hR
theorem conHold_ok (h : conHold l m = some t) (hs : t.sat A (fun _ _ => False)) (hl : All2 (SV.ok R) l args.toList) (hR : Rel n0 F w0 R m w) :
    Answers Try.prog 14 args w fun u w' => ∃ s m' R', A s m' ∧ ExtN w w' m.next m'.next R R' ∧ Rel n0 F w0 R' m' w' ∧ s.ok R' u := by
  unfold conHold at h
  split at h
  case h_2 => cases h
  cases h
  obtain ⟨hq, hA⟩ := Tree.sat_needs hs
  obtain ⟨hh, ll, hf, rfl⟩ : IsM _ := hq _ (List.mem_singleton.2 rfl)
  have hbody : Try.f14.body = some (Try.f14.body.getD .skip) := rfl
  exact pure_ok Try.func14 hbody (hold_good hf _) (two_no _ _) rfl hA (all2_two hl) hR
end

noncomputable def con4 (g : FuncId) (l : List SV) (m : SMem) : Option Tree :=
  if g = 19 then conLeave l m else if g = 7 then conFree l m else none
noncomputable def E4 : Env := ⟨Try.prog, fnOf, con4, fun _ i => isLoop i⟩
theorem E4_ok : EnvOk E4 := ⟨fn_ok, (fun g l m t A h hs => by
  replace h : con4 g l m = some t := h
  unfold con4 at h
  split at h
  · rename_i e
    subst e
    exact ⟨Try.f19, rfl, rfl, fun n0 F w0 w R args hl hR => conLeave_ok h hs hl hR⟩
  · split at h
    · rename_i e
      subst e
      exact ⟨Try.f7, rfl, rfl, fun n0 F w0 w R args hl hR => conFree_ok h hs hl hR⟩
    · cases h), mixed⟩
end Go.Proofs.Ytdbhbpkdefbibaa
