/- Of mark: wakes; the law's environment. No condition. -/
import Derived.Test.YtdbhbpkdefbibaaM11
namespace Go.Proofs.Ytdbhbpkdefbibaa

theorem wakes_vc : (run E0 100000 ⟨5, padN Try.f5.ntmps [], [.code (Try.f5.body.getD .skip)], 0⟩ ⟨0, []⟩).vc (retOk 0 [] (sB (.l true)) ⟨0, []⟩) (fun _ _ => False) = True := by kernel_rfl
theorem wakes_good : Good Try.prog (fun s m => s = sB (.l true) ∧ m = ⟨0, []⟩) ⟨5, padN Try.f5.ntmps [], [.code (Try.f5.body.getD .skip)], 0⟩ ⟨0, []⟩ :=
  Good.ret [] (run_vc E0_ok 100000 wakes_vc trivial (fun _ _ h => h) (fun _ _ h => h.elim))
def conWakes (l : List SV) (m : SMem) : Option Tree :=
  match l with
  | [] => some (.ret (sB (.l true)) m)
  | _ => none
theorem conWakes_ok {l : List SV} {m : SMem} {t : Tree} {A : SV → SMem → Prop} {n0 : Nat} {F : Nat → Prop} {w0 w : World} {R : Ren} {args : Array Value}
    (h : conWakes l m = some t) (hs : t.sat A (fun _ _ => False)) (hl : All2 (SV.ok R) l args.toList) (hR : Rel n0 F w0 R m w) :
    Answers Try.prog 5 args w fun u w' => ∃ s m' R', A s m' ∧ ExtN w w' m.next m'.next R R' ∧ Rel n0 F w0 R' m' w' ∧ s.ok R' u := by
  unfold conWakes at h
  split at h
  case h_2 => cases h
  cases h
  have hbody : Try.f5.body = some (Try.f5.body.getD .skip) := rfl
  exact pure_ok Try.func5 hbody wakes_good (fun x hx => by cases hx) rfl hs hl hR

noncomputable def con5 (g : FuncId) (l : List SV) (m : SMem) : Option Tree :=
  if g = 5 then conWakes l m else if g = 7 then conFree l m else if g = 9 then conGone l m else if g = 11 then conTry l m else if g = 14 then conHold l m else if g = 15 then conWait l m else none
noncomputable def E5 : Env := ⟨Try.prog, fnOf, con5, fun _ i => isLoop i⟩
theorem E5_ok : EnvOk E5 := ⟨fn_ok, (fun g l m t A h hs => by
  replace h : con5 g l m = some t := h
  unfold con5 at h
  split at h
  · rename_i e
    subst e
    exact ⟨Try.f5, rfl, rfl, fun n0 F w0 w R args hl hR => conWakes_ok h hs hl hR⟩
  · split at h
    · rename_i e
      subst e
      exact ⟨Try.f7, rfl, rfl, fun n0 F w0 w R args hl hR => conFree_ok h hs hl hR⟩
    · split at h
      · rename_i e
        subst e
        exact ⟨Try.f9, rfl, rfl, fun n0 F w0 w R args hl hR => conGone_ok h hs hl hR⟩
      · split at h
        · rename_i e
          subst e
          exact ⟨Try.f11, rfl, rfl, fun n0 F w0 w R args hl hR => conTry_ok h hs hl hR⟩
        · split at h
          · rename_i e
            subst e
            exact ⟨Try.f14, rfl, rfl, fun n0 F w0 w R args hl hR => conHold_ok h hs hl hR⟩
          · split at h
            · rename_i e
              subst e
              exact ⟨Try.f15, rfl, rfl, fun n0 F w0 w R args hl hR => conWait_ok h hs hl hR⟩
            · cases h), mixed⟩
end Go.Proofs.Ytdbhbpkdefbibaa
