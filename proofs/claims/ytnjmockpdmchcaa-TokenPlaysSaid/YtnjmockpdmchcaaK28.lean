/- A function that only reads blocks, and writes a map. No condition. -/
import Derived.Test.YtnjmockpdmchcaaK27
set_option linter.unusedVariables false
set_option linter.unusedSimpArgs false
namespace Go.Proofs.Ytnjmockpdmchcaa
section
variable {E : Env}
theorem Con.mapW (hE : EnvOk E) {g : FuncId} {fn : Func} {c : Code} {l l' : List SV} {m ms : SMem} {q : List Prop} {s0 : SV} {A : SV → SMem → Prop} {x0 : Nat} {kk : IntKind} {vk : VK} {es es' : List (Int × Int)} (h1 : E.fn g = some fn) (h2 : fn.body = some c)
    (hxs : ms.xs = [⟨x0, .mapI true kk vk es⟩]) (hx0 : x0 < ms.next) (ι : Nat → Nat) (hmx : getX m.xs (ι x0) = some (.mapI true kk vk es))
    (hm : ∀ i b, getB ms.bl i = some b → i < ms.next ∧ b.wr = false ∧ ∃ d, getB m.bl (ι i) = some d ∧ b.ty = d.ty ∧ ∀ R cs, d.arr.okM R cs → b.arr.okM (pull ι ms.next R) cs)
    (hl : ∀ R vs, All2 (SV.ok R) l vs → All2 (SV.ok (pull ι ms.next R)) l' vs) (good : (∀ p ∈ q, p) → Good E.P A ms.next [callFr g fn.ntmps l' c] ms)
    (hA : (∀ p ∈ q, p) → ∀ s m', A s m' → getX m'.xs x0 = some (.mapI true kk vk es')) (hs : ∀ s m' R R' v, A s m' → s.ok R' v → s0.ok R v) :
    Con E g l m (needs q (.ret s0 ⟨m.next, m.bl, putX m.xs (ι x0) (.mapI true kk vk es')⟩)) := by
  intro B hB
  obtain ⟨hq, hAq⟩ := Tree.sat_needs hB
  refine ⟨fn, h1, by rw [h2]; rfl, fun n0 F w0 w R args ha hR => ?_⟩
  have pull_some : ∀ {i x}, pull ι ms.next R i = some x → i < ms.next ∧ R (ι i) = some x := by
    intro i x h
    unfold pull at h
    split at h
    · rename_i h1; exact ⟨h1, h⟩
    · cases h
  obtain ⟨gx, ox, hgx, hox, hokx, hownx⟩ := hR.xo _ _ hmx
  have hownx := hownx rfl
  have getS : ∀ {i x}, getX ms.xs i = some x → i = x0 ∧ x = .mapI true kk vk es := by
    intro i x h
    rw [hxs] at h
    replace h : (if Nat.beq x0 i = true then some (XO.mapI true kk vk es) else none) = some x := h
    split at h
    · rename_i e; cases h; exact ⟨(Nat.eq_of_beq_eq_true e).symm, rfl⟩
    · cases h
  have hp0 : pull ι ms.next R x0 = some gx := by unfold pull; rw [if_pos hx0]; exact hgx
  have hRs : Rel w.heap.size (fun k => gx.b = k) w (pull ι ms.next R) ms w := by
    refine ⟨fun i j x y b d h1 h2 h3 h4 h5 h6 => ?_, fun i x h => hR.lt _ _ (pull_some h).2, fun i x h => (pull_some h).1, fun i b hb => ?_, Nat.le_refl _, BelowF.refl _ _ _, fun i x hx => ?_, fun i j g h x y _ _ _ hx hy => (by rw [(getS hx).1, (getS hy).1]), fun g cs hg => ?_⟩
    · have e1 := (hm i b h4).2.1
      have e2 := (hm j d h5).2.1
      rw [e1, e2] at h6
      simp at h6
    · obtain ⟨e0, ew, d, e1, e2, e3⟩ := hm i b hb
      obtain ⟨x, cs, fz, k1, k2, k3, k4, _⟩ := hR.blk _ d e1
      refine ⟨x, cs, fz, ?_, by rw [e2]; exact k2, k3, e3 R cs k4, fun hw => by rw [ew] at hw; cases hw⟩
      unfold pull
      rw [if_pos e0]
      exact k1
    · obtain ⟨e1, e2⟩ := getS hx
      rw [e1, e2]
      exact ⟨gx, ox, hp0, hox, hokx, fun _ => .inr rfl⟩
    · obtain ⟨g1, g2, cs', ty, fz, g3, g4⟩ := hR.gl g cs hg
      refine ⟨Nat.lt_of_lt_of_le g1 hR.base, ?_, cs', ty, fz, (hR.fr.block g g1 g2).trans g3, g4⟩
      intro h
      rcases hownx with h' | h'
      · omega
      · exact g2 (h ▸ h')
  refine (answers_of_good (hE.fns _ _ h1).1 h2 (good hq) (hl R _ ha) hRs).mono ?_
  rintro v w' ⟨s, m', R', k1, hX, hR', hv⟩
  obtain ⟨gx', ox', hgx', hox', hokx', _⟩ := hR'.xo _ _ (hA hq _ _ k1)
  have egx : gx' = gx := by
    have := hX.1 _ _ hp0
    rw [hgx'] at this
    exact Option.some.inj this
  subst egx
  have hcells : ∀ {i b}, getB m.bl i = some b → ∀ {x : Loc}, R i = some x → gx'.b ≠ x.b := by
    intro i b hb x hx e
    obtain ⟨x', cs, fz, k1, k2, _⟩ := hR.blk i b hb
    rw [hx] at k1
    cases k1
    rw [← e, hox] at k2
    cases k2
    exact XO.not_cells hokx rfl
  refine ⟨s0, ⟨m.next, m.bl, putX m.xs (ι x0) (.mapI true kk vk es')⟩, R, hAq, ⟨fun _ _ h => h, fun _ _ h => .inl h, hX.2.2.1, Nat.le_refl _⟩, ?_, hs _ _ _ _ _ k1 hv⟩
  refine ⟨hR.inj, fun i g h => Nat.lt_of_lt_of_le (hR.lt _ _ h) hX.2.2.1, hR.nx, fun i b hb => ?_, Nat.le_trans hR.base hX.2.2.1, ?_, fun i x hx => ?_, fun i j gi gj x y hi hj hg hx hy => ?_, hR.gl⟩
  · obtain ⟨x, cs, fz, k1, k2, k3⟩ := hR.blk i b hb
    exact ⟨x, cs, fz, k1, (hR'.fr.block x.b (hR.lt _ _ k1) (hcells hb k1)).trans k2, k3⟩
  · refine hR.fr.trans ⟨hR'.fr.os, hR'.fr.tape, hR'.fr.output, hR'.fr.size, fun k hk hf => hR'.fr.block k (by have := hR.base; omega) (fun h => ?_), fun k cs ty fz hk hc => hR'.fr.froz k cs ty fz (by have := hR.base; omega) hc⟩
    rcases hownx with h' | h'
    · omega
    · exact hf (h ▸ h')
  · replace hx : getX (putX m.xs (ι x0) (.mapI true kk vk es')) i = some x := hx
    rw [getX_put] at hx
    split at hx
    · rename_i e
      subst e
      rw [hmx] at hx
      cases hx
      exact ⟨gx', ox', hgx, hox', (show XO.ok R (.mapI true kk vk es') ox' from hokx'), fun _ => hownx⟩
    · rename_i hne
      obtain ⟨g, o, k1, k2, k3, k4⟩ := hR.xo i x hx
      exact ⟨g, o, k1, (hR'.fr.block g.b (hR.lt _ _ k1) (fun h => hne (hR.xi i (ι x0) _ _ _ _ k1 hgx h.symm hx hmx))).trans k2, k3, k4⟩
  · have old : ∀ {i z}, getX (putX m.xs (ι x0) (.mapI true kk vk es')) i = some z → ∃ z', getX m.xs i = some z' := by
      intro i z hz
      rw [getX_put] at hz
      split at hz
      · rename_i e; exact ⟨_, e ▸ hmx⟩
      · exact ⟨z, hz⟩
    obtain ⟨x', hx'⟩ := old hx
    obtain ⟨y', hy'⟩ := old hy
    exact hR.xi i j _ _ x' y' hi hj hg hx' hy'
end
end Go.Proofs.Ytnjmockpdmchcaa
