/- A function's contract, told of its own blocks alone, within any memory. No condition. -/
import Derived.Test.YtjjeahnbppmigaaDoorK14
set_option linter.unusedVariables false
set_option linter.unusedSimpArgs false
namespace Go.Proofs.YtjjeahnbppmigaaDoor
set_option linter.unusedSectionVars false
variable [Gh]
noncomputable section

omit [Gh] in
def mapL {α β : Type} (f : α → β) : List α → List β
  | [] => []
  | a :: l => f a :: mapL f l
omit [Gh] in
def SF.re (f : Nat → Nat) : SF → SF
  | .ptr i o => .ptr (f i) o
  | .slice i o n c => .slice (f i) o n c
  | .mp i => .mp (f i)
  | x => x
omit [Gh] in
def SC.re (f : Nat → Nat) : SC → SC
  | .f x => .f (x.re f)
  | .fn g a b => .fn g (mapL (SF.re f) a) (mapL (SF.re f) b)
  | .yl i => .yl (f i)
  | .ifc t g l => .ifc t g (mapL (SF.re f) l)
omit [Gh] in
def SA.re (f : Nat → Nat) : SA → SA
  | .ls l => .ls (mapL (SC.re f) l)
  | .pre l => .pre (mapL (SC.re f) l)
  | .patch a o x => .patch a o (x.re f)
  | a => a
omit [Gh] in
def S1.re (f : Nat → Nat) : S1 → S1
  | .c x => .c (x.re f)
  | .agg a => .agg (a.re f)
omit [Gh] in
def SV.re (f : Nat → Nat) : SV → SV
  | .s x => .s (x.re f)
  | .tup l => .tup (mapL (S1.re f) l)
omit [Gh] in
def reL (f : Nat → Nat) (bl : Tr SBlk) : List Nat → List (Nat × SBlk)
  | [] => []
  | j :: l => match getB bl j with
    | some b => (f j, ⟨b.arr.re f, b.ty, b.wr⟩) :: reL f bl l
    | none => reL f bl l
omit [Gh] in
theorem mapL_len {α β : Type} (f : α → β) : ∀ l : List α, (mapL f l).length = l.length
  | [] => rfl
  | _ :: l => by simp [mapL, mapL_len f l]
omit [Gh] in
theorem mapL_ok {α β : Type} {f : α → α} {r s : α → β → Prop} (h : ∀ a v, r a v → s (f a) v) : ∀ {l : List α} {m : List β}, All2 r l m → All2 s (mapL f l) m
  | [], [], _ => trivial
  | _ :: _, _ :: _, hl => ⟨h _ _ hl.1, mapL_ok h hl.2⟩
  | [], _ :: _, h => h.elim
  | _ :: _, [], h => h.elim
section
variable {f : Nat → Nat} {R R' : Ren} (h : ∀ i g, R i = some g → R' (f i) = some g)
include h
omit [Gh] in
theorem SF.re_ok {x : SF} {v : Value} (hx : x.ok R v) : (x.re f).ok R' v := by
  cases x with
  | ptr i o => obtain ⟨g, h1, h2⟩ := hx; exact ⟨g, h _ _ h1, h2⟩
  | slice i o n c => obtain ⟨g, k, h1, h2⟩ := hx; exact ⟨g, k, h _ _ h1, h2⟩
  | mp i => obtain ⟨g, h1, h2⟩ := hx; exact ⟨g, h _ _ h1, h2⟩
  | _ => exact hx
omit [Gh] in
theorem SC.re_ok {x : SC} {v : Value} (hx : x.ok R v) : (x.re f).ok R' v := by
  cases x with
  | f x => exact SF.re_ok h hx
  | fn g a b => obtain ⟨x, y, h1, h2, h3⟩ := hx; exact ⟨x, y, h1, mapL_ok (f := SF.re f) (fun _ _ => SF.re_ok h) h2, mapL_ok (f := SF.re f) (fun _ _ => SF.re_ok h) h3⟩
  | yl i => obtain ⟨g, h1, h2⟩ := hx; exact ⟨g, h _ _ h1, h2⟩
  | ifc t g l =>
    cases g with
    | true => obtain ⟨cs, h1, h2⟩ := hx; exact ⟨cs, h1, mapL_ok (f := SF.re f) (fun _ _ => SF.re_ok h) h2⟩
    | false => obtain ⟨u, h1, h2⟩ := hx; exact ⟨u, h1, mapL_ok (f := SF.re f) (fun _ _ => SF.re_ok h) h2⟩
omit [Gh] in
theorem SA.re_ok {x : SA} {v : Array Value} (hx : x.ok R v) : (x.re f).ok R' v := by
  cases x with
  | ls l => exact mapL_ok (r := SC.ok R) (fun _ _ => SC.re_ok h) hx
  | pre l => exact ⟨by rw [mapL_len]; exact mapL_ok (r := SC.ok R) (fun _ _ => SC.re_ok h) hx.1, hx.2⟩
  | op cs => exact hx
  | pop cs => exact hx
  | raw cs => exact hx
  | patch a o x => obtain ⟨⟨u, h1, h2⟩, h3⟩ := hx; exact ⟨⟨u, SF.re_ok h h1, h2⟩, h3⟩
omit [Gh] in
theorem SA.re_okM {x : SA} {v : Array Value} (hx : x.okM R v) : (x.re f).okM R' v := by
  cases x with
  | ls l => exact SA.re_ok h (x := .ls l) hx
  | pre l => exact SA.re_ok h (x := .pre l) hx
  | op cs => exact hx
  | pop cs => exact hx
  | raw cs => exact hx
  | patch a o x => exact SA.re_ok h (x := .patch a o x) hx
omit [Gh] in
theorem S1.re_ok {x : S1} {v : Value} (hx : x.ok R v) : (x.re f).ok R' v := by
  cases x with
  | c x => exact SC.re_ok h hx
  | agg a => obtain ⟨cs, h1, h2⟩ := hx; exact ⟨cs, h1, SA.re_ok h h2⟩
omit [Gh] in
theorem SV.re_ok {x : SV} {v : Value} (hx : x.ok R v) : (x.re f).ok R' v := by
  cases x with
  | s x => exact S1.re_ok h hx
  | tup l => obtain ⟨cs, h1, h2⟩ := hx; exact ⟨cs, h1, mapL_ok (f := S1.re f) (fun _ _ => S1.re_ok h) h2⟩
end
omit [Gh] in
theorem reL_get {f : Nat → Nat} {bl : Tr SBlk} : ∀ {l : List Nat} {i : Nat} {b : SBlk}, getL (reL f bl l) i = some b → ∃ j c, f j = i ∧ getB bl j = some c ∧ b = ⟨c.arr.re f, c.ty, c.wr⟩
  | [], _, _, h => by cases h
  | d :: l, i, b, h => by
    simp only [reL] at h
    split at h
    · rename_i c hc
      simp only [getL] at h
      split at h
      · rename_i e
        have e' : f d = i := by simpa using e
        cases h
        exact ⟨d, c, e', hc, rfl⟩
      · exact reL_get h
    · exact reL_get h
omit [Gh] in
theorem reL_none {f : Nat → Nat} {bl : Tr SBlk} {j : Nat} : ∀ {l : List Nat} {i : Nat}, getL (reL f bl l) i = none → f j = i → j ∈ l → getB bl j = none
  | [], _, _, _, hj => by cases hj
  | d :: l, i, h, e, hj => by
    simp only [reL] at h
    split at h
    · rename_i c hc
      simp only [getL] at h
      split at h
      · cases h
      · rename_i h1
        rcases List.mem_cons.1 hj with rfl | hj
        · exact (h1 (by simp [e])).elim
        · exact reL_none h e hj
    · rename_i hc
      rcases List.mem_cons.1 hj with rfl | hj
      · exact hc
      · exact reL_none h e hj

omit [Gh] in
def pull (ι : Nat → Nat) (k : Nat) (R : Ren) : Ren := fun i => if i < k then R (ι i) else none
omit [Gh] in
def push (ι : Nat → Nat) (k n : Nat) : Nat → Nat := fun i => if Nat.blt i k then ι i else n + (i - k)

theorem frame {P : Program} {g : FuncId} {fn : Func} {c : Code} {l : List SV} {ms ms' m : SMem} {s0 : SV} (hg : P.funcs[g]? = some fn) (hc : fn.body = some c)
    (good : Good P (fun s m' => s = s0 ∧ m' = ms') ms.next [callFr g fn.ntmps l c] ms) (hxs : ms.xs = []) {ι : Nat → Nat} (hinj : ∀ i j, i < ms.next → j < ms.next → ι i = ι j → i = j) (hlt : ∀ i, i < ms.next → ι i < m.next)
    (hm : ∀ i b, getB ms.bl i = some b → i < ms.next ∧ ∃ d, getB m.bl (ι i) = some d ∧ b.ty = d.ty ∧ (b.wr = true → d.wr = true) ∧ ∀ R cs, d.arr.okM R cs → b.arr.okM (pull ι ms.next R) cs)
    (hk : ∀ i b, getB ms.bl i = some b → b.wr = true → (getB ms'.bl i).isSome = true) (hs : ∀ i b, getB ms'.bl i = some b → i < ms.next → ∃ d, getB ms.bl i = some d ∧ d.wr = b.wr) (hn : ms.next ≤ ms'.next)
    {n0 : Nat} {F : Nat → Prop} {w0 w : World} {R : Ren} {args : Array Value} (hl : All2 (SV.ok (pull ι ms.next R)) l args.toList) (hR : Rel n0 F w0 R m w) :
    Answers P g args w fun v w' => ∃ R', ExtN w w' m.next (m.next + (ms'.next - ms.next)) R R' ∧ Rel n0 F w0 R' ⟨m.next + (ms'.next - ms.next), insB (reL (push ι ms.next m.next) ms'.bl ms'.bl.keys) m.bl, m.xs⟩ w' ∧ (s0.re (push ι ms.next m.next)).ok R' v := by
  have pull_some : ∀ {i x}, pull ι ms.next R i = some x → i < ms.next ∧ R (ι i) = some x := by
    intro i x h
    unfold pull at h
    split at h
    · rename_i h1; exact ⟨h1, h⟩
    · cases h
  have pull_of : ∀ {i x}, i < ms.next → R (ι i) = some x → pull ι ms.next R i = some x := by
    intro i x h1 h2
    unfold pull
    rw [if_pos h1]
    exact h2
  have hRs : Rel w.heap.size (fun k => ∃ i b x, getB ms.bl i = some b ∧ b.wr = true ∧ R (ι i) = some x ∧ x.b = k ∧ (n0 ≤ k ∨ F k)) w (pull ι ms.next R) ms w := by
    refine ⟨fun i j x y b d h1 h2 h3 h4 h5 h6 => ?_, fun i x h => hR.lt _ _ (pull_some h).2, fun i x h => (pull_some h).1, fun i b hb => ?_, Nat.le_refl _, BelowF.refl _ _ _, fun i x hx => (by rw [hxs] at hx; cases hx), fun i j g h x y _ _ _ hx => (by rw [hxs] at hx; cases hx), fun g cs hg => ?_⟩
    rotate_right
    · obtain ⟨g1, g2, cs', ty, fz, g3, g4⟩ := hR.gl g cs hg
      refine ⟨Nat.lt_of_lt_of_le g1 hR.base, ?_, cs', ty, fz, (hR.fr.block g g1 g2).trans g3, g4⟩
      rintro ⟨_, _, _, _, _, _, _, h | h⟩
      · omega
      · exact g2 h
    · obtain ⟨k1, k2⟩ := pull_some h1
      obtain ⟨k3, k4⟩ := pull_some h2
      obtain ⟨_, b', e1, _, e2, _⟩ := hm i b h4
      obtain ⟨_, d', e3, _, e4, _⟩ := hm j d h5
      exact hinj i j k1 k3 (hR.inj _ _ _ _ _ _ k2 k4 h3 e1 e3 (h6.imp e2 e4))
    · obtain ⟨e0, d, e1, e2, e3, e4⟩ := hm i b hb
      obtain ⟨x, cs, fz, k1, k2, k3, k4, k5⟩ := hR.blk _ d e1
      refine ⟨x, cs, fz, pull_of e0 k1, by rw [e2]; exact k2, k3, e4 R cs k4, fun hw => ?_⟩
      obtain ⟨k6, k7⟩ := k5 (e3 hw)
      exact ⟨.inr ⟨i, b, x, hb, hw, k1, rfl, k6⟩, k7⟩
  refine (answers_of_good hg hc good hl hRs).mono ?_
  rintro v w' ⟨s, m', R', ⟨rfl, rfl⟩, hX, hR', hv⟩
  let f := push ι ms.next m.next
  have f_old : ∀ i, i < ms.next → f i = ι i := fun i h => by
    show (if Nat.blt i ms.next then ι i else _) = _
    rw [if_pos (by simpa using h)]
  have f_new : ∀ i, ms.next ≤ i → f i = m.next + (i - ms.next) := fun i h => by
    show (if Nat.blt i ms.next then ι i else _) = _
    rw [if_neg (by simp; omega)]
  let R3 : Ren := fun i => if i < m.next then R i else R' (i - m.next + ms.next)
  have e1 : Ext R R3 := by
    intro i x h
    show (if _ then _ else _) = _
    rw [if_pos (hR.nx _ _ h)]
    exact h
  have hcase : ∀ {i x}, R3 i = some x → (i < m.next ∧ R i = some x) ∨ (m.next ≤ i ∧ R' (i - m.next + ms.next) = some x ∧ w.heap.size ≤ x.b ∧ i < m.next + (m'.next - ms.next)) := by
    intro i x h
    replace h : (if i < m.next then R i else R' (i - m.next + ms.next)) = some x := h
    split at h
    · rename_i h1; exact .inl ⟨h1, h⟩
    · rename_i h1
      have h2 := hR'.nx _ _ h
      rcases hX.2.1 _ _ h with h3 | ⟨h3, _⟩
      · have := (pull_some h3).1; omega
      · exact .inr ⟨by omega, h, h3, by omega⟩
  have e2 : ∀ i x, R' i = some x → R3 (f i) = some x := by
    intro i x h
    by_cases hi : i < ms.next
    · rw [f_old i hi]
      rcases hX.2.1 _ _ h with h3 | ⟨_, h3⟩
      · exact e1 _ _ (pull_some h3).2
      · omega
    · rw [f_new i (by omega)]
      show (if _ then _ else _) = _
      rw [if_neg (by omega)]
      have e : m.next + (i - ms.next) - m.next + ms.next = i := by omega
      rw [e]
      exact h
  have see : ∀ {i b}, getB (insB (reL f m'.bl m'.bl.keys) m.bl) i = some b → (∃ j d, f j = i ∧ getB m'.bl j = some d ∧ b = ⟨d.arr.re f, d.ty, d.wr⟩) ∨ ((∀ j, f j = i → getB m'.bl j = none) ∧ getB m.bl i = some b) := by
    intro i b h
    rw [insB_get] at h
    cases hq : getL (reL f m'.bl m'.bl.keys) i with
    | some x =>
      rw [hq] at h
      cases h
      exact .inl (reL_get hq)
    | none =>
      rw [hq] at h
      refine .inr ⟨fun j hj => ?_, h⟩
      cases hg : getB m'.bl j with
      | none => rfl
      | some d =>
        have := reL_none hq hj (Tr.mem_keys hg)
        rw [hg] at this
        exact this
  refine ⟨R3, ⟨e1, fun i x h => ?_, hX.2.2.1, by omega⟩, ⟨?_, ?_, ?_, ?_, Nat.le_trans hR.base hX.2.2.1, ?_, ?_, ?_, hR.gl⟩, SV.re_ok e2 hv⟩
  · rcases hcase h with ⟨_, h⟩ | ⟨h1, _, h2, _⟩
    · exact .inl h
    · exact .inr ⟨h2, h1⟩
  · intro i j x y b d hi hj hxy hb hd hw
    have old : ∀ {i b}, getB (insB (reL f m'.bl m'.bl.keys) m.bl) i = some b → i < m.next → ∃ b', getB m.bl i = some b' ∧ (b.wr = true → b'.wr = true) := by
      intro i b hb hi
      rcases see hb with ⟨j, d, h1, h2, rfl⟩ | ⟨_, h⟩
      · have hj : j < ms.next := by
          rcases Nat.lt_or_ge j ms.next with h | h
          · exact h
          · rw [f_new j h] at h1; omega
        obtain ⟨d', k1, k2⟩ := hs j d h2 hj
        obtain ⟨_, d2, k3, _, k4, _⟩ := hm j d' k1
        rw [f_old j hj] at h1
        exact ⟨d2, by rw [← h1]; exact k3, fun hw => k4 (by rw [k2]; exact hw)⟩
      · exact ⟨b, h, id⟩
    have new : ∀ {i b}, getB (insB (reL f m'.bl m'.bl.keys) m.bl) i = some b → m.next ≤ i → (∃ x, R' (i - m.next + ms.next) = some x) → ∃ d, getB m'.bl (i - m.next + ms.next) = some d ∧ d.wr = b.wr := by
      intro i b hb hi _
      rcases see hb with ⟨j, d, h1, h2, rfl⟩ | ⟨_, h⟩
      · have hj : ms.next ≤ j := by
          rcases Nat.lt_or_ge j ms.next with h | h
          · rw [f_old j h] at h1
            have := hlt j h
            omega
          · exact h
        rw [f_new j hj] at h1
        have e : i - m.next + ms.next = j := by omega
        rw [e]
        exact ⟨d, h2, rfl⟩
      · obtain ⟨x, _, _, k1, _⟩ := hR.blk i b h
        have := hR.nx _ _ k1
        omega
    rcases hcase hi with ⟨h1, h2⟩ | ⟨h1, h2, h3, _⟩ <;> rcases hcase hj with ⟨k1, k2⟩ | ⟨k1, k2, k3, _⟩
    · obtain ⟨b', l1, l2⟩ := old hb h1
      obtain ⟨d', l3, l4⟩ := old hd k1
      exact hR.inj i j x y b' d' h2 k2 hxy l1 l3 (hw.imp l2 l4)
    · have := hR.lt _ _ h2; omega
    · have := hR.lt _ _ k2; omega
    · obtain ⟨b', l1, l2⟩ := new hb h1 ⟨_, h2⟩
      obtain ⟨d', l3, l4⟩ := new hd k1 ⟨_, k2⟩
      have := hR'.inj _ _ x y b' d' h2 k2 hxy l1 l3 (by rw [l2, l4]; exact hw)
      omega
  · intro i x h
    rcases hcase h with ⟨_, h⟩ | ⟨_, h, _⟩
    · exact Nat.lt_of_lt_of_le (hR.lt _ _ h) hX.2.2.1
    · exact hR'.lt _ _ h
  · intro i x h
    show i < m.next + (m'.next - ms.next)
    rcases hcase h with ⟨h, _⟩ | ⟨_, _, _, h⟩
    · omega
    · exact h
  · intro i b hb
    rcases see hb with ⟨j, d, h1, h2, rfl⟩ | ⟨h0, h⟩
    · obtain ⟨x, cs, fz, k1, k2, k3, k4, k5⟩ := hR'.blk j d h2
      refine ⟨x, cs, fz, by rw [← h1]; exact e2 _ _ k1, k2, k3, SA.re_okM e2 k4, fun hw => ?_⟩
      obtain ⟨k6, k7⟩ := k5 hw
      refine ⟨?_, k7⟩
      rcases k6 with k6 | ⟨_, _, _, _, _, _, _, k6⟩
      · exact .inl (Nat.le_trans hR.base k6)
      · exact k6
    · obtain ⟨x, cs, fz, k1, k2, k3, k4, k5⟩ := hR.blk i b h
      refine ⟨x, cs, fz, e1 _ _ k1, ?_, k3, SA.monoM e1 k4, k5⟩
      rw [← k2]
      refine hR'.fr.block x.b (hR.lt _ _ k1) ?_
      rintro ⟨j, d, y, l1, l2, l3, l4, _⟩
      obtain ⟨l0, d2, l5, _, l6, _⟩ := hm j d l1
      have e : ι j = i := hR.inj _ _ _ _ _ _ l3 k1 l4 l5 h (.inl (l6 l2))
      have h3 := hk j d l1 l2
      rw [h0 j (by rw [f_old j l0, e])] at h3
      cases h3
  · refine hR.fr.trans ⟨hR'.fr.os, hR'.fr.tape, hR'.fr.output, hR'.fr.size, fun k hk hf => hR'.fr.block k (by have := hR.base; omega) ?_, fun k cs ty fz hk hc => hR'.fr.froz k cs ty fz (by have := hR.base; omega) hc⟩
    rintro ⟨_, _, _, _, _, _, _, h | h⟩
    · omega
    · exact hf h
  · intro i x hx
    obtain ⟨g, o, k1, k2, k3, k4⟩ := hR.xo i x hx
    refine ⟨g, o, e1 _ _ k1, ?_, XO.mono e1 k3, k4⟩
    rw [← k2]
    refine hR'.fr.block g.b (hR.lt _ _ k1) ?_
    rintro ⟨j, d, y, l1, l2, l3, l4, _⟩
    obtain ⟨_, d2, l5, _⟩ := hm j d l1
    obtain ⟨g2, cs, fz, q1, q2, _⟩ := hR.blk _ d2 l5
    have e : some y = some g2 := l3.symm.trans q1
    cases e
    rw [l4, k2] at q2
    cases q2
    exact XO.not_cells k3 rfl
  · intro i j gi gj x y hi hj hg hx hy
    obtain ⟨g1, _, k1, _⟩ := hR.xo i x hx
    obtain ⟨g2, _, k2, _⟩ := hR.xo j y hy
    have p1 : some gi = some g1 := hi.symm.trans (e1 _ _ k1)
    have p2 : some gj = some g2 := hj.symm.trans (e1 _ _ k2)
    cases p1
    cases p2
    exact hR.xi i j _ _ x y k1 k2 hg hx hy

theorem frame_ro {P : Program} {g : FuncId} {fn : Func} {c : Code} {l : List SV} {ms : SMem} {A : SV → SMem → Prop} (hg : P.funcs[g]? = some fn) (hc : fn.body = some c)
    (good : Good P A ms.next [callFr g fn.ntmps l c] ms) (hxs : ms.xs = []) {ι : Nat → Nat} {m : SMem}
    (hm : ∀ i b, getB ms.bl i = some b → i < ms.next ∧ b.wr = false ∧ ∃ d, getB m.bl (ι i) = some d ∧ b.ty = d.ty ∧ ∀ R cs, d.arr.okM R cs → b.arr.okM (pull ι ms.next R) cs)
    {n0 : Nat} {F : Nat → Prop} {w0 w : World} {R : Ren} {args : Array Value} (hl : All2 (SV.ok (pull ι ms.next R)) l args.toList) (hR : Rel n0 F w0 R m w) :
    Answers P g args w fun v w' => Rel n0 F w0 R m w' ∧ w.heap.size ≤ w'.heap.size ∧ ∃ s m' R', A s m' ∧ s.ok R' v := by
  have pull_some : ∀ {i x}, pull ι ms.next R i = some x → i < ms.next ∧ R (ι i) = some x := by
    intro i x h
    unfold pull at h
    split at h
    · rename_i h1; exact ⟨h1, h⟩
    · cases h
  have hRs : Rel w.heap.size (fun _ => False) w (pull ι ms.next R) ms w := by
    refine ⟨fun i j x y b d h1 h2 h3 h4 h5 h6 => ?_, fun i x h => hR.lt _ _ (pull_some h).2, fun i x h => (pull_some h).1, fun i b hb => ?_, Nat.le_refl _, BelowF.refl _ _ _, fun i x hx => (by rw [hxs] at hx; cases hx), fun i j g h x y _ _ _ hx => (by rw [hxs] at hx; cases hx), fun g cs hg => ?_⟩
    rotate_right
    · obtain ⟨g1, g2, cs', ty, fz, g3, g4⟩ := hR.gl g cs hg
      exact ⟨Nat.lt_of_lt_of_le g1 hR.base, fun h => h, cs', ty, fz, (hR.fr.block g g1 g2).trans g3, g4⟩
    · have e1 := (hm i b h4).2.1
      have e2 := (hm j d h5).2.1
      rw [e1, e2] at h6
      simp at h6
    · obtain ⟨e0, ew, d, e1, e2, e3⟩ := hm i b hb
      obtain ⟨x, cs, fz, k1, k2, k3, k4, _⟩ := hR.blk _ d e1
      refine ⟨x, cs, fz, ?_, by rw [e2]; exact k2, k3, e3 R cs k4, fun hw => by rw [ew] at hw; cases hw⟩
      unfold pull
      rw [if_pos e0]
      exact k1
  refine (answers_of_good hg hc good hl hRs).mono ?_
  rintro v w' ⟨s, m', R', hA, hX, hR', hv⟩
  exact ⟨hR.step hR'.fr.to, hX.2.2.1, s, m', R', hA, hv⟩
end
end Go.Proofs.YtjjeahnbppmigaaDoor
