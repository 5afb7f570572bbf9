/- Each operation of the symbolic machine does what the operation does. No condition. -/
import Derived.Test.YtjjeahnbppmigaaDoorK5
set_option linter.unusedVariables false
set_option linter.unusedSimpArgs false
namespace Go.Proofs.YtjjeahnbppmigaaDoor

section
variable {P : Program} {w : World} {R : Ren}

theorem asks_ok {op : BinOp} {y : SI} {q : List Prop} (h : asksS op y = some q) (hq : ∀ p ∈ q, p) :
    ((op = .quo ∨ op = .rem) → y.den ≠ 0) ∧ ((op = .shl ∨ op = .shr) → ¬ y.den < 0) := by
  cases op <;> cases y <;> simp [asksS] at h <;> simp only [reduceCtorEq, or_self, false_or, or_false, false_implies, true_implies, and_true, true_and, SI.den] <;>
    first
      | exact h.1
      | (have h1 := h.1; omega)
      | (subst h; have h1 := hq _ (List.mem_singleton.2 rfl); first | exact h1 | omega)
      | trivial

theorem ari_ok {op : BinOp} {k k' : IntKind} {x y n : Int} (hk : isSh op = true ∨ k = k') (h0 : (op = .quo ∨ op = .rem) → y ≠ 0) (h1 : (op = .shl ∨ op = .shr) → ¬ y < 0) (t : TypeId)
    (h : ariS op k x y = some n) : (binOp op t (.int k x) (.int k' y)).run P w = .ok (.int k n) w := by
  cases op <;> simp [ariS] at h <;> subst h <;>
    first
      | (have hk' : k = k' := hk.resolve_left (by simp [isSh])
         subst hk'
         have hy : y ≠ 0 := h0 (by simp)
         simp [binOp, Op.intDiv, hy]; done)
      | (have hk' : k = k' := hk.resolve_left (by simp [isSh])
         subst hk'
         simp [binOp, Op.intArith, Op.intBits]; done)
      | (have hy : ¬ y < 0 := h1 (by simp)
         simp [binOp, Op.shift, hy]; done)
theorem cmp_ok {op : BinOp} {k k' : IntKind} {x y : Int} {b : Bool} (hk : isSh op = true ∨ k = k') (t : TypeId)
    (h : cmpS op x y = some b) : (binOp op t (.int k x) (.int k' y)).run P w = .ok (.bool b) w := by
  cases op <;> simp [cmpS] at h <;> subst h <;>
    (have hk' : k = k' := hk.resolve_left (by simp [isSh])
     subst hk'
     simp [binOp, Op.intCmp])

theorem intS_ok {op : BinOp} {k k' : IntKind} {x y : SI} {q : List Prop} {s : SC} (t : TypeId) (h : intS op k k' x y = some (q, s)) (hq : ∀ p ∈ q, p) :
    ∃ r, s.ok R r ∧ (binOp op t (.int k x.den) (.int k' y.den)).run P w = .ok r w := by
  unfold intS at h
  split at h
  · rename_i hk
    have hk' : isSh op = true ∨ k = k' := by simpa using hk
    split at h
    · cases h
    · rename_i qq hqq
      have main : ∀ q' : List Prop, asksS op y = some q' → (∀ p ∈ q', p) → ((op = .quo ∨ op = .rem) → y.den ≠ 0) ∧ ((op = .shl ∨ op = .shr) → ¬ y.den < 0) := fun _ a b => asks_ok a b
      split at h
      · rename_i a b
        split at h
        · rename_i n hn
          cases h
          obtain ⟨h0, h1⟩ := main _ hqq hq
          exact ⟨_, rfl, ari_ok hk' h0 h1 t hn⟩
        · split at h
          · rename_i b' hb
            cases h
            exact ⟨_, rfl, cmp_ok hk' t hb⟩
          · cases h
      · split at h
        · rename_i n hn
          cases h
          obtain ⟨h0, h1⟩ := main _ hqq hq
          exact ⟨_, rfl, by rw [ari_of hn]; exact ari_ok hk' h0 h1 t hn⟩
        · split at h
          · rename_i b' hb
            cases h
            exact ⟨_, rfl, cmp_ok hk' t hb⟩
          · cases h
  · cases h

theorem den_l (n : Nat) : (SN.l n).den = n := rfl
theorem beq_den (a b : SB) : (a.beq b).den = (a.den == b.den) := by cases a <;> cases b <;> rfl
theorem not_den (a : SB) : a.not.den = !a.den := by cases a <;> rfl
theorem add_den (a b : SN) : (a.add b).den = a.den + b.den := by cases a <;> cases b <;> rfl
theorem mul_den (a : SN) (n : Nat) : (a.mul n).den = a.den * n := by cases a <;> rfl
theorem nat_den (a : SI) : a.nat.den = a.den.toNat := by cases a <;> rfl

def Eqs (P : Program) (w : World) (t : TypeId) (u v : Value) (b : Bool) : Prop :=
  (binOp .eql t u v).run P w = .ok (.bool b) w ∧ (binOp .neq t u v).run P w = .ok (.bool !b) w ∧ ∀ op xo yo, (eqGuard op t xo yo u v).run P w = .ok () w
theorem eqS_ok {t : TypeId} {x y : SC} {b : SB} {u v : Value} (h : eqS P t x y = some b) (hx : x.ok R u) (hy : y.ok R v) : Eqs P w t u v b.den := by
  have mk : ∀ b' : Bool, (∀ d, (Op.equalIn (d + 1) t u v).run P w = .ok b' w) → (∀ op, binOp op t u v = match op with | .eql => (do pure (.bool (← Op.equal t u v))) | .neq => (do pure (.bool (!(← Op.equal t u v)))) | _ => binOp op t u v) →
      (∀ op xo yo, (eqGuard op t xo yo u v).run P w = .ok () w) → Eqs P w t u v b' := by
    intro b' he hb hg
    have he' : (Op.equal t u v).run P w = .ok b' w := he 9999
    refine ⟨?_, ?_, hg⟩
    · rw [hb]; simp [he']
    · rw [hb]; simp [he']
  unfold eqS at h
  split at h
  · rename_i a c hu
    cases h
    obtain rfl : u = _ := hx
    obtain rfl : v = _ := hy
    refine mk _ (fun d => ?_) (fun op => ?_) (fun op xo yo => ?_)
    · simp [Op.equalIn, run_underlying hu, beq_den]
    · cases op <;> rfl
    · unfold eqGuard; split <;> simp
  · rename_i hu
    cases h
    obtain ⟨g, _, rfl⟩ := hx
    obtain ⟨rfl, _⟩ := hy
    refine mk _ (fun d => ?_) (fun op => ?_) (fun op xo yo => ?_)
    · simp [Op.equalIn, run_underlying hu, SB.den]
    · cases op <;> rfl
    · unfold eqGuard; split <;> simp
  · rename_i hu
    cases h
    obtain ⟨g, _, rfl⟩ := hy
    obtain ⟨rfl, _⟩ := hx
    refine mk _ (fun d => ?_) (fun op => ?_) (fun op xo yo => ?_)
    · simp [Op.equalIn, run_underlying hu, SB.den]
    · cases op <;> rfl
    · unfold eqGuard; split <;> simp
  · rename_i hu
    cases h
    obtain ⟨rfl, _⟩ := hy
    obtain ⟨rfl, _⟩ := hx
    refine mk _ (fun d => ?_) (fun op => ?_) (fun op xo yo => ?_)
    · simp [Op.equalIn, run_underlying hu, SB.den]
    · cases op <;> rfl
    · unfold eqGuard; split <;> simp
  · rename_i hu
    cases h
    obtain ⟨g, c, _, rfl, _, _⟩ := hx
    obtain ⟨rfl, _⟩ := hy
    refine mk _ (fun d => ?_) (fun op => ?_) (fun op xo yo => ?_)
    · simp [Op.equalIn, run_underlying hu, SB.den]
    · cases op <;> rfl
    · unfold eqGuard; split <;> simp
  · rename_i hu
    cases h
    obtain ⟨rfl, _⟩ := hy
    obtain ⟨rfl, _⟩ := hx
    refine mk _ (fun d => ?_) (fun op => ?_) (fun op xo yo => ?_)
    · simp [Op.equalIn, run_underlying hu, SB.den]
    · cases op <;> rfl
    · unfold eqGuard; split <;> simp
  · rename_i hu
    cases h
    obtain ⟨g, c, rfl⟩ := hx
    obtain ⟨rfl, _⟩ := hy
    refine mk _ (fun d => ?_) (fun op => ?_) (fun op xo yo => ?_)
    · simp [Op.equalIn, run_underlying hu, SB.den]
    · cases op <;> rfl
    · unfold eqGuard; split <;> simp
  · rename_i hu
    cases h
    have hx' : ∃ t' z, u = .iface t' z := by
      rename_i t' a l
      cases a <;> (obtain ⟨z, h1, _⟩ := hx; exact ⟨_, _, h1⟩)
    obtain ⟨t', z, rfl⟩ := hx'
    obtain ⟨rfl, _⟩ := hy
    refine mk _ (fun d => ?_) (fun op => ?_) (fun op xo yo => ?_)
    · simp [Op.equalIn, run_underlying hu, SB.den]
    · cases op <;> rfl
    · unfold eqGuard; split <;> simp
  · rename_i hu
    cases h
    have hy' : ∃ t' z, v = .iface t' z := by
      rename_i t' a l
      cases a <;> (obtain ⟨z, h1, _⟩ := hy; exact ⟨_, _, h1⟩)
    obtain ⟨t', z, rfl⟩ := hy'
    obtain ⟨rfl, _⟩ := hx
    refine mk _ (fun d => ?_) (fun op => ?_) (fun op xo yo => ?_)
    · simp [Op.equalIn, run_underlying hu, SB.den]
    · cases op <;> rfl
    · unfold eqGuard; split <;> simp
  · rename_i hu
    cases h
    obtain ⟨_, _, rfl, _⟩ := hx
    obtain ⟨rfl, _⟩ := hy
    refine mk _ (fun d => ?_) (fun op => ?_) (fun op xo yo => ?_)
    · simp [Op.equalIn, run_underlying hu, SB.den]
    · cases op <;> rfl
    · unfold eqGuard; split <;> simp
  · rename_i hu
    cases h
    obtain ⟨_, _, rfl⟩ := hx
    obtain ⟨rfl, _⟩ := hy
    refine mk _ (fun d => ?_) (fun op => ?_) (fun op xo yo => ?_)
    · simp [Op.equalIn, run_underlying hu, SB.den]
    · cases op <;> rfl
    · unfold eqGuard; split <;> simp
  · rename_i hu
    cases h
    obtain ⟨rfl, _⟩ := hy
    obtain ⟨rfl, _⟩ := hx
    refine mk _ (fun d => ?_) (fun op => ?_) (fun op xo yo => ?_)
    · simp [Op.equalIn, run_underlying hu, SB.den]
    · cases op <;> rfl
    · unfold eqGuard; split <;> simp
  · rename_i hu
    cases h
    obtain ⟨rfl, _⟩ := hy
    obtain ⟨rfl, _⟩ := hx
    refine mk _ (fun d => ?_) (fun op => ?_) (fun op xo yo => ?_)
    · simp [Op.equalIn, run_underlying hu, SB.den]
    · cases op <;> rfl
    · unfold eqGuard; split <;> simp
  · cases h

theorem binS_ok {op : BinOp} {t : TypeId} {x y s : SV} {q : List Prop} {u v : Value} (h : binS P op t x y = some (q, s)) (hq : ∀ p ∈ q, p) (hx : x.ok R u) (hy : y.ok R v) (xo yo : Operand) :
    ∃ r, s.ok R r ∧ (eqGuard op t xo yo u v).run P w = .ok () w ∧ (binOp op t u v).run P w = .ok r w := by
  unfold binS at h
  split at h
  · rename_i k a k' b
    simp only [Option.map_eq_some_iff, Prod.mk.injEq] at h
    obtain ⟨⟨q', s'⟩, h1, rfl, rfl⟩ := h
    obtain rfl : u = _ := hx
    obtain rfl : v = _ := hy
    obtain ⟨r, hr, hrun⟩ := intS_ok (P := P) (w := w) (R := R) t h1 hq
    refine ⟨r, hr, ?_, hrun⟩
    unfold eqGuard
    split <;> simp
  · rename_i x y _
    split at h
    · simp only [Option.map_eq_some_iff, Prod.mk.injEq] at h
      obtain ⟨b, hb, rfl, rfl⟩ := h
      obtain ⟨h1, _, h3⟩ := eqS_ok (w := w) hb hx hy
      exact ⟨.bool b.den, rfl, h3 _ _ _, h1⟩
    · simp only [Option.map_eq_some_iff, Prod.mk.injEq] at h
      obtain ⟨b, hb, rfl, rfl⟩ := h
      obtain ⟨_, h2, h3⟩ := eqS_ok (w := w) hb hx hy
      exact ⟨.bool b.not.den, rfl, h3 _ _ _, by rw [not_den]; exact h2⟩
    · cases h
  · cases h

theorem unS_ok {op : UnOp} {x s : SV} {u : Value} (h : unS op x = some s) (hx : x.ok R u) : ∃ r, s.ok R r ∧ (Op.unary op u).run P w = .ok r w := by
  unfold unS at h
  split at h
  · cases h; obtain rfl : u = _ := hx; exact ⟨_, rfl, by simp [Op.unary, Op.intArith, SI.den]⟩
  · cases h; obtain rfl : u = _ := hx; exact ⟨_, rfl, by simp [Op.unary, Op.intArith, SI.den, ari_sub]⟩
  · obtain ⟨r, hr, rfl⟩ := Option.map_eq_some_iff.1 h
    obtain rfl : u = _ := hx
    simp only [ariS, Option.some.injEq] at hr
    subst hr
    exact ⟨_, rfl, by simp [Op.unary, Op.intBits, SI.den]⟩
  · cases h
    obtain rfl : u = _ := hx
    exact ⟨_, rfl, by simp [Op.unary, Op.intBits, SI.den, ari_xor]⟩
  · cases h; obtain rfl : u = _ := hx; exact ⟨_, rfl, by simp [Op.unary, not_den]⟩
  · cases h

theorem map_den (f : Int → Int) (n : SI) : (n.map f).den = f n.den := by cases n <;> rfl
theorem convS_ok {src dst : TypeId} {x s : SV} {u : Value} (h : convS P src dst x = some s) (hx : x.ok R u) : ∃ r, s.ok R r ∧ (convert src dst u).run P w = .ok r w := by
  unfold convS at h
  split at h
  · rename_i d k k' n h1 h2
    cases h
    obtain rfl : u = _ := hx
    refine ⟨_, rfl, ?_⟩
    simp only [map_den]
    cases d <;> simp [convert, Sem.run_bind, run_underlying h1, run_underlying h2, Conv.intToInt]
  · cases h

theorem within_ok {i : SI} {n : SN} {q : List Prop} (h : within i n = some q) (hq : ∀ p ∈ q, p) : 0 ≤ i.den ∧ i.den < n.den := by
  unfold within at h
  split at h
  · split at h
    · rename_i hh; exact hh
    · cases h
  · cases h
    exact hq _ (List.mem_singleton.2 rfl)
theorem sizeS_ok {t : TypeId} {n : Nat} (h : sizeS P t = some n) : (sizeOf t).run P w = .ok n w ∧ ∃ i, P.info? t = some i ∧ i.size = n := by
  unfold sizeS at h
  obtain ⟨i, hi, rfl⟩ := Option.map_eq_some_iff.1 h
  exact ⟨by simp [sizeOf, typeInfo, hi], i, hi, rfl⟩
theorem addr_add (g o n : Nat) : (⟨g, o, none⟩ : Addr).add n = ⟨g, o + n, none⟩ := by unfold Addr.add; split <;> simp_all

theorem fieldAtS_ok {t : TypeId} {x s : SV} {f : Nat} {u : Value} (h : fieldAtS P t x f = some s) (hx : x.ok R u) : ∃ r, s.ok R r ∧ (Instr.fieldAt t u f).run P w = .ok r w := by
  unfold fieldAtS at h
  split at h
  · rename_i fs id off hu
    split at h
    · rename_i fl hf
      split at h
      · rename_i n hn
        cases h
        obtain ⟨g, hg, rfl⟩ := hx
        obtain ⟨h1, _⟩ := sizeS_ok (w := w) hn
        rw [nth_eq, Array.getElem?_toList] at hf
        refine ⟨_, ⟨g, hg, rfl⟩, ?_⟩
        simp [Instr.fieldAt, Sem.run_bind, run_underlying hu, hf, Instr.sureAddr, fieldPlace, h1, add_den, addr_add, den_l]
      · cases h
    · cases h
  · rename_i fs g off hu
    split at h
    · rename_i fl hf
      split at h
      · rename_i n hn
        cases h
        obtain rfl : u = _ := hx
        obtain ⟨h1, _⟩ := sizeS_ok (w := w) hn
        rw [nth_eq, Array.getElem?_toList] at hf
        refine ⟨_, rfl, ?_⟩
        simp [Instr.fieldAt, Sem.run_bind, run_underlying hu, hf, Instr.sureAddr, fieldPlace, h1, add_den, addr_add, den_l]
      · cases h
    · cases h
  · cases h
theorem indexAtS_ok {t : TypeId} {x i s : SV} {q : List Prop} {u v : Value} (h : indexAtS P t x i = some (q, s)) (hq : ∀ p ∈ q, p) (hx : x.ok R u) (hi : i.ok R v) :
    ∃ r, s.ok R r ∧ (Instr.indexAt t u v).run P w = .ok r w := by
  unfold indexAtS at h
  split at h
  · rename_i n e id off k i hu
    split at h
    · rename_i sz qq hs hw
      cases h
      obtain ⟨g, hg, rfl⟩ := hx
      obtain rfl : v = _ := hi
      obtain ⟨h1, _⟩ := sizeS_ok (w := w) hs
      obtain ⟨b1, b2⟩ := within_ok hw hq
      refine ⟨_, ⟨g, hg, rfl⟩, ?_⟩
      have b2' : i.den < (n : Int) := b2
      simp [Instr.indexAt, Sem.run_bind, run_underlying hu, asIntOf, Instr.sureAddr, b1, b2', h1, add_den, mul_den, nat_den, addr_add]
    · cases h
  · rename_i n e g off k i hu
    split at h
    · rename_i sz qq hs hw
      cases h
      obtain rfl : u = _ := hx
      obtain rfl : v = _ := hi
      obtain ⟨h1, _⟩ := sizeS_ok (w := w) hs
      obtain ⟨b1, b2⟩ := within_ok hw hq
      refine ⟨_, rfl, ?_⟩
      have b2' : i.den < (n : Int) := b2
      simp [Instr.indexAt, Sem.run_bind, run_underlying hu, asIntOf, Instr.sureAddr, b1, b2', h1, add_den, mul_den, nat_den, addr_add]
    · cases h
  · rename_i e id off n c k i hu
    split at h
    · rename_i sz qq hs hw
      cases h
      obtain ⟨g, c', hg, rfl, _⟩ := hx
      obtain rfl : v = _ := hi
      obtain ⟨h1, _⟩ := sizeS_ok (w := w) hs
      obtain ⟨b1, b2⟩ := within_ok hw hq
      refine ⟨_, ⟨g, hg, rfl⟩, ?_⟩
      simp [Instr.indexAt, Sem.run_bind, run_underlying hu, asIntOf, b1, b2, h1, add_den, mul_den, nat_den, addr_add]
    · cases h
  · cases h
theorem offT_den (P : Program) (t u : TypeId) (a : SA) (o : SN) : (offT P t u a o).den = o.den := by
  unfold offT
  split
  · split
    · split <;> rfl
    · rfl
  · rfl
theorem fieldS_ok {t : TypeId} {x s : SV} {f : Nat} {q : List Prop} {u : Value} (h : fieldS P t x f = some (q, s)) (hq : ∀ p ∈ q, p) (hx : x.ok R u) : ∃ r, s.ok R r ∧ (Instr.field t u f).run P w = .ok r w := by
  unfold fieldS at h
  split at h
  · rename_i fs a hu
    split at h
    · rename_i fl hf
      rw [atO_eq] at h
      simp only [Option.map_eq_some_iff, Prod.mk.injEq] at h
      obtain ⟨⟨q', s'⟩, h1, rfl, rfl⟩ := h
      obtain ⟨cs, rfl, ha⟩ := hx
      obtain ⟨r, hr, hs⟩ := partS_ok h1 hq (SA.okM_of ha)
      rw [nth_eq, Array.getElem?_toList] at hf
      refine ⟨r, hs, ?_⟩
      have := run_part (w := w) hr
      rw [offT_den] at this
      simp only [SN.den] at this
      simp [Instr.field, Sem.run_bind, run_underlying hu, hf, asAgg, this]
    · cases h
  · cases h
theorem offO_den (a : SA) (o : SN) : (offO a o).den = o.den := by unfold offO; split <;> rfl
theorem indexS_ok {t : TypeId} {x i s : SV} {q : List Prop} {u v : Value} (h : indexS P t x i = some (q, s)) (hq : ∀ p ∈ q, p) (hx : x.ok R u) (hi : i.ok R v) :
    ∃ r, s.ok R r ∧ (Instr.index t u v).run P w = .ok r w := by
  unfold indexS at h
  split at h
  · rename_i n e a k i hu
    split at h
    · rename_i sz qq hs hw
      simp only [Option.map_eq_some_iff, Prod.mk.injEq] at h
      obtain ⟨⟨q', s'⟩, h1, rfl, rfl⟩ := h
      obtain ⟨cs, rfl, ha⟩ := hx
      obtain rfl : v = _ := hi
      obtain ⟨h2, _⟩ := sizeS_ok (w := w) hs
      obtain ⟨b1, b2⟩ := within_ok hw fun p hp => hq p (List.mem_append_left _ hp)
      obtain ⟨r, hr, hs⟩ := partS_ok h1 (fun p hp => hq p (List.mem_append_right _ hp)) (SA.okM_of ha)
      have := run_part (w := w) hr
      simp only [offO_den, mul_den, nat_den] at this
      have b2' : i.den < (n : Int) := b2
      refine ⟨r, hs, ?_⟩
      simp [Instr.index, Sem.run_bind, run_underlying hu, asIntOf, b1, b2', h2, this]
    · cases h
  · cases h
theorem int_den (n : SN) : n.int.den = (n.den : Int) := by cases n <;> rfl
theorem lenS_ok {t : TypeId} {x s : SV} {u : Value} (h : lenS P t x = some s) (hx : x.ok R u) (ty : TypeId) (ts : Array TypeId) (ht : ts[0]? = some t) : ∃ r, s.ok R r ∧ (Builtin.len_ ts ty #[u]).run P w = .ok r w := by
  unfold lenS at h
  split at h
  · rename_i n e _ hu
    cases h
    refine ⟨_, rfl, ?_⟩
    simp [Builtin.len_, ht, Sem.run_bind, run_underlying hu, goInt, SI.den]
  · rename_i e id off n c hu
    cases h
    obtain ⟨g, c', hg, rfl, _⟩ := hx
    refine ⟨_, rfl, ?_⟩
    simp [Builtin.len_, ht, Sem.run_bind, run_underlying hu, goInt, int_den]
  · rename_i e n c hu
    cases h
    obtain ⟨rfl, _⟩ := hx
    refine ⟨_, rfl, ?_⟩
    simp [Builtin.len_, ht, Sem.run_bind, run_underlying hu, goInt, SI.den]
  · rename_i e hu
    cases h
    obtain ⟨a, c, rfl⟩ := hx
    refine ⟨_, rfl, ?_⟩
    simp [Builtin.len_, ht, Sem.run_bind, run_underlying hu, goInt, SI.den]
  · rename_i e hu
    cases h
    obtain ⟨a, rfl⟩ := hx
    refine ⟨_, rfl, ?_⟩
    simp [Builtin.len_, ht, Sem.run_bind, run_underlying hu, goInt, SI.den]
  · rename_i e hu
    cases h
    obtain ⟨a, c, rfl⟩ := hx
    refine ⟨_, rfl, ?_⟩
    simp [Builtin.len_, ht, Sem.run_bind, run_underlying hu, goInt, SI.den]
  · cases h

theorem lenX_ok {t : TypeId} {x s : SV} {m m' : SMem} {q : List Prop} {u : Value} (h : lenX P t x m = .ok q s m') (hq : ∀ p ∈ q, p) (hx : x.ok R u) (ty : TypeId) (ts : Array TypeId) (ht : ts[0]? = some t) : m' = m ∧ ∃ r, s.ok R r ∧ (Builtin.len_ ts ty #[u]).run P w = .ok r w := by
  unfold lenX at h
  split at h
  · rename_i s' hs
    cases h
    exact ⟨rfl, lenS_ok hs hx ty ts ht⟩
  · unfold lenQ XR.of at h
    split at h
    · rename_i q' v' hl
      split at hl
      · rename_i e v hu hn
        cases hl
        cases h
        obtain ⟨rfl, _⟩ := hx
        obtain ⟨a, n, c, rfl⟩ : IsSl u := hq _ (List.mem_singleton.2 rfl)
        refine ⟨rfl, _, rfl, ?_⟩
        simp [Builtin.len_, ht, Sem.run_bind, run_underlying hu, goInt, SI.den, slN]
      · cases hl
    · cases h
theorem le_ok {a b : SN} {q : List Prop} (h : a.le b = some q) (hq : ∀ p ∈ q, p) : a.den ≤ b.den := by
  unfold SN.le at h
  split at h
  · split at h
    · assumption
    · cases h
  · cases h
    exact hq _ (List.mem_singleton.2 rfl)
theorem nonneg_ok {a : SI} {q : List Prop} (h : a.nonneg = some q) (hq : ∀ p ∈ q, p) : 0 ≤ a.den := by
  unfold SI.nonneg at h
  split at h
  · split at h
    · assumption
    · cases h
  · cases h
    exact hq _ (List.mem_singleton.2 rfl)
theorem min_den (a b : SN) : (a.min b).den = Nat.min a.den b.den := by cases a <;> cases b <;> rfl
theorem sub_den (a b : SN) : (a.sub b).den = a.den - b.den := by cases a <;> cases b <;> rfl
theorem begin_den (off l m : SN) (sz : Nat) : (beginS off l m sz).den = if m.den = l.den then off.den else off.den + l.den * sz := by
  unfold beginS
  split
  · simp [SN.den]
  · rfl
  · rfl
def OptOk (R : Ren) : Option SV → Option Value → Prop
  | none, none => True
  | some s, some u => s.ok R u
  | _, _ => False
theorem bound_ok {x : Option SV} {v : Option Value} {d top b : SN} {q : List Prop} (h : boundS x d top = some (q, b)) (hq : ∀ p ∈ q, p) (hx : OptOk R x v)
    (hd : d.den ≤ top.den) : b.den ≤ top.den ∧ ((v = none ∧ b = d) ∨ ∃ k i, v = some (.int k i) ∧ 0 ≤ i ∧ i ≤ top.den ∧ b.den = i.toNat) := by
  unfold boundS at h
  cases x with
  | none =>
    cases v with
    | none => cases h; exact ⟨hd, .inl ⟨rfl, rfl⟩⟩
    | some u => exact hx.elim
  | some s =>
    cases v with
    | none => exact hx.elim
    | some u =>
      replace hx : s.ok R u := hx
      match s, h, hx with
      | .s (.c (.f (.int k i))), h, hx =>
        obtain rfl : u = _ := hx
        dsimp only at h
        split at h
        · rename_i q1 q2 h1 h2
          cases h
          have k1 := nonneg_ok h1 fun p hp => hq p (List.mem_append_left _ hp)
          have k2 := le_ok h2 fun p hp => hq p (List.mem_append_right _ hp)
          rw [nat_den] at k2 ⊢
          exact ⟨k2, .inr ⟨k, i.den, rfl, k1, by omega, rfl⟩⟩
        · cases h

theorem run_bound {k : IntKind} {i : Int} {y : Nat} {code : BoundsCode} (h1 : 0 ≤ i) (h2 : i ≤ y) : (Instr.sliceBound (.int k i) y code).run P w = .ok i.toNat w := by
  simp [Instr.sliceBound, asIntOf, h1, h2]
theorem run_bounds {b : Bool} {n c : Nat} {lo hi : Option Value} {l h : Nat} (hh : (hi = none ∧ h = n) ∨ ∃ k i, hi = some (.int k i) ∧ 0 ≤ i ∧ i ≤ c ∧ h = i.toNat) (hl : (lo = none ∧ l = 0) ∨ ∃ k i, lo = some (.int k i) ∧ 0 ≤ i ∧ i ≤ h ∧ l = i.toNat) :
    (Instr.sliceBounds b n c lo hi none).run P w = .ok (l, h, c) w := by
  have hcode : ∀ code, ∀ k i, 0 ≤ i → i ≤ (c : Int) → (Instr.sliceBound (.int k i) c code).run P w = .ok i.toNat w := fun _ _ _ a b => run_bound a b
  rcases hh with ⟨rfl, rfl⟩ | ⟨k, i, rfl, h1, h2, rfl⟩ <;> rcases hl with ⟨rfl, rfl⟩ | ⟨k', j, rfl, l1, l2, rfl⟩
  · simp [Instr.sliceBounds]
  · have hb := run_bound (P := P) (w := w) (k := k') (code := .sliceB) l1 l2
    simp [Instr.sliceBounds, hb]
  · have ha := fun code => hcode code k i h1 h2
    cases b <;> simp [Instr.sliceBounds, ha]
  · have ha := fun code => hcode code k i h1 h2
    have hb := run_bound (P := P) (w := w) (k := k') (code := .sliceB) l1 l2
    cases b <;> simp [Instr.sliceBounds, ha, hb]

theorem rangeS0_ok {a : SA} {off n : SN} {q : List Prop} {x : SA} {cs : Array Value} (h : rangeS0 a off n = some (q, x)) (hq : ∀ p ∈ q, p) (ha : a.okM R cs) : off.den + n.den ≤ cs.size ∧ x.ok R (cs.extract off.den (off.den + n.den)) := by
  replace ha : a.ok R cs := by
    cases a with
    | raw c => cases h
    | _ => exact ha
  have oneX : ∀ u ∈ (cs.extract off.den (off.den + n.den)).toList, u.oneCell' = true := by
    intro u hu
    rw [Array.toList_extract] at hu
    exact SA.one ha u (List.mem_of_mem_take (List.mem_of_mem_drop (by simpa [List.extract, List.take_drop] using hu)))
  have ext : ∀ (k n : Nat) (l : List SC) (r : List SC), Nat.ble (k + n) (len l) = true → takeN (dropN l k) n = some r → All2 (SC.ok R) l (cs.toList.take l.length) →
      k + n ≤ cs.size ∧ All2 (SC.ok R) r (cs.extract k (k + n)).toList := by
    intro k n l r hb hr hl
    obtain ⟨rfl, _⟩ := takeN_eq hr
    rw [Nat.ble_eq, len_eq] at hb
    have e := hl.len_eq
    simp only [List.length_take, Array.length_toList] at e
    refine ⟨by omega, ?_⟩
    rw [dropN_eq]
    have e2 : (cs.extract k (k + n)).toList = ((cs.toList.take l.length).drop k).take n := by
      apply List.ext_getElem?
      intro j
      simp only [Array.getElem?_toList, Array.getElem?_extract, List.getElem?_take, List.getElem?_drop]
      by_cases hj : j < n
      · rw [if_pos (by omega), if_pos hj, if_pos (by omega)]
      · rw [if_neg (by omega), if_neg hj]
    rw [e2]
    exact (hl.drop k).take n
  unfold rangeS0 at h
  split at h
  · split at h
    · rename_i r hb hr
      cases h
      refine ext _ _ _ _ hb hr ?_
      rw [List.take_of_length_le (by have := All2.len_eq ha; omega)]
      exact ha
    · cases h
  · split at h
    · rename_i r hb hr
      cases h
      exact ext _ _ _ _ hb hr ha.1
    · cases h
  · cases h
    obtain ⟨rfl, _⟩ := ha
    exact ⟨hq _ (List.mem_singleton.2 rfl), rfl, oneX⟩
  · rename_i ds
    cases h
    have hx := hq _ (List.mem_singleton.2 rfl)
    have hs := pop_size ha
    refine ⟨by omega, ?_, oneX⟩
    apply Array.ext_getElem?
    intro j
    simp only [Array.getElem?_extract]
    by_cases hj : j < n.den
    · have : off.den + j < ds.size := by omega
      have h1 : ds[off.den + j]? = some ds[off.den + j] := Array.getElem?_eq_getElem this
      rw [if_pos (by omega), if_pos (by omega), h1, pop_get ha h1]
    · rw [if_neg (by omega), if_neg (by omega)]
  · cases h

theorem rangeS_ok {a : SA} {off n : SN} {q : List Prop} {x : SA} {cs : Array Value} (h : rangeS a off n = some (q, x)) (hq : ∀ p ∈ q, p) (ha : a.okM R cs) : off.den + n.den ≤ cs.size ∧ x.ok R (cs.extract off.den (off.den + n.den)) := by
  unfold rangeS at h
  split at h
  · cases h
    obtain rfl : cs = _ := ha
    exact ⟨hq _ (List.mem_cons_self ..), rfl, hq _ (List.mem_cons_of_mem _ (List.mem_cons_self ..))⟩
  · exact rangeS0_ok h hq ha

theorem cutK_ok {hi : Option SV} {c : SK} {n N : Nat} (h : c.ok n N) : (cutK hi c).ok n N := by
  unfold cutK
  split
  · exact h
  · exact h
theorem sliceS_ok {t : TypeId} {x s : SV} {lo hi : Option SV} {lv hv : Option Value} {q : List Prop} {u : Value} (h : sliceS P t x lo hi = some (q, s)) (hq : ∀ p ∈ q, p) (hx : x.ok R u)
    (hlo : OptOk R lo lv) (hhi : OptOk R hi hv) :
    ∃ r, s.ok R r ∧ (Instr.sliceAt t u lv hv none).run P w = .ok r w := by
  have low : ∀ {l h : SN}, ((lv = none ∧ l = .l 0) ∨ ∃ k i, lv = some (.int k i) ∧ 0 ≤ i ∧ i ≤ h.den ∧ l.den = i.toNat) → (lv = none ∧ l.den = 0) ∨ ∃ k i, lv = some (.int k i) ∧ 0 ≤ i ∧ i ≤ h.den ∧ l.den = i.toNat := by
    rintro l h (⟨h1, rfl⟩ | h1)
    · exact .inl ⟨h1, rfl⟩
    · exact .inr h1
  unfold sliceS at h
  split at h
  · rename_i n e id off hu
    split at h
    · rename_i sz q1 hb hs hh
      split at h
      · rename_i q2 l hl
        cases h
        obtain ⟨g, hg, rfl⟩ := hx
        obtain ⟨h1, _⟩ := sizeS_ok (w := w) hs
        obtain ⟨k1, k2⟩ := bound_ok hh (fun p hp => hq p (List.mem_append_left _ hp)) hhi (Nat.le_refl _)
        obtain ⟨k3, k4⟩ := bound_ok hl (fun p hp => hq p (List.mem_append_right _ hp)) hlo (Nat.zero_le _)
        have hr := run_bounds (P := P) (w := w) (b := false) (n := n) (c := n) (h := hb.den) (l := l.den) (by
          rcases k2 with ⟨e1, rfl⟩ | k2
          · exact .inl ⟨e1, rfl⟩
          · exact .inr k2) (low k4)
        refine ⟨_, ⟨g, n - l.den, hg, rfl, ?_, ?_⟩, ?_⟩
        · show n - l.den = ((SN.l n).sub l).den
          rw [sub_den]
        · rw [sub_den]
          have : hb.den ≤ n := k1
          omega
        · have hbd : (beginS off l (SN.l n) sz).den = if n = l.den then off.den else off.den + l.den * sz := begin_den _ _ _ _
          simp only [Instr.sliceAt, Sem.run_bind, run_underlying hu, Instr.sureAddr, Sem.run_pure, Result.andThen_ok, hr, h1, sub_den, hbd]
          congr 3
          split
          · rfl
          · simp [addr_add]
      · cases h
    · cases h
  · rename_i e id off n c hu
    split at h
    · rename_i sz q1 hb hs hh
      split at h
      · rename_i q2 l hl
        cases h
        obtain ⟨g, c', hg, rfl, hc, hlc⟩ := hx
        obtain rfl : c' = c.den := hc
        obtain ⟨h1, _⟩ := sizeS_ok (w := w) hs
        obtain ⟨k1, k2⟩ := bound_ok hh (fun p hp => hq p (List.mem_append_left _ hp)) hhi hlc
        obtain ⟨k3, k4⟩ := bound_ok hl (fun p hp => hq p (List.mem_append_right _ hp)) hlo (Nat.zero_le _)
        have hr := run_bounds (P := P) (w := w) (b := true) (n := n.den) (c := c.den) (h := hb.den) (l := l.den) (by
          rcases k2 with ⟨e1, rfl⟩ | k2
          · exact .inl ⟨e1, rfl⟩
          · exact .inr k2) (low k4)
        refine ⟨_, ⟨g, c.den - l.den, hg, rfl, ?_, ?_⟩, ?_⟩
        · simp [SK.ok, sub_den]
        · rw [sub_den]; omega
        · simp only [Instr.sliceAt, Instr.slice, Sem.run_bind, run_underlying hu, Result.andThen_ok, hr, h1, sub_den, begin_den]
          congr 3
          split
          · rfl
          · simp [addr_add]
      · cases h
    · cases h
  · rename_i e id off n c _ hu
    split at h
    · rename_i sz q1 hb hs hh
      obtain ⟨g, c', hg, rfl, hc, hlc⟩ := hx
      obtain ⟨h1, _⟩ := sizeS_ok (w := w) hs
      split at h
      · cases h
        have lvn : lv = none := by cases lv <;> first | rfl | exact hlo.elim
        subst lvn
        obtain ⟨k1, k2⟩ := bound_ok hh hq hhi (Nat.le_refl _)
        have hr := run_bounds (P := P) (w := w) (b := true) (n := n.den) (c := c') (h := hb.den) (l := 0) (lo := none) (by
          rcases k2 with ⟨e1, rfl⟩ | ⟨k, i, k3, k4, k5, k6⟩
          · exact .inl ⟨e1, rfl⟩
          · exact .inr ⟨k, i, k3, k4, by omega, k6⟩) (.inl ⟨rfl, rfl⟩)
        refine ⟨_, ⟨g, c', hg, rfl, cutK_ok hc, by omega⟩, ?_⟩
        simp only [Instr.sliceAt, Instr.slice, Sem.run_bind, run_underlying hu, Result.andThen_ok, hr, h1]
        by_cases hz : c' = 0 <;> simp [hz, Addr.add]
      · split at h
        · rename_i q2 l hl
          cases h
          obtain ⟨k1, k2⟩ := bound_ok hh (fun p hp => hq p (by simp [hp])) hhi (Nat.le_refl _)
          obtain ⟨k3, k4⟩ := bound_ok hl (fun p hp => hq p (by simp [hp])) hlo (Nat.zero_le _)
          have hlt : l.den < hb.den := hq _ (by simp)
          have hr := run_bounds (P := P) (w := w) (b := true) (n := n.den) (c := c') (h := hb.den) (l := l.den) (by
            rcases k2 with ⟨e1, rfl⟩ | ⟨k, i, k3, k4, k5, k6⟩
            · exact .inl ⟨e1, rfl⟩
            · exact .inr ⟨k, i, k3, k4, by omega, k6⟩) (low k4)
          refine ⟨_, ⟨g, c' - l.den, hg, rfl, trivial, ?_⟩, ?_⟩
          · rw [sub_den]; omega
          · have hne : ¬ c' = l.den := by omega
            simp only [Instr.sliceAt, Instr.slice, Sem.run_bind, run_underlying hu, Result.andThen_ok, hr, h1, sub_den, add_den, mul_den, if_neg hne]
            simp [addr_add]
        · cases h
    · cases h
  · cases h

theorem sliceL_ok {t : TypeId} {x s : SV} {lo hi : Option SV} {lv hv : Option Value} {q : List Prop} {u : Value} (h : sliceL P t x lo hi = some (q, s)) (hq : ∀ p ∈ q, p) (hx : x.ok R u)
    (hlo : OptOk R lo lv) (hhi : OptOk R hi hv) :
    ∃ r, s.ok R r ∧ (Instr.sliceAt t u lv hv none).run P w = .ok r w := by
  unfold sliceL at h
  split at h
  case h_2 => exact sliceS_ok h hq hx hlo hhi
  rename_i e id off n c lo' hu
  split at h
  case h_2 => exact sliceS_ok h hq hx hlo hhi
  rename_i sz q1 hb hcn hs hh
  split at h
  case h_2 => exact sliceS_ok h hq hx hlo hhi
  rename_i q2 l hl
  split at h
  case isFalse => exact sliceS_ok h hq hx hlo hhi
  rename_i he
  cases h
  have he := Nat.eq_of_beq_eq_true he
  obtain ⟨g, c', hg, rfl, hc, hlc⟩ := hx
  obtain ⟨h1, _⟩ := sizeS_ok (w := w) hs
  obtain ⟨k1, k2⟩ := bound_ok hh (fun p hp => hq p (by simp [hp])) hhi (Nat.le_refl _)
  obtain ⟨k3, k4⟩ := bound_ok hl (fun p hp => hq p (by simp [hp])) hlo (Nat.zero_le _)
  have low : (lv = none ∧ l = 0) ∨ ∃ k i, lv = some (.int k i) ∧ 0 ≤ i ∧ i ≤ hb ∧ l = i.toNat := by
    rcases k4 with ⟨e1, e2⟩ | k4
    · exact .inl ⟨e1, by cases e2; rfl⟩
    · exact .inr k4
  have hr := run_bounds (P := P) (w := w) (b := true) (n := n.den) (c := c') (h := hb) (l := l) (by
    rcases k2 with ⟨e1, e2⟩ | ⟨k, i, k3, k4, k5, k6⟩
    · exact .inl ⟨e1, by rw [← e2]⟩
    · exact .inr ⟨k, i, k3, k4, by omega, k6⟩) low
  have hres : ∃ a, (Instr.sliceAt t (.slice (some ⟨g.b, off.den, none⟩) n.den c') lv hv none).run P w = .ok (.slice (some a) (hb - l) (c' - l)) w := by
    simp only [Instr.sliceAt, Instr.slice, Sem.run_bind, run_underlying hu, Result.andThen_ok, hr, h1]
    by_cases e : c' = l
    · exact ⟨_, by simp only [if_pos e]; rfl⟩
    · exact ⟨_, by simp only [if_neg e]; rfl⟩
  obtain ⟨a, hres⟩ := hres
  rw [he, Nat.sub_self] at hres
  exact ⟨_, ⟨a, _, rfl⟩, hres⟩
theorem two_den (f : Int → Int → Int) (x y : SI) : (x.two f y).den = f x.den y.den := by cases x <;> cases y <;> rfl
theorem max_fold (f : Int → Int → Int) (g : Value → Value → Sem Value) (hg : ∀ k x k' y, (g (.int k x) (.int k' y)).run P w = .ok (.int k (f x y)) w) (k : IntKind) (r : List SI) : ∀ (x : SI) (vs : List Value), All2 (fun (s : SI) v => ∃ k', v = .int k' s.den) r vs →
    (vs.foldlM g (.int k x.den)).run P w = .ok (.int k (foldS f x r).den) w := by
  induction r with
  | nil =>
    intro x vs h
    cases vs with
    | nil => simp [foldS]
    | cons v vs => exact h.elim
  | cons y r ih =>
    intro x vs h
    cases vs with
    | nil => exact h.elim
    | cons v vs =>
      obtain ⟨⟨k', e⟩, h2⟩ := h
      have := ih (x.two f y) vs h2
      rw [two_den] at this
      rw [List.foldlM_cons, Sem.run_bind, e, hg, Result.andThen_ok]
      exact this
theorem intsOf_ok {l : List SV} : ∀ {r : List (IntKind × SI)} {vs : List Value}, intsOf l = some r → All2 (SV.ok R) l vs → All2 (fun (s : IntKind × SI) v => v = .int s.1 s.2.den) r vs := by
  induction l with
  | nil =>
    intro r vs h hv
    simp only [intsOf, Option.some.injEq] at h
    subst h
    cases vs with
    | nil => trivial
    | cons v vs => exact hv.elim
  | cons x l ih =>
    intro r vs h hv
    cases vs with
    | nil => exact hv.elim
    | cons v vs =>
      simp only [intsOf] at h
      split at h
      · rename_i k n r' h'
        cases h
        exact ⟨hv.1, ih h' hv.2⟩
      · cases h
theorem sndOf_ok {r : List (IntKind × SI)} : ∀ {vs : List Value}, All2 (fun (s : IntKind × SI) v => v = .int s.1 s.2.den) r vs → All2 (fun (s : SI) v => ∃ k', v = .int k' s.den) (sndOf r) vs := by
  induction r with
  | nil =>
    intro vs h
    cases vs with
    | nil => trivial
    | cons v vs => exact h.elim
  | cons x r ih =>
    intro vs h
    cases vs with
    | nil => exact h.elim
    | cons v vs => exact ⟨⟨_, h.1⟩, ih h.2⟩
end
end Go.Proofs.YtjjeahnbppmigaaDoor
