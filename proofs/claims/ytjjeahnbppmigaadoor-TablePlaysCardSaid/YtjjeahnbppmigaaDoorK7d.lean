/- Strings: their operations are sound. No condition. -/
import Derived.Test.YtjjeahnbppmigaaDoorK7c
import Derived.Laws.MakeOwn
import Derived.Lib.ConvBytes
import Derived.Laws.BytesString
set_option linter.unusedVariables false
set_option linter.unusedSimpArgs false
namespace Go.Proofs.YtjjeahnbppmigaaDoor
set_option linter.unusedSectionVars false
variable [Gh]
section
variable {P : Program} {w w0 : World} {n0 : Nat} {F : Nat → Prop} {R : Ren} {m : SMem}
omit [Gh] in
theorem strS_ok {x : SV} {l : Bool} {s : ByteArray} {u : Value} (h : strS x = some (l, s)) (hx : x.ok R u) : u = .string s := by
  unfold strS at h
  split at h
  · cases h; exact hx.1
  · cases h; exact hx.1
  · cases h
omit [Gh] in
theorem mkSN_den (l : Bool) (n : Nat) : (mkSN l n).den = n := by cases l <;> rfl
omit [Gh] in
theorem isStrT_ok {t : TypeId} (h : isStrT P t = true) : P.underlying t = some .string := by
  unfold isStrT at h
  split at h
  · assumption
  · cases h
omit [Gh] in
theorem byteAt_some {s : ByteArray} {i : Nat} (h : i < s.size) : ∃ b : UInt8, s[i]? = some b ∧ byteAt s i = b.toNat := by
  have e : s[i]? = some s[i] := by simp [h]
  exact ⟨_, e, by unfold byteAt; rw [e]⟩
omit [Gh] in
theorem strIndex_ok {t : TypeId} {x i s : SV} {q : List Prop} {u v : Value} (h : strIndex P t x i = some (q, s)) (hq : ∀ p ∈ q, p) (hx : x.ok R u) (hi : i.ok R v) : ∃ r, s.ok R r ∧ (Instr.index t u v).run P w = .ok r w := by
  unfold strIndex at h
  split at h
  case h_2 => cases h
  rename_i l st k n ht hs
  split at h
  case h_2 => cases h
  rename_i q' hw
  obtain rfl := strS_ok hs hx
  obtain rfl : v = .int k n.den := hi
  have key : (∀ p ∈ q', p) → ∃ b : UInt8, byteAt st n.den.toNat = b.toNat ∧ (Instr.index t (.string st) (.int k n.den)).run P w = .ok (.int .u8 b.toNat) w := by
    intro hq'
    obtain ⟨h1, h2⟩ := within_ok hw hq'
    rw [mkSN_den] at h2
    obtain ⟨b, hb, e⟩ := byteAt_some (s := st) (i := n.den.toNat) (by omega)
    refine ⟨b, e, ?_⟩
    simp [Instr.index, asIntOf, Sem.run_bind, run_underlying (isStrT_ok ht), h1, hb]
  split at h
  · cases h
    obtain ⟨b, e, hr⟩ := key hq
    refine ⟨_, rfl, ?_⟩
    rw [hr]
    have e : byteAt st _ = (b.toNat : Int) := e
    simp only [SI.den] at e ⊢
    rw [e]
  · cases h
    obtain ⟨b, e, hr⟩ := key hq
    refine ⟨_, rfl, ?_⟩
    rw [hr]
    simp only [SI.den] at e ⊢
    rw [e]
theorem xop3_ok {T : Tm} {a : Act} {o : Oper} {q : List Prop} {s : SV} {m' : SMem} (h : xop3 P T m o.op = .ok q s m') (hq : ∀ p ∈ q, p) (hT : TmOk R T a) (hR : Rel n0 F w0 R m w) :
    Does n0 F w0 w m R m' s fun w' v => Ends P a o w w' v := by
  have of1 : ∀ {r : Option SV}, XR.one m r = .ok q s m' → r = some s ∧ m' = m := by
    intro r hr
    cases r with
    | none => cases hr
    | some y => cases hr; exact ⟨rfl, rfl⟩
  have of2 : ∀ {r : Option (List Prop × SV)}, XR.of m r = .ok q s m' → r = some (q, s) ∧ m' = m := by
    intro r hr
    cases r with
    | none => cases hr
    | some y => cases hr; exact ⟨rfl, rfl⟩
  generalize ho : o.op = op at h
  unfold xop3 at h
  dsimp only [xop3_a1] at h
  split at h
  · rename_i t x i
    split at h
    · rename_i xs ys hx hy
      obtain ⟨h1, rfl⟩ := of2 h
      obtain ⟨r, k1, k2⟩ := strIndex_ok (w := w) h1 hq (ev_ok hT hx) (ev_ok hT hy)
      exact ⟨R, w, r, ExtN.refl _ _ R, hR, k1, .inl (by simp [execOp, ho, k2])⟩
    · cases h
  · rename_i t x lo hi mx
    unfold xop3_z at h
    split at h
    case h_2 => cases h
    rename_i xs hz hx
    obtain ⟨h1, rfl⟩ := of1 h
    simp only [Bool.and_eq_true] at hz
    have zero : ∀ {y : Option Operand}, isZero T y = true → (y.map a.eval = none) ∨ ∃ k, y.map a.eval = some (.int k 0) := by
      intro y hy
      unfold isZero at hy
      split at hy
      · rename_i he
        cases y with
        | none => exact .inl rfl
        | some y => obtain ⟨z, _, hz⟩ := Option.map_eq_some_iff.1 he; cases hz
      · rename_i k he
        cases y with
        | none => cases he
        | some y =>
          obtain ⟨z, hz, e⟩ := Option.map_eq_some_iff.1 he
          cases e
          have := ev_ok hT hz
          exact .inr ⟨k, congrArg some this⟩
      · cases hy
    have hm : ∃ k, a.eval mx = .int k 0 := by
      rcases zero hz.2 with h | ⟨k, h⟩
      · cases h
      · exact ⟨k, Option.some.inj h⟩
    have hh : ∃ k, a.eval hi = .int k 0 := by
      rcases zero hz.1.2 with h | ⟨k, h⟩
      · cases h
      · exact ⟨k, Option.some.inj h⟩
    obtain ⟨km, em⟩ := hm
    obtain ⟨kh, eh⟩ := hh
    have hl := zero hz.1.1
    have hb : ∀ (n c : Nat), (Instr.sliceBounds true n c (lo.map a.eval) (some (.int kh 0)) (some (.int km 0))).run P w = .ok (0, 0, 0) w := by
      intro n c
      rcases hl with hl | ⟨k, hl⟩ <;> rw [hl] <;> simp [Instr.sliceBounds, Instr.sliceBound, asIntOf]
    have hxa := ev_ok hT hx
    unfold slice00 at h1
    split at h1
    case h_2 => cases h1
    rename_i e hu
    have go : ∀ (b : Option Addr) (n c : Nat), a.eval x = .slice b n c → (sizeOf e).run P w = .ok (n + 0 - n + (sizeS P e).getD 0) w → (Instr.sliceAt t (a.eval x) (lo.map a.eval) (some (a.eval hi)) (some (a.eval mx))).run P w = .ok (.slice b 0 0) w := by
      intro b n c e1 e2
      rw [e1, em, eh]
      simp [Instr.sliceAt, Instr.slice, Sem.run_bind, run_underlying hu, hb, e2]
    split at h1
    · rename_i sz id off n c hs
      cases h1
      obtain ⟨g, c', _, e1, _⟩ := hxa
      obtain ⟨k1, _⟩ := sizeS_ok (w := w) hs
      have := go _ _ _ e1 (by rw [hs]; simpa using k1)
      exact ⟨R, w, .slice (some ⟨g.b, off.den, none⟩) 0 0, ExtN.refl _ _ R, hR, ⟨_, rfl⟩, .inl (by simp [execOp, ho, this])⟩
    · rename_i sz hs
      cases h1
      obtain ⟨b, c, e1⟩ := hxa
      obtain ⟨k1, _⟩ := sizeS_ok (w := w) hs
      have := go _ _ _ e1 (by rw [hs]; simpa using k1)
      exact ⟨R, w, .slice b 0 0, ExtN.refl _ _ R, hR, ⟨_, rfl⟩, .inl (by simp [execOp, ho, this])⟩
    · rename_i sz hs
      cases h1
      obtain ⟨b, e1⟩ := hxa
      obtain ⟨k1, _⟩ := sizeS_ok (w := w) hs
      have := go _ _ _ e1 (by rw [hs]; simpa using k1)
      exact ⟨R, w, .slice b 0 0, ExtN.refl _ _ R, hR, ⟨_, rfl⟩, .inl (by simp [execOp, ho, this])⟩
    · rename_i sz hs
      cases h1
      have e1 := hxa.1
      obtain ⟨k1, _⟩ := sizeS_ok (w := w) hs
      have := go _ _ _ e1 (by rw [hs]; simpa using k1)
      exact ⟨R, w, _, ExtN.refl _ _ R, hR, ⟨rfl, rfl⟩, .inl (by simp [execOp, ho, this])⟩
    · cases h1
  · cases h
theorem xopW_ok {T : Tm} {a : Act} {o : Oper} {q : List Prop} {s : SV} {m' : SMem} (h : xopW P T m o.op = .ok q s m') (hq : ∀ p ∈ q, p) (hT : TmOk R T a) (hR : Rel n0 F w0 R m w) :
    Does n0 F w0 w m R m' s fun w' v => Ends P a o w w' v := by
  unfold xopW at h
  split at h
  · split at h
    · exact xop3_ok h hq hT hR
    · exact xop2_ok h hq hT hR
  · exact xop_ok h hq hT hR
end
end Go.Proofs.YtjjeahnbppmigaaDoor
