/- Of flow: what is met is what is reached. No condition. -/
import Derived.Test.YtpohnmafnpnmeaaMA
import Derived.Test.YtpohnmafnpnmeaaK24
import Derived.Test.YtpohnmafnpnmeaaK23
set_option linter.unusedVariables false
set_option linter.unusedSimpArgs false
namespace Go.Proofs.Ytpohnmafnpnmeaa
set_option maxRecDepth 100000
inductive Rch (nx : Nat → List Nat) (s : Int) (a : Nat) : Nat → Prop
  | refl : (a : Int) ≠ s → Rch nx s a a
  | step {b c : Nat} : Rch nx s a b → c ∈ nx b → (c : Int) ≠ s → Rch nx s a c
section
variable {nx : Nat → List Nat} {s : Int}
theorem Rch.head {a b c : Nat} (ha : (a : Int) ≠ s) (hb : b ∈ nx a) (h : Rch nx s b c) : Rch nx s a c := by
  induction h with
  | refl h => exact .step (.refl ha) hb h
  | step _ h1 h2 ih => exact .step ih h1 h2
theorem Rch.le {n a b : Nat} (hx : ∀ i, i ≤ n → ∀ j ∈ nx i, j ≤ n) (ha : a ≤ n) (h : Rch nx s a b) : b ≤ n := by
  induction h with
  | refl => exact ha
  | step _ h1 _ ih => exact hx _ ih _ h1
variable {n : Nat} (hx : ∀ i, i ≤ n → ∀ j ∈ nx i, j ≤ n) (hn : n < 128)
include hx hn
theorem meetN_sound : ∀ (k i : Nat) (ws : Array Value), i ≤ n → IsW ws → ∀ j, bitW (meetN nx s k i ws) j = true → bitW ws j = true ∨ Rch nx s i j
  | 0, _, _, _, _, _, hj => .inl hj
  | k + 1, i, ws, hi, h, j, hj => by
    rw [meetN_succ] at hj
    split at hj
    · exact .inl hj
    rename_i hs
    split at hj
    · exact .inl hj
    have ha := h.add (i := i) (by omega)
    have go : ∀ (l : List Nat) (w : Array Value), (∀ j ∈ l, j ≤ n) → IsW w → bitW (l.foldl (fun w b => meetN nx s k b w) w) j = true → bitW w j = true ∨ ∃ b ∈ l, Rch nx s b j := by
      intro l
      induction l with
      | nil => intro w _ _ h; exact .inl h
      | cons b l ih =>
        intro w hl h1 h2
        have hb := hl b (List.mem_cons_self ..)
        rcases ih _ (fun j hj => hl j (List.mem_cons_of_mem _ hj)) (meetN_keep hx hn k b w hb h1).1 h2 with h3 | ⟨c, hc, h3⟩
        · rcases meetN_sound k b w hb h1 j h3 with h4 | h4
          · exact .inl h4
          · exact .inr ⟨b, List.mem_cons_self .., h4⟩
        · exact .inr ⟨c, List.mem_cons_of_mem _ hc, h3⟩
    rcases go _ _ (hx i hi) ha hj with h1 | ⟨b, hb, h1⟩
    · rw [bitW_add h (by omega), Bool.or_eq_true, decide_eq_true_eq] at h1
      rcases h1 with rfl | h1
      · exact .inr (.refl hs)
      · exact .inl h1
    · exact .inr (Rch.head hs hb h1)
theorem meetN_full : ∀ (k i : Nat) (ws : Array Value), i ≤ n → IsW ws → unmet ws (n + 1) < k → ((i : Int) ≠ s → bitW (meetN nx s k i ws) i = true) ∧
    ∀ j c, j ≤ n → bitW (meetN nx s k i ws) j = true → bitW ws j = false → c ∈ nx j → (c : Int) ≠ s → bitW (meetN nx s k i ws) c = true
  | 0, _, _, _, _, hk => absurd hk (Nat.not_lt_zero _)
  | k + 1, i, ws, hi, h, hk => by
    rw [meetN_succ]
    split
    · rename_i hs
      exact ⟨fun h => absurd hs h, fun j c _ h1 h2 => by rw [h1] at h2; cases h2⟩
    rename_i hs
    split
    · rename_i hb
      exact ⟨fun _ => hb, fun j c _ h1 h2 => by rw [h1] at h2; cases h2⟩
    rename_i hb
    have hb : bitW ws i = false := by simpa using hb
    have ha := h.add (i := i) (by omega)
    have hbit : ∀ j, bitW ws j = true → bitW (addW ws i) j = true := fun j hj => by rw [bitW_add h (by omega), hj, Bool.or_true]
    have hun : unmet (addW ws i) (n + 1) < k := by
      have := unmet_lt hbit hb (by rw [bitW_add h (by omega)]; simp) (k := n + 1) (by omega)
      omega
    have keep : ∀ (l : List Nat) (w : Array Value), (∀ j ∈ l, j ≤ n) → IsW w → IsW (l.foldl (fun w b => meetN nx s k b w) w) ∧ ∀ j, bitW w j = true → bitW (l.foldl (fun w b => meetN nx s k b w) w) j = true := by
      intro l
      induction l with
      | nil => intro w _ h1; exact ⟨h1, fun _ h => h⟩
      | cons b l ih =>
        intro w hl h1
        obtain ⟨k1, k2⟩ := meetN_keep (s := s) hx hn k b w (hl b (List.mem_cons_self ..)) h1
        obtain ⟨k3, k4⟩ := ih _ (fun j hj => hl j (List.mem_cons_of_mem _ hj)) k1
        exact ⟨k3, fun j hj => k4 j (k2 j hj)⟩
    have go : ∀ (l : List Nat) (w : Array Value), (∀ j ∈ l, j ≤ n) → IsW w → unmet w (n + 1) < k → (∀ b ∈ l, (b : Int) ≠ s → bitW (l.foldl (fun w b => meetN nx s k b w) w) b = true) ∧
        ∀ j c, j ≤ n → bitW (l.foldl (fun w b => meetN nx s k b w) w) j = true → bitW w j = false → c ∈ nx j → (c : Int) ≠ s → bitW (l.foldl (fun w b => meetN nx s k b w) w) c = true := by
      intro l
      induction l with
      | nil =>
        intro w _ _ _
        exact ⟨fun _ h => (by cases h), fun j c _ h1 h2 => by
          have h1 : bitW w j = true := h1
          rw [h1] at h2; cases h2⟩
      | cons b l ih =>
        intro w hl h1 h2
        have hb := hl b (List.mem_cons_self ..)
        have hl' : ∀ j ∈ l, j ≤ n := fun j hj => hl j (List.mem_cons_of_mem _ hj)
        obtain ⟨k1, k2⟩ := meetN_keep (s := s) hx hn k b w hb h1
        obtain ⟨f1, f2⟩ := meetN_full k b w hb h1 h2
        obtain ⟨g1, g2⟩ := ih _ hl' k1 (Nat.lt_of_le_of_lt (unmet_mono k2 (n + 1)) h2)
        obtain ⟨_, k4⟩ := keep l (meetN nx s k b w) hl' k1
        refine ⟨fun x hx hxs => ?_, fun j c hj h3 h4 hc hcs => ?_⟩
        · rcases List.mem_cons.1 hx with rfl | hx
          · exact k4 _ (f1 hxs)
          · exact g1 x hx hxs
        · cases h5 : bitW (meetN nx s k b w) j with
          | true => exact k4 _ (f2 j c hj h5 h4 hc hcs)
          | false => exact g2 j c hj h3 h5 hc hcs
    obtain ⟨g1, g2⟩ := go _ _ (hx i hi) ha hun
    obtain ⟨_, k4⟩ := keep _ _ (hx i hi) ha
    refine ⟨fun _ => k4 i (by rw [bitW_add h (by omega)]; simp), fun j c hj h1 h2 hc hcs => ?_⟩
    cases h3 : bitW (addW ws i) j with
    | false => exact g2 j c hj h1 h3 hc hcs
    | true =>
      rw [bitW_add h (by omega), h2, Bool.or_false, decide_eq_true_eq] at h3
      subst h3
      exact g1 c hc hcs
theorem meetN_iff {k i : Nat} {ws : Array Value} (hi : i ≤ n) (h : IsW ws) (h0 : ∀ j, bitW ws j = false) (hk : n + 1 < k) (j : Nat) : bitW (meetN nx s k i ws) j = true ↔ Rch nx s i j := by
  refine ⟨fun hj => ?_, fun hj => ?_⟩
  · rcases meetN_sound hx hn k i ws hi h j hj with h1 | h1
    · rw [h0] at h1; cases h1
    · exact h1
  · obtain ⟨f1, f2⟩ := meetN_full (s := s) hx hn k i ws hi h (Nat.lt_of_le_of_lt (unmet_le ws (n + 1)) hk)
    induction hj with
    | refl h => exact f1 h
    | step hb h1 h2 ih => exact f2 _ _ (hb.le hx hi) ih (h0 _) h1 h2
end
def noW : Array Value := #[.int .u64 0, .int .u64 0]
theorem noW_ok : IsW noW := ⟨rfl, fun j hj => by match j, hj with | 0, _ => rfl | 1, _ => rfl, fun j hj => ⟨0, by omega, by match j, hj with | 0, _ => rfl | 1, _ => rfl⟩⟩
theorem noW_bit (j : Nat) : bitW noW j = false := by
  unfold bitW
  have e : intAt noW (j / 64) = 0 := by
    match j / 64 with
    | 0 => rfl
    | 1 => rfl
    | k + 2 => rfl
  rw [e]; exact Nat.zero_testBit _
def frW (cs : Array Value) (off n : Nat) (a s : Int) : Array Value := mtK 66 cs off n s a noW
theorem frW_iff {cs : Array Value} {off n : Nat} {i : Nat} {s : Int} (hI : InsOk cs off n) (hM : mayV cs off n = true) (hi : i ≤ n) (j : Nat) : bitW (frW cs off n i s) j = true ↔ Rch (toL cs off n) s i j := by
  have n64 := (mayV_iff.1 hM).1
  exact meetN_iff (toL_le hI hM) (by omega) hi noW_ok noW_bit (by omega) j
theorem frW_ok {cs : Array Value} {off n : Nat} {i : Nat} {s : Int} (hI : InsOk cs off n) (hM : mayV cs off n = true) (hi : i ≤ n) : IsW (frW cs off n i s) :=
  (meetN_keep (toL_le hI hM) (by have := (mayV_iff.1 hM).1; omega) 66 i noW hi noW_ok).1
theorem from_good {cs : Array Value} {off n : Nat} {a s : Int} (ty : TypeId) (hI : InsOk cs off n) (hM : mayV cs off n = true) (h0 : 0 ≤ a) (hn : a ≤ n) :
    Good Try.prog (fun s0 m' => s0 = agg (frW cs off n a s) ∧ m' = mkM 1 [(0, ⟨.raw cs, ty, false⟩)]) 1 (fromC off n a s) (mkM 1 [(0, ⟨.raw cs, ty, false⟩)]) := by
  refine Good.ret [] (run_vc (EMt_ok 66) 4000 (from_vc (mtK 66) (mtP 66) cs ty off n a s (frW cs off n a s)) ?_ (fun _ _ h => h) (fun _ _ h => h.elim))
  have hP : mtP 66 cs off n s a noW := ⟨hI, hM, noW_ok, ⟨h0, hn⟩, by have := unmet_le noW (n + 1); have := (mayV_iff.1 hM).1; omega⟩
  have hz : (mtK 66 cs off n s a noW).size = 2 := by
    obtain ⟨i, rfl⟩ : ∃ i : Nat, a = (i : Int) := ⟨a.toNat, by omega⟩
    exact (frW_ok (s := s) hI hM (i := i) (by omega)).size
  exact ⟨⟨hP, trivial⟩, ⟨hz, trivial⟩, ⟨hz, hz, trivial⟩, ⟨hz, trivial⟩, rfl, rfl, rfl, trivial⟩
end Go.Proofs.Ytpohnmafnpnmeaa
/- Of code: there and back again. No condition. -/
namespace Go.Proofs.Ytpohnmafnpnmeaa
set_option linter.unusedSectionVars false
theorem encB_size (cs : Array Value) (off n : Nat) : (encB cs off n).size = 6 * n := by
  unfold encB
  rw [strOf_size, encL_len]; omega
theorem encB_at {cs : Array Value} {off n i t : Nat} {x : Int} (hi : i < n) (ht : t < 6) (hx : (six (ins cs off i))[t]? = some (u8V x)) (hr : 0 ≤ x ∧ x ≤ 255) : byteAt (encB cs off n) (6 * i + t) = x := by
  unfold encB
  rw [byteAt_strOf]
  have h := parts_at (f := fun i => six (ins cs off i)) (c := 6) (fun _ => rfl) hi ht
  have e : (encL cs off n)[6 * i + t]? = some (u8V x) := by
    rw [show 6 * i + t = i * 6 + t by omega, ← hx]
    exact h
  rw [e]
  show ((UInt8.ofNat x.toNat).toNat : Int) = x
  rw [UInt8.toNat_ofNat']
  omega
theorem six_at {cs : Array Value} {off n i : Nat} (hi : i < n) (hr : (ins cs off i).In) : insD (encB cs off n) i = ins cs off i := by
  obtain ⟨r1, r2, r3, r4, r5⟩ := hr
  obtain ⟨e1, e2⟩ := lohi_eq r5
  refine Ins.ext' (encB_at (t := 0) hi (by decide) rfl r1) (encB_at (t := 1) hi (by decide) rfl r2) (encB_at (t := 2) hi (by decide) rfl r3) (encB_at (t := 3) hi (by decide) rfl r4) ?_
  show word _ _ = _
  rw [encB_at (t := 4) (x := lo (ins cs off i).n) hi (by decide) rfl (by omega), encB_at (t := 5) (x := hiB (ins cs off i).n) hi (by decide) rfl (by omega), word_eq (by omega) (by omega)]
  omega
theorem dec_ins {s : ByteArray} {k i : Nat} (hi : i < k) : ins (decL s k).toArray 0 i = insD s i := (ins_dec s hi).1
theorem mayV_congr {cs ds : Array Value} {off off' n : Nat} (h : ∀ i, i < n → ins cs off i = ins ds off' i) : mayV cs off n = mayV ds off' n := by
  rw [Bool.eq_iff_iff, mayV_iff, mayV_iff]
  exact ⟨fun ⟨a, b⟩ => ⟨a, fun i hi => by rw [← h i hi]; exact b i hi⟩, fun ⟨a, b⟩ => ⟨a, fun i hi => by rw [h i hi]; exact b i hi⟩⟩
section
variable {cs : Array Value} {off n : Nat} (hI : InsOk cs off n)
include hI
theorem enc_dec {i : Nat} (hi : i < n) : ins (decL (encB cs off n) n).toArray 0 i = ins cs off i := by
  rw [dec_ins hi, six_at hi (hI.2 i hi).2]
omit hI in
theorem enc_div : (encB cs off n).size / 6 = n := by rw [encB_size]; omega
theorem enc_decOk (hm : mayV cs off n = true) : decOk (encB cs off n) = true := by
  unfold decOk
  have h := (mayV_iff.1 hm).1
  rw [enc_div, decide_eq_true (by rw [encB_size]; omega), Bool.true_and, ← hm]
  exact mayV_congr fun i hi => enc_dec hI hi
end
end Go.Proofs.Ytpohnmafnpnmeaa
/- Of flow: rows, as contracts read them. No condition. -/
namespace Go.Proofs.Ytpohnmafnpnmeaa
set_option linter.unusedSectionVars false
set_option maxRecDepth 100000
noncomputable section
def rowR (m : SMem) (i : Nat) : Option (Array Value) := match getB m.bl i with
  | some ⟨.pop cs, _, _⟩ => some cs
  | _ => none
end
theorem rowR_of {m : SMem} {i : Nat} {cs : Array Value} (h : rowR m i = some cs) : ∃ ty wr, getB m.bl i = some ⟨.pop cs, ty, wr⟩ := by
  unfold rowR at h
  split at h
  · rename_i e; cases h; exact ⟨_, _, e⟩
  · cases h
theorem bool_ok {b : Bool} {s : SV} {m' : SMem} {R R' : Ren} {v : Value} (h : boolR b s m') (hv : s.ok R' v) : (sB (.o b)).ok R v := by
  unfold boolR at h
  split at h
  · have hv : v = .bool _ := hv
    rw [hv, h]; rfl
  · exact h.elim
end Go.Proofs.Ytpohnmafnpnmeaa
/- Of flow: what is promised so far. No condition. -/
namespace Go.Proofs.Ytpohnmafnpnmeaa
set_option maxRecDepth 100000
noncomputable section
def rawI (m : SMem) (i : Nat) : Option (Array Value) := match getB m.bl i with
  | some ⟨.raw cs, _, _⟩ => some cs
  | _ => none
def frT (m : SMem) : List SV → Option Tree
  | [.s (.c (.f (.slice i o n _))), .s (.c (.f (.int .i64 a))), .s (.c (.f (.int .i64 s)))] => match rawI m i with
    | some cs => some (needs [InsOk cs o.den n.den, mayV cs o.den n.den = true, 0 ≤ a.den, a.den ≤ (n.den : Int)] (.ret (agg (frW cs o.den n.den a.den s.den)) m))
    | none => none
  | _ => none
def conA (g : FuncId) (l : List SV) (m : SMem) : Option Tree := match g, l with
  | 6, [] => some (needs [] (.ret (sB (.l true)) m))
  | 29, [x] => mayT m x
  | 19, [x] => encT m x
  | 35, [x] => decT m x
  | 32, l => frT m l
  | _, _ => none
def EAL : Env := ⟨Try.prog, fnOf, conA, fun _ _ _ => false⟩
end
theorem fn35 : E0.fn 32 = some Try.f32 := by kernel_rfl
theorem body35 : Try.f32.body = some (Try.f32.body.getD .skip) := by kernel_rfl
theorem rawI_of {m : SMem} {i : Nat} {cs : Array Value} (h : rawI m i = some cs) : ∃ ty wr, getB m.bl i = some ⟨.raw cs, ty, wr⟩ := by
  unfold rawI at h
  split at h
  · rename_i e; cases h; exact ⟨_, _, e⟩
  · cases h
theorem Con.rawN {g : FuncId} {fn : Func} {c : Code} {m : SMem} {i : Nat} {o n : SN} {cap : SK} {cs : Array Value} {q : List Prop} {s0 : SV} {A : SV → SMem → Prop} {l l' : List SV} (h1 : E0.fn g = some fn) (h2 : fn.body = some c) (hr : rawI m i = some cs)
    (hl : ∀ R R' vs, All2 (SV.ok R) l vs → All2 (SV.ok R') l' vs)
    (good : ∀ ty, (∀ p ∈ q, p) → Good Try.prog A 1 [callFr g fn.ntmps (prS o.den n.den :: l') c] (mkM 1 [(0, ⟨.raw cs, ty, false⟩)])) (hs : ∀ s m' R R' v, A s m' → s.ok R' v → s0.ok R v) :
    Con E0 g (.s (.c (.f (.slice i o n cap))) :: l) m (needs q (.ret s0 m)) := by
  obtain ⟨ty, wr, hb⟩ := rawI_of hr
  refine Con.ro E0_ok (l' := prS o.den n.den :: l') (ms := mkM 1 [(0, ⟨.raw cs, ty, false⟩)]) (A := A) h1 h2 rfl (fun _ => i) ?_ ?_ (good ty) hs
  · intro j b hj
    obtain ⟨rfl, rfl⟩ := prM_get (v := true) hj
    exact ⟨Nat.zero_lt_one, rfl, _, hb, rfl, fun R cs' h => h⟩
  · intro R vs ha
    match vs, ha with
    | x :: vs, ha =>
      obtain ⟨⟨gl, cp, e1, e2, e3, e4⟩, ha⟩ := ha
      exact ⟨⟨gl, cp, by unfold pull; exact e1, e2, trivial, e4⟩, hl _ _ _ ha⟩
theorem ints_ok {a s : SI} : ∀ (R R' : Ren) (vs : List Value), All2 (SV.ok R) [i64 a, i64 s] vs → All2 (SV.ok R') [i64 (.o a.den), i64 (.o s.den)] vs := by
  intro R R' vs h
  match vs, h with
  | [x, y], h => exact h
theorem frT_ok {m : SMem} {l : List SV} {t : Tree} (h : frT m l = some t) : Con E0 32 l m t := by
  unfold frT at h
  split at h
  · rename_i i o n cap a s
    split at h
    · rename_i cs e
      cases h
      refine Con.rawN fn35 body35 e (l' := [i64 (.o a.den), i64 (.o s.den)]) (A := fun s0 _ => s0 = agg (frW cs o.den n.den a.den s.den)) ints_ok (fun ty hq => ?_) (fun s m' R R' v h hv => ?_)
      · exact (from_good ty (hq _ (by simp)) (hq _ (by simp)) (hq _ (by simp)) (hq _ (by simp))).mono fun _ _ h => h.1
      · rw [h] at hv
        exact hv
    · cases h
  · cases h
theorem conA_ok (g : FuncId) (l : List SV) (m : SMem) (t : Tree) (h : conA g l m = some t) : Con E0 g l m t := by
  unfold conA at h
  split at h
  · cases h; exact wakes_con m
  · exact mayT_ok h
  · exact encT_ok h
  · exact decT_ok h
  · exact frT_ok h
  · cases h
theorem EAL_ok : EnvOk EAL := EnvOk.with E0_ok _ _ conA_ok
end Go.Proofs.Ytpohnmafnpnmeaa
/- Of flow: behind, and the reference's Edge: their states. No condition. -/
namespace Go.Proofs.Ytpohnmafnpnmeaa
noncomputable section
def rawM (cs : Array Value) (ty : TypeId) : SMem := mkM 1 [(0, ⟨.raw cs, ty, false⟩)]
def beC (off n : Nat) (a : Int) : List SFr := [callFr 34 Try.f34.ntmps [prS off n, i64 (.o a)] (Try.f34.body.getD .skip)]
end
end Go.Proofs.Ytpohnmafnpnmeaa
/- Of flow: behind, has, and the reference's Edge, as propositions. No condition. -/
namespace Go.Proofs.Ytpohnmafnpnmeaa
set_option maxRecDepth 100000
theorem be_vc (cs : Array Value) (ty : TypeId) (off n : Nat) (a : Int) (rs : Array Value) : (run EAL 4000 1 (beC off n a) (rawM cs ty)).vc (retOk 1 [] (agg rs) (rawM cs ty)) (fun _ _ => False) =
    (((decide (a < (0 : Int)) == false) = true → (decide (a ≥ (↑n : Int)) = true → rs = #[Value.int IntKind.u64 (0 : Int), Value.int IntKind.u64 (0 : Int)] ∧ ty = ty ∧ cs = cs ∧ True) ∧ (decide (a ≥ (↑n : Int)) = false → (((0 : Int) ≤ a ∧ a < (↑n : Int)) ∧ True) ∧ (IsInt IntKind.u16 cs (off + Int.toNat a * 5 + 4) ∧ True) ∧ (((0 : Int) ≤ a ∧ a < (↑n : Int)) ∧ True) ∧ (IsInt IntKind.u8 cs (off + Int.toNat a * 5) ∧ True) ∧ ((intAt cs (off + Int.toNat a * 5) == (0 : Int)) = true → rs = #[Value.int IntKind.u64 (0 : Int), Value.int IntKind.u64 (0 : Int)] ∧ ty = ty ∧ cs = cs ∧ True) ∧ ((intAt cs (off + Int.toNat a * 5) == (0 : Int)) = false → ((intAt cs (off + Int.toNat a * 5) == (5 : Int)) = true → (InsOk cs off n ∧ mayV cs off n = true ∧ (0 : Int) ≤ IntKind.wrap IntKind.i64 (intAt cs (off + Int.toNat a * 5 + 4)) ∧ IntKind.wrap IntKind.i64 (intAt cs (off + Int.toNat a * 5 + 4)) ≤ (↑n : Int) ∧ True) ∧ (IsInt IntKind.u64 (frW cs off n (IntKind.wrap IntKind.i64 (intAt cs (off + Int.toNat a * 5 + 4))) (-1 : Int)) (0 : Nat) ∧ True) ∧ (IsInt IntKind.u64 (frW cs off n (IntKind.wrap IntKind.i64 (intAt cs (off + Int.toNat a * 5 + 4))) (-1 : Int)) (1 : Nat) ∧ True) ∧ rs = #[Value.int IntKind.u64 (ari BinOp.or IntKind.u64 (0 : Int) (intAt (frW cs off n (IntKind.wrap IntKind.i64 (intAt cs (off + Int.toNat a * 5 + 4))) (-1 : Int)) (0 : Nat))), Value.int IntKind.u64 (ari BinOp.or IntKind.u64 (0 : Int) (intAt (frW cs off n (IntKind.wrap IntKind.i64 (intAt cs (off + Int.toNat a * 5 + 4))) (-1 : Int)) (1 : Nat)))] ∧ ty = ty ∧ cs = cs ∧ True) ∧ ((intAt cs (off + Int.toNat a * 5) == (5 : Int)) = false → ((intAt cs (off + Int.toNat a * 5) == (6 : Int)) = true → (((if ari BinOp.add IntKind.i64 a (1 : Int) > IntKind.wrap IntKind.i64 (intAt cs (off + Int.toNat a * 5 + 4)) then ari BinOp.add IntKind.i64 a (1 : Int) else IntKind.wrap IntKind.i64 (intAt cs (off + Int.toNat a * 5 + 4))) == if ari BinOp.add IntKind.i64 a (1 : Int) < IntKind.wrap IntKind.i64 (intAt cs (off + Int.toNat a * 5 + 4)) then ari BinOp.add IntKind.i64 a (1 : Int) else IntKind.wrap IntKind.i64 (intAt cs (off + Int.toNat a * 5 + 4))) = true → (InsOk cs off n ∧ mayV cs off n = true ∧ ((0 : Int) ≤ if ari BinOp.add IntKind.i64 a (1 : Int) < IntKind.wrap IntKind.i64 (intAt cs (off + Int.toNat a * 5 + 4)) then ari BinOp.add IntKind.i64 a (1 : Int) else IntKind.wrap IntKind.i64 (intAt cs (off + Int.toNat a * 5 + 4))) ∧ (if ari BinOp.add IntKind.i64 a (1 : Int) < IntKind.wrap IntKind.i64 (intAt cs (off + Int.toNat a * 5 + 4)) then ari BinOp.add IntKind.i64 a (1 : Int) else IntKind.wrap IntKind.i64 (intAt cs (off + Int.toNat a * 5 + 4))) ≤ (↑n : Int) ∧ True) ∧ (IsInt IntKind.u64 (frW cs off n (if ari BinOp.add IntKind.i64 a (1 : Int) < IntKind.wrap IntKind.i64 (intAt cs (off + Int.toNat a * 5 + 4)) then ari BinOp.add IntKind.i64 a (1 : Int) else IntKind.wrap IntKind.i64 (intAt cs (off + Int.toNat a * 5 + 4))) (-1 : Int)) (0 : Nat) ∧ True) ∧ (IsInt IntKind.u64 (frW cs off n (if ari BinOp.add IntKind.i64 a (1 : Int) < IntKind.wrap IntKind.i64 (intAt cs (off + Int.toNat a * 5 + 4)) then ari BinOp.add IntKind.i64 a (1 : Int) else IntKind.wrap IntKind.i64 (intAt cs (off + Int.toNat a * 5 + 4))) (-1 : Int)) (1 : Nat) ∧ True) ∧ rs = #[Value.int IntKind.u64 (ari BinOp.or IntKind.u64 (0 : Int) (intAt (frW cs off n (if ari BinOp.add IntKind.i64 a (1 : Int) < IntKind.wrap IntKind.i64 (intAt cs (off + Int.toNat a * 5 + 4)) then ari BinOp.add IntKind.i64 a (1 : Int) else IntKind.wrap IntKind.i64 (intAt cs (off + Int.toNat a * 5 + 4))) (-1 : Int)) (0 : Nat))), Value.int IntKind.u64 (ari BinOp.or IntKind.u64 (0 : Int) (intAt (frW cs off n (if ari BinOp.add IntKind.i64 a (1 : Int) < IntKind.wrap IntKind.i64 (intAt cs (off + Int.toNat a * 5 + 4)) then ari BinOp.add IntKind.i64 a (1 : Int) else IntKind.wrap IntKind.i64 (intAt cs (off + Int.toNat a * 5 + 4))) (-1 : Int)) (1 : Nat)))] ∧ ty = ty ∧ cs = cs ∧ True) ∧ (((if ari BinOp.add IntKind.i64 a (1 : Int) > IntKind.wrap IntKind.i64 (intAt cs (off + Int.toNat a * 5 + 4)) then ari BinOp.add IntKind.i64 a (1 : Int) else IntKind.wrap IntKind.i64 (intAt cs (off + Int.toNat a * 5 + 4))) == if ari BinOp.add IntKind.i64 a (1 : Int) < IntKind.wrap IntKind.i64 (intAt cs (off + Int.toNat a * 5 + 4)) then ari BinOp.add IntKind.i64 a (1 : Int) else IntKind.wrap IntKind.i64 (intAt cs (off + Int.toNat a * 5 + 4))) = false → (InsOk cs off n ∧ mayV cs off n = true ∧ ((0 : Int) ≤ if ari BinOp.add IntKind.i64 a (1 : Int) < IntKind.wrap IntKind.i64 (intAt cs (off + Int.toNat a * 5 + 4)) then ari BinOp.add IntKind.i64 a (1 : Int) else IntKind.wrap IntKind.i64 (intAt cs (off + Int.toNat a * 5 + 4))) ∧ (if ari BinOp.add IntKind.i64 a (1 : Int) < IntKind.wrap IntKind.i64 (intAt cs (off + Int.toNat a * 5 + 4)) then ari BinOp.add IntKind.i64 a (1 : Int) else IntKind.wrap IntKind.i64 (intAt cs (off + Int.toNat a * 5 + 4))) ≤ (↑n : Int) ∧ True) ∧ (IsInt IntKind.u64 (frW cs off n (if ari BinOp.add IntKind.i64 a (1 : Int) < IntKind.wrap IntKind.i64 (intAt cs (off + Int.toNat a * 5 + 4)) then ari BinOp.add IntKind.i64 a (1 : Int) else IntKind.wrap IntKind.i64 (intAt cs (off + Int.toNat a * 5 + 4))) (-1 : Int)) (0 : Nat) ∧ True) ∧ (IsInt IntKind.u64 (frW cs off n (if ari BinOp.add IntKind.i64 a (1 : Int) < IntKind.wrap IntKind.i64 (intAt cs (off + Int.toNat a * 5 + 4)) then ari BinOp.add IntKind.i64 a (1 : Int) else IntKind.wrap IntKind.i64 (intAt cs (off + Int.toNat a * 5 + 4))) (-1 : Int)) (1 : Nat) ∧ True) ∧ (InsOk cs off n ∧ mayV cs off n = true ∧ ((0 : Int) ≤ if ari BinOp.add IntKind.i64 a (1 : Int) > IntKind.wrap IntKind.i64 (intAt cs (off + Int.toNat a * 5 + 4)) then ari BinOp.add IntKind.i64 a (1 : Int) else IntKind.wrap IntKind.i64 (intAt cs (off + Int.toNat a * 5 + 4))) ∧ (if ari BinOp.add IntKind.i64 a (1 : Int) > IntKind.wrap IntKind.i64 (intAt cs (off + Int.toNat a * 5 + 4)) then ari BinOp.add IntKind.i64 a (1 : Int) else IntKind.wrap IntKind.i64 (intAt cs (off + Int.toNat a * 5 + 4))) ≤ (↑n : Int) ∧ True) ∧ (IsInt IntKind.u64 (frW cs off n (if ari BinOp.add IntKind.i64 a (1 : Int) > IntKind.wrap IntKind.i64 (intAt cs (off + Int.toNat a * 5 + 4)) then ari BinOp.add IntKind.i64 a (1 : Int) else IntKind.wrap IntKind.i64 (intAt cs (off + Int.toNat a * 5 + 4))) (-1 : Int)) (0 : Nat) ∧ True) ∧ (IsInt IntKind.u64 (frW cs off n (if ari BinOp.add IntKind.i64 a (1 : Int) > IntKind.wrap IntKind.i64 (intAt cs (off + Int.toNat a * 5 + 4)) then ari BinOp.add IntKind.i64 a (1 : Int) else IntKind.wrap IntKind.i64 (intAt cs (off + Int.toNat a * 5 + 4))) (-1 : Int)) (1 : Nat) ∧ True) ∧ rs = #[Value.int IntKind.u64 (ari BinOp.or IntKind.u64 (ari BinOp.or IntKind.u64 (0 : Int) (intAt (frW cs off n (if ari BinOp.add IntKind.i64 a (1 : Int) < IntKind.wrap IntKind.i64 (intAt cs (off + Int.toNat a * 5 + 4)) then ari BinOp.add IntKind.i64 a (1 : Int) else IntKind.wrap IntKind.i64 (intAt cs (off + Int.toNat a * 5 + 4))) (-1 : Int)) (0 : Nat))) (intAt (frW cs off n (if ari BinOp.add IntKind.i64 a (1 : Int) > IntKind.wrap IntKind.i64 (intAt cs (off + Int.toNat a * 5 + 4)) then ari BinOp.add IntKind.i64 a (1 : Int) else IntKind.wrap IntKind.i64 (intAt cs (off + Int.toNat a * 5 + 4))) (-1 : Int)) (0 : Nat))), Value.int IntKind.u64 (ari BinOp.or IntKind.u64 (ari BinOp.or IntKind.u64 (0 : Int) (intAt (frW cs off n (if ari BinOp.add IntKind.i64 a (1 : Int) < IntKind.wrap IntKind.i64 (intAt cs (off + Int.toNat a * 5 + 4)) then ari BinOp.add IntKind.i64 a (1 : Int) else IntKind.wrap IntKind.i64 (intAt cs (off + Int.toNat a * 5 + 4))) (-1 : Int)) (1 : Nat))) (intAt (frW cs off n (if ari BinOp.add IntKind.i64 a (1 : Int) > IntKind.wrap IntKind.i64 (intAt cs (off + Int.toNat a * 5 + 4)) then ari BinOp.add IntKind.i64 a (1 : Int) else IntKind.wrap IntKind.i64 (intAt cs (off + Int.toNat a * 5 + 4))) (-1 : Int)) (1 : Nat)))] ∧ ty = ty ∧ cs = cs ∧ True)) ∧ ((intAt cs (off + Int.toNat a * 5) == (6 : Int)) = false → (InsOk cs off n ∧ mayV cs off n = true ∧ (0 : Int) ≤ ari BinOp.add IntKind.i64 a (1 : Int) ∧ ari BinOp.add IntKind.i64 a (1 : Int) ≤ (↑n : Int) ∧ True) ∧ (IsInt IntKind.u64 (frW cs off n (ari BinOp.add IntKind.i64 a (1 : Int)) (-1 : Int)) (0 : Nat) ∧ True) ∧ (IsInt IntKind.u64 (frW cs off n (ari BinOp.add IntKind.i64 a (1 : Int)) (-1 : Int)) (1 : Nat) ∧ True) ∧ rs = #[Value.int IntKind.u64 (ari BinOp.or IntKind.u64 (0 : Int) (intAt (frW cs off n (ari BinOp.add IntKind.i64 a (1 : Int)) (-1 : Int)) (0 : Nat))), Value.int IntKind.u64 (ari BinOp.or IntKind.u64 (0 : Int) (intAt (frW cs off n (ari BinOp.add IntKind.i64 a (1 : Int)) (-1 : Int)) (1 : Nat)))] ∧ ty = ty ∧ cs = cs ∧ True))))) ∧ ((decide (a < (0 : Int)) == false) = false → rs = #[Value.int IntKind.u64 (0 : Int), Value.int IntKind.u64 (0 : Int)] ∧ ty = ty ∧ cs = cs ∧ True)) := by kernel_rfl
end Go.Proofs.Ytpohnmafnpnmeaa
/- Of flow: behind, has and the reference's Edge. No condition. -/
namespace Go.Proofs.Ytpohnmafnpnmeaa
set_option maxRecDepth 100000
theorem or64 {w v : Nat} (hw : w < 2 ^ 64) (hv : v < 2 ^ 64) : ari BinOp.or IntKind.u64 (w : Int) (v : Int) = ((w ||| v : Nat) : Int) := by
  rw [ari_or]
  have e1 : ∀ x : Nat, BitVec.ofInt IntKind.u64.bits (x : Int) = BitVec.ofNat 64 x := fun x => BitVec.ofInt_natCast 64 x
  rw [e1, e1]
  have e3 : (BitVec.ofNat 64 w ||| BitVec.ofNat 64 v).toNat = w ||| v := by
    rw [BitVec.toNat_or, BitVec.toNat_ofNat, BitVec.toNat_ofNat, Nat.mod_eq_of_lt hw, Nat.mod_eq_of_lt hv]
  have e4 : ((BitVec.ofNat 64 w ||| BitVec.ofNat 64 v).toNat : Int) = ((w ||| v : Nat) : Int) := by rw [e3]
  exact (congrArg IntKind.u64.wrap e4).trans (u64_nat (Nat.or_lt_two_pow hw hv))
def orW (x y : Array Value) : Array Value := #[.int .u64 (ari BinOp.or IntKind.u64 (intAt x 0) (intAt y 0)), .int .u64 (ari BinOp.or IntKind.u64 (intAt x 1) (intAt y 1))]
theorem orW_at {x y : Array Value} (hx : IsW x) (hy : IsW y) {p : Nat} (hp : p < 2) : ∃ w v : Nat, w < 2 ^ 64 ∧ v < 2 ^ 64 ∧ intAt x p = w ∧ intAt y p = v ∧ (orW x y)[p]? = some (.int .u64 ((w ||| v : Nat) : Int)) := by
  obtain ⟨w, hw, ew⟩ := hx.lt p hp
  obtain ⟨v, hv, ev⟩ := hy.lt p hp
  refine ⟨w, v, hw, hv, ew, ev, ?_⟩
  have e := or64 hw hv
  rw [← ew, ← ev] at e
  rw [← e]
  match p, hp with
  | 0, _ => rfl
  | 1, _ => rfl
theorem orW_ok {x y : Array Value} (hx : IsW x) (hy : IsW y) : IsW (orW x y) := by
  refine ⟨rfl, fun j hj => ?_, fun j hj => ?_⟩
  · obtain ⟨w, v, h1, h2, h3, h4, h5⟩ := orW_at hx hy hj
    unfold IsInt; rw [intAt_of h5]; exact h5
  · obtain ⟨w, v, h1, h2, h3, h4, h5⟩ := orW_at hx hy hj
    exact ⟨w ||| v, Nat.or_lt_two_pow h1 h2, intAt_of h5⟩
theorem orW_bit {x y : Array Value} (hx : IsW x) (hy : IsW y) {i : Nat} (hi : i < 128) : bitW (orW x y) i = (bitW x i || bitW y i) := by
  obtain ⟨w, v, h1, h2, h3, h4, h5⟩ := orW_at hx hy (p := i / 64) (by omega)
  unfold bitW
  rw [intAt_of h5, h3, h4, Int.toNat_natCast, Int.toNat_natCast, Int.toNat_natCast, Nat.testBit_or]
theorem toL_eq {cs : Array Value} {off n i : Nat} (d : ¬ n ≤ i) : toL cs off n i = if intAt cs (off + i * 5) = 0 then [] else if intAt cs (off + i * 5) = 5 then [(intAt cs (off + i * 5 + 4)).toNat] else if intAt cs (off + i * 5) = 6 then
    if (intAt cs (off + i * 5 + 4)).toNat = i + 1 then [i + 1] else [min (i + 1) (intAt cs (off + i * 5 + 4)).toNat, max (i + 1) (intAt cs (off + i * 5 + 4)).toNat] else [i + 1] := by unfold toL; rw [if_neg d]; rfl
def behW (cs : Array Value) (off n i : Nat) : Array Value := (toL cs off n i).foldl (fun w (b : Nat) => orW w (frW cs off n (b : Int) (-1))) noW
section
variable {cs : Array Value} {off n : Nat} (hI : InsOk cs off n) (hM : mayV cs off n = true)
include hI hM
theorem beh_fold {j : Nat} (hj : j ≤ n) : ∀ (l : List Nat) (w : Array Value), (∀ b ∈ l, b ≤ n) → IsW w → IsW (l.foldl (fun w (b : Nat) => orW w (frW cs off n (b : Int) (-1))) w) ∧
    (bitW (l.foldl (fun w (b : Nat) => orW w (frW cs off n (b : Int) (-1))) w) j = true ↔ bitW w j = true ∨ ∃ b ∈ l, Rch (toL cs off n) (-1) b j) := by
  have n64 := (mayV_iff.1 hM).1
  intro l
  induction l with
  | nil => intro w _ h; exact ⟨h, ⟨fun h => .inl h, fun h => by rcases h with h | ⟨_, h, _⟩; exact h; cases h⟩⟩
  | cons b l ih =>
    intro w hl h
    have hb := hl b (List.mem_cons_self ..)
    have hf := frW_ok (s := -1) hI hM hb
    obtain ⟨k1, k2⟩ := ih (orW w (frW cs off n (b : Int) (-1))) (fun j hj => hl j (List.mem_cons_of_mem _ hj)) (orW_ok h hf)
    refine ⟨k1, k2.trans ?_⟩
    rw [orW_bit h hf (by omega), Bool.or_eq_true, frW_iff hI hM hb]
    constructor
    · rintro ((h1 | h1) | ⟨c, hc, h1⟩)
      · exact .inl h1
      · exact .inr ⟨b, List.mem_cons_self .., h1⟩
      · exact .inr ⟨c, List.mem_cons_of_mem _ hc, h1⟩
    · rintro (h1 | ⟨c, hc, h1⟩)
      · exact .inl (.inl h1)
      · rcases List.mem_cons.1 hc with rfl | hc
        · exact .inl (.inr h1)
        · exact .inr ⟨c, hc, h1⟩
theorem behW_ok {i : Nat} (hi : i ≤ n) : IsW (behW cs off n i) := (beh_fold hI hM (Nat.zero_le n) _ _ (toL_le hI hM i hi) noW_ok).1
theorem behW_iff {i j : Nat} (hi : i ≤ n) (hj : j ≤ n) : bitW (behW cs off n i) j = true ↔ ∃ b ∈ toL cs off n i, Rch (toL cs off n) (-1) b j := by
  refine (beh_fold hI hM hj _ _ (toL_le hI hM i hi) noW_ok).2.trans ?_
  rw [noW_bit]
  exact ⟨fun h => h.resolve_left (by decide), .inr⟩
theorem be_good {i : Nat} (ty : TypeId) (hi : i ≤ n) : Good Try.prog (fun s0 m' => s0 = agg (behW cs off n i) ∧ m' = rawM cs ty) 1 (beC off n i) (rawM cs ty) := by
  refine Good.ret [] (run_vc EAL_ok 4000 (be_vc cs ty off n i (behW cs off n i)) ?_ (fun _ _ h => h) (fun _ _ h => h.elim))
  obtain ⟨n64, hA⟩ := mayV_iff.1 hM
  have e0 : decide ((i : Int) < 0) = false := decide_eq_false (by omega)
  by_cases d3 : n ≤ i
  · have e3 : decide ((i : Int) ≥ (n : Int)) = true := decide_eq_true (by omega)
    have et : behW cs off n i = noW := by unfold behW toL; rw [if_pos d3]; rfl
    simp only [e0, e3, et, beqT, beqF, Bool.not_true, Bool.not_false, Bool.true_eq_false, Bool.false_eq_true, false_implies, true_implies, true_and, and_true]
    rfl
  have hlt : i < n := by omega
  have e3 : decide ((i : Int) ≥ (n : Int)) = false := decide_eq_false (by omega)
  obtain ⟨⟨i1, i2, i3, i4, i5⟩, r1, r2, r3, r4, r5⟩ := hI.2 i hlt
  obtain ⟨_, _, _, _, k5⟩ := Ins.okN_iff.1 (hA i hlt)
  have et : toL cs off n i = if intAt cs (off + i * 5) = 0 then [] else if intAt cs (off + i * 5) = 5 then [(intAt cs (off + i * 5 + 4)).toNat] else if intAt cs (off + i * 5) = 6 then
    if (intAt cs (off + i * 5 + 4)).toNat = i + 1 then [i + 1] else [min (i + 1) (intAt cs (off + i * 5 + 4)).toNat, max (i + 1) (intAt cs (off + i * 5 + 4)).toNat] else [i + 1] := by unfold toL; rw [if_neg d3]; rfl
  simp only [ins] at r1 r5 k5
  have eA : ari BinOp.add IntKind.i64 (i : Int) 1 = ((i + 1 : Nat) : Int) := by rw [ari_add, i64_nat (by omega)]
  have eN : IntKind.i64.wrap (intAt cs (off + i * 5 + 4)) = ((intAt cs (off + i * 5 + 4)).toNat : Int) := by rw [Go.IntWalk.i64_in _ (by omega)]; omega
  have w6 : (0 : Int) ≤ (i : Int) ∧ (i : Int) < (n : Int) := by omega
  have hw : ∀ b : Nat, b ≤ n → ∀ p, p < 2 → IsInt IntKind.u64 (frW cs off n (b : Int) (-1)) p := fun b hb p hp => (frW_ok hI hM hb).int p hp
  have hc : ∀ b : Nat, b ≤ n → (0 : Int) ≤ (b : Int) ∧ (b : Int) ≤ (n : Int) := fun b hb => ⟨by omega, by omega⟩
  simp only [Int.toNat_natCast]
  rw [eA, eN]
  have ebe : behW cs off n i = (toL cs off n i).foldl (fun w (b : Nat) => orW w (frW cs off n (b : Int) (-1))) noW := rfl
  generalize hnn : (intAt cs (off + i * 5 + 4)).toNat = nn at et ⊢
  generalize ho : intAt cs (off + i * 5) = o at et r1 k5 ⊢
  by_cases o0 : o = 0
  · have f0 : (o == 0) = true := by rw [o0]; rfl
    rw [if_pos o0] at et
    rw [et] at ebe
    simp only [e0, e3, f0, ebe, w6, i1, i5, List.foldl_nil, beqT, beqF, Bool.not_true, Bool.not_false, Bool.true_eq_false, Bool.false_eq_true, false_implies, true_implies, true_and, and_true]
    rfl
  have f0 : (o == 0) = false := by rw [beq_eq_false_iff_ne]; exact o0
  rw [if_neg o0] at et
  by_cases o5 : o = 5
  · have f5 : (o == 5) = true := by rw [o5]; rfl
    rw [if_pos o5] at et
    rw [et] at ebe
    have h1 := hc nn (by omega)
    simp only [e0, e3, f0, f5, ebe, w6, i1, i5, hI, hM, h1, hw nn (by omega) 0 (by omega), hw nn (by omega) 1 (by omega), List.foldl_nil, List.foldl_cons, beqT, beqF, Bool.not_true, Bool.not_false, Bool.true_eq_false, Bool.false_eq_true, false_implies, true_implies, true_and, and_true]
    rfl
  have f5 : (o == 5) = false := by rw [beq_eq_false_iff_ne]; exact o5
  rw [if_neg o5] at et
  by_cases o6 : o = 6
  · have f6 : (o == 6) = true := by rw [o6]; rfl
    rw [if_pos o6] at et
    have eMin : (if ((i + 1 : Nat) : Int) < (nn : Int) then ((i + 1 : Nat) : Int) else (nn : Int)) = ((min (i + 1) nn : Nat) : Int) := by split <;> omega
    have eMax : (if ((i + 1 : Nat) : Int) > (nn : Int) then ((i + 1 : Nat) : Int) else (nn : Int)) = ((max (i + 1) nn : Nat) : Int) := by split <;> omega
    rw [eMin, eMax]
    have h1 := hc (min (i + 1) nn) (by omega)
    have h2 := hc (max (i + 1) nn) (by omega)
    have g1 := hw (min (i + 1) nn) (by omega) 0 (by omega)
    have g2 := hw (min (i + 1) nn) (by omega) 1 (by omega)
    have g3 := hw (max (i + 1) nn) (by omega) 0 (by omega)
    have g4 := hw (max (i + 1) nn) (by omega) 1 (by omega)
    by_cases d7 : nn = i + 1
    · have f7 : (((max (i + 1) nn : Nat) : Int) == ((min (i + 1) nn : Nat) : Int)) = true := by rw [beq_iff_eq]; omega
      rw [if_pos d7] at et
      have em : min (i + 1) nn = i + 1 := by omega
      rw [et, ← em] at ebe
      simp only [e0, e3, f0, f5, f6, f7, ebe, w6, i1, i5, hI, hM, h1, g1, g2, List.foldl_nil, List.foldl_cons, beqT, beqF, Bool.not_true, Bool.not_false, Bool.true_eq_false, Bool.false_eq_true, false_implies, true_implies, true_and, and_true]
      rfl
    · have f7 : (((max (i + 1) nn : Nat) : Int) == ((min (i + 1) nn : Nat) : Int)) = false := by rw [beq_eq_false_iff_ne]; omega
      rw [if_neg d7] at et
      rw [et] at ebe
      simp only [e0, e3, f0, f5, f6, f7, ebe, w6, i1, i5, hI, hM, h1, h2, g1, g2, g3, g4, List.foldl_nil, List.foldl_cons, beqT, beqF, Bool.not_true, Bool.not_false, Bool.true_eq_false, Bool.false_eq_true, false_implies, true_implies, true_and, and_true]
      rfl
  have f6 : (o == 6) = false := by rw [beq_eq_false_iff_ne]; exact o6
  rw [if_neg o6] at et
  rw [et] at ebe
  have h1 := hc (i + 1) (by omega)
  simp only [e0, e3, f0, f5, f6, ebe, w6, i1, i5, hI, hM, h1, hw (i + 1) (by omega) 0 (by omega), hw (i + 1) (by omega) 1 (by omega), List.foldl_nil, List.foldl_cons, beqT, beqF, Bool.not_true, Bool.not_false, Bool.true_eq_false, Bool.false_eq_true, false_implies, true_implies, true_and, and_true]
  rfl
end
end Go.Proofs.Ytpohnmafnpnmeaa
/- Of flow: what is promised, with behind and Edge. No condition. -/
namespace Go.Proofs.Ytpohnmafnpnmeaa
set_option maxRecDepth 100000
noncomputable section
def beT (m : SMem) : List SV → Option Tree
  | [.s (.c (.f (.slice i o n _))), .s (.c (.f (.int .i64 a)))] => match rawI m i with
    | some cs => some (needs [InsOk cs o.den n.den, mayV cs o.den n.den = true, 0 ≤ a.den, a.den ≤ (n.den : Int)] (.ret (agg (behW cs o.den n.den a.den.toNat)) m))
    | none => none
  | _ => none
def conB (g : FuncId) (l : List SV) (m : SMem) : Option Tree := match g, l with
  | 34, l => beT m l
  | g, l => conA g l m
end
theorem fn32 : E0.fn 34 = some Try.f34 := by kernel_rfl
theorem body32 : Try.f34.body = some (Try.f34.body.getD .skip) := by kernel_rfl
theorem int_ok {a : SI} : ∀ (R R' : Ren) (vs : List Value), All2 (SV.ok R) [i64 a] vs → All2 (SV.ok R') [i64 (.o a.den)] vs := by
  intro R R' vs h
  match vs, h with
  | [x], h => exact h
theorem beT_ok {m : SMem} {l : List SV} {t : Tree} (h : beT m l = some t) : Con E0 34 l m t := by
  unfold beT at h
  split at h
  · rename_i i o n cap a
    split at h
    · rename_i cs e
      cases h
      refine Con.rawN fn32 body32 e (l' := [i64 (.o a.den)]) (A := fun s0 _ => s0 = agg (behW cs o.den n.den a.den.toNat)) int_ok (fun ty hq => ?_) (fun s m' R R' v h hv => ?_)
      · have h3 : 0 ≤ a.den := hq _ (by simp)
        have h4 : a.den ≤ (n.den : Int) := hq _ (by simp)
        have h := be_good (cs := cs) (off := o.den) (n := n.den) (i := a.den.toNat) (hq _ (by simp)) (hq _ (by simp)) ty (by omega)
        rw [show ((a.den.toNat : Nat) : Int) = a.den by omega] at h
        exact h.mono fun _ _ h => h.1
      · rw [h] at hv
        exact hv
    · cases h
  · cases h
theorem conB_ok (g : FuncId) (l : List SV) (m : SMem) (t : Tree) (h : conB g l m = some t) : Con E0 g l m t := by
  unfold conB at h
  split at h
  · exact beT_ok h
  · exact conA_ok _ _ _ _ h
end Go.Proofs.Ytpohnmafnpnmeaa
/- Of flow: functions that make a row; rows of truths. No condition. -/
namespace Go.Proofs.Ytpohnmafnpnmeaa
set_option linter.unusedSectionVars false
set_option maxRecDepth 100000
theorem Con.made {g : FuncId} {fn : Func} {c : Code} {m : SMem} {i : Nat} {o n : SN} {cap : SK} {v : Bool} {cs rs : Array Value} {ty ty' : TypeId} {wr : Bool} {q : List Prop} {S : Nat → SV} {l l' : List SV} (h1 : E0.fn g = some fn) (h2 : fn.body = some c) (hb : getB m.bl i = some ⟨prA v cs, ty, wr⟩)
    (hl : ∀ R R' vs, All2 (SV.ok R) l vs → All2 (SV.ok R') l' vs)
    (good : (∀ p ∈ q, p) → Good Try.prog (fun s m' => s = S 1 ∧ m' = ⟨2, Tr.nil.set 1 (some ⟨.pop rs, ty', true⟩), []⟩) 1 [callFr g fn.ntmps (prS o.den n.den :: l') c] (prM v cs ty))
    (hS : ∀ f : Nat → Nat, (S 1).re f = S (f 1)) :
    Con E0 g (.s (.c (.f (.slice i o n cap))) :: l) m (needs q (.ret (S m.next) (m.new (.pop rs) ty'))) := by
  intro A hs
  obtain ⟨hq, hA⟩ := Tree.sat_needs hs
  refine ⟨fn, h1, by rw [h2]; rfl, fun n0 F w0 w R args ha hR => ?_⟩
  obtain ⟨x, ds, fz, k1, _⟩ := hR.blk _ _ hb
  have hlt := hR.nx _ _ k1
  have hl' : All2 (SV.ok (pull (fun _ => i) 1 R)) (prS o.den n.den :: l') args.toList := by
    revert ha
    generalize args.toList = vs
    intro ha
    match vs, ha with
    | x :: vs, ha =>
      obtain ⟨⟨gl, cp, e1, e2, e3, e4⟩, ha⟩ := ha
      exact ⟨⟨gl, cp, by unfold pull; exact e1, e2, trivial, e4⟩, hl _ _ _ ha⟩
  refine (frame (ms := prM v cs ty) (ms' := ⟨2, Tr.nil.set 1 (some ⟨.pop rs, ty', true⟩), []⟩) (E0_ok.fns g _ h1).1 h2 (good hq) rfl (ι := fun _ => i) ?_ (fun _ _ => hlt) ?_ ?_ ?_ (show 1 ≤ 2 by decide) hl' hR).mono ?_
  · intro a b h1 h2 _
    have h1 : a < 1 := h1
    have h2 : b < 1 := h2
    omega
  · intro j b hj
    obtain ⟨rfl, rfl⟩ := prM_get hj
    refine ⟨Nat.zero_lt_one, _, hb, rfl, fun h => (by cases h), fun R cs' h => ?_⟩
    cases v <;> exact h
  · intro j b hj hw
    obtain ⟨rfl, rfl⟩ := prM_get hj
    cases hw
  · intro j b hj h1
    have h1 : j < 1 := h1
    have e : j = 0 := by omega
    subst e
    have hj : (Option.none : Option SBlk) = some b := hj
    cases hj
  · rintro u w' ⟨R', k1, k2, k3⟩
    rw [hS] at k3
    exact ⟨_, _, R', hA, k1, k2, k3⟩
def boL (f : Nat → Bool) (n : Nat) : Array Value := ((List.range n).map fun i => Value.bool (f i)).toArray
theorem boL_size (f : Nat → Bool) (n : Nat) : (boL f n).size = n := by unfold boL; simp
theorem boL_more {f : Nat → Bool} {i : Nat} {b : Bool} (h : b = f i) : boL f i ++ #[Value.bool b] = boL f (i + 1) := by
  unfold boL; rw [List.range_succ, List.map_append, h]; simp
theorem boL_get (f : Nat → Bool) {n i : Nat} (h : i < n) : (boL f n)[0 + i * 1]? = some (.bool (f i)) := by
  unfold boL; simp [h]
theorem nil_args : ∀ (R R' : Ren) (vs : List Value), All2 (SV.ok R) [] vs → All2 (SV.ok R') [] vs := by
  intro R R' vs h
  match vs, h with
  | [], _ => trivial
theorem i64_add1 {k : Nat} (h : k < 1000) : ari BinOp.add IntKind.i64 (k : Int) 1 = ((k + 1 : Nat) : Int) := by rw [ari_add, i64_nat (by omega)]
noncomputable def slA (k : Nat) : SV := .s (.c (.f (.slice 2 (.l 0) (.o k) (.full 1))))
end Go.Proofs.Ytpohnmafnpnmeaa
/- Of flow: Reached and Loops: their states. No condition. -/
namespace Go.Proofs.Ytpohnmafnpnmeaa
set_option linter.unusedVariables false
noncomputable def boE (ok : Bool) (k : Nat) (rs : Array Value) (s : SV) (m : SMem) : Prop := match s with
  | .tup [.c (.f (.lit (.slice none 0 0))), .c (.f (.int .i64 e))] => ok = false ∧ e.den = 3
  | .tup [.c (.f (.slice sid _ _ _)), .c (.f (.int .i64 _))] => ok = true ∧ retOk 1 [(1, sid)] (.tup [.c (.f (.slice 1 (.l 0) (.o k) .any)), .c (.f (.int .i64 (.l 0)))]) ⟨2, Tr.nil.set 1 (some ⟨.pop rs, 4, true⟩), []⟩ s m
  | _ => False
noncomputable def fn28V : SV := .s (.c (.fn (.func 22) [] []))
noncomputable def fn31V : SV := .s (.c (.fn (.func 33) [] [.ptr 1 (.l 0)]))
noncomputable def EE : Env := ⟨Try.prog, fnOf, conB, haltAt [21006]⟩
noncomputable def eA_d0 : List SIt := sekF Try.f21 6
noncomputable def eA_d1 : List SIt := sekI Try.f8 1 [1, 2, 3, 4, 5]
noncomputable def eA_F (off : Nat) (num : Nat) (cs : Array Value) (ty : TypeId) (ok : Bool) (kF : Nat) (rF : Array Value) (b : Int) (i : Int) (ws : Array Value) : List SFr := [frOf 21 Try.f21 [(0, prS off num), (1, fn28V), (6, ptr 1 (.l 0)), (7, nilV), (16, i64 (.o b)), (17, i64 (.o i))] eA_d0, frOf 8 Try.f8 [(0, prS off num)] eA_d1]
noncomputable def eA_M (off : Nat) (num : Nat) (cs : Array Value) (ty : TypeId) (ok : Bool) (kF : Nat) (rF : Array Value) (b : Int) (i : Int) (ws : Array Value) : SMem := mkM 2 [(0, ⟨.raw cs, ty, false⟩), (1, ⟨.op ws, 68, true⟩)]
noncomputable def eA_n (off : Nat) (num : Nat) (cs : Array Value) (ty : TypeId) (ok : Bool) (kF : Nat) (rF : Array Value) (Q : Int → Int → Array Value → Prop) (fs : List SFr) (m : SMem) : Prop := (match frNth fs 0 with | some f0 => (match rdI f0 16 with | some b => (match rdI f0 17 with | some i => (match rdP f0 6 with | some p1 => (match rdA m p1 with | some ws => Q b i ws ∧ subOk 1 [(1, p1)] (eA_F off num cs ty ok kF rF b i ws) (eA_M off num cs ty ok kF rF b i ws) fs m | none => False) | none => False) | none => False) | none => False) | none => False)
noncomputable def eB_d0 : List SIt := sekF Try.f21 6
noncomputable def eB_d1 : List SIt := sekI Try.f8 1 [1, 2, 3, 4, 5]
noncomputable def eB_F (off : Nat) (num : Nat) (cs : Array Value) (ty : TypeId) (ok : Bool) (kF : Nat) (rF : Array Value) (b : Int) (i : Int) (k : Nat) (ws : Array Value) (rs : Array Value) : List SFr := [frOf 21 Try.f21 [(0, prS off num), (1, fn28V), (6, ptr 1 (.l 0)), (7, slA k), (16, i64 (.o b)), (17, i64 (.o i))] eB_d0, frOf 8 Try.f8 [(0, prS off num)] eB_d1]
noncomputable def eB_M (off : Nat) (num : Nat) (cs : Array Value) (ty : TypeId) (ok : Bool) (kF : Nat) (rF : Array Value) (b : Int) (i : Int) (k : Nat) (ws : Array Value) (rs : Array Value) : SMem := mkM 3 [(0, ⟨.raw cs, ty, false⟩), (1, ⟨.op ws, 68, true⟩), (2, ⟨.pop rs, 4, true⟩)]
noncomputable def eB_n (off : Nat) (num : Nat) (cs : Array Value) (ty : TypeId) (ok : Bool) (kF : Nat) (rF : Array Value) (Q : Int → Int → Nat → Array Value → Array Value → Prop) (fs : List SFr) (m : SMem) : Prop := (match frNth fs 0 with | some f0 => (match rdI f0 16 with | some b => (match rdI f0 17 with | some i => (match rdP f0 6 with | some p1 => (match rdSI f0 7 with | some p2 => (match rdSN f0 7 with | some k => (match rdA m p1 with | some ws => (match rdA m p2 with | some rs => Q b i k ws rs ∧ subOk 1 [(1, p1), (2, p2)] (eB_F off num cs ty ok kF rF b i k ws rs) (eB_M off num cs ty ok kF rF b i k ws rs) fs m | none => False) | none => False) | none => False) | none => False) | none => False) | none => False) | none => False) | none => False)
noncomputable def sE_t (off : Nat) (num : Nat) (cs : Array Value) (ty : TypeId) (ok : Bool) (kF : Nat) (rF : Array Value) : Tree := run EE 8000 1 [callFr 8 Try.f8.ntmps [prS off num] (Try.f8.body.getD .skip)] (rawM cs ty)
noncomputable def sE_x (off : Nat) (num : Nat) (cs : Array Value) (ty : TypeId) (ok : Bool) (kF : Nat) (rF : Array Value) (QeA : Int → Int → Array Value → Prop) (fs : List SFr) (m : SMem) : Prop := eA_n off num cs ty ok kF rF QeA fs m
noncomputable def xA_t (off : Nat) (num : Nat) (cs : Array Value) (ty : TypeId) (ok : Bool) (kF : Nat) (rF : Array Value) (b : Int) (i : Int) (ws : Array Value) : Tree := stepT EE.go (run EE 1000) 1 (eA_F off num cs ty ok kF rF b i ws) (eA_M off num cs ty ok kF rF b i ws)
noncomputable def xA_x (off : Nat) (num : Nat) (cs : Array Value) (ty : TypeId) (ok : Bool) (kF : Nat) (rF : Array Value) (b : Int) (i : Int) (ws : Array Value) (QeB : Int → Int → Nat → Array Value → Array Value → Prop) (fs : List SFr) (m : SMem) : Prop := eB_n off num cs ty ok kF rF QeB fs m
noncomputable def xB_t (off : Nat) (num : Nat) (cs : Array Value) (ty : TypeId) (ok : Bool) (kF : Nat) (rF : Array Value) (b : Int) (i : Int) (k : Nat) (ws : Array Value) (rs : Array Value) : Tree := stepT EE.go (run EE 1000) 1 (eB_F off num cs ty ok kF rF b i k ws rs) (eB_M off num cs ty ok kF rF b i k ws rs)
noncomputable def xB_x (off : Nat) (num : Nat) (cs : Array Value) (ty : TypeId) (ok : Bool) (kF : Nat) (rF : Array Value) (b : Int) (i : Int) (k : Nat) (ws : Array Value) (rs : Array Value) (QeB : Int → Int → Nat → Array Value → Array Value → Prop) (fs : List SFr) (m : SMem) : Prop := eB_n off num cs ty ok kF rF QeB fs m
theorem eA_d0_ok (r : Nat → Option Nat) : TodoOk r eA_d0 eA_d0 := TodoOk.it (by kernel_rfl)
theorem eA_d1_ok (r : Nat → Option Nat) : TodoOk r eA_d1 eA_d1 := TodoOk.it (by kernel_rfl)
theorem eA_good {A : SV → SMem → Prop} {off : Nat} {num : Nat} {cs : Array Value} {ty : TypeId} {ok : Bool} {kF : Nat} {rF : Array Value} {Q : Int → Int → Array Value → Prop} {fs : List SFr} {m : SMem} (H : ∀ b i ws, Q b i ws → Good Try.prog A 1 (eA_F off num cs ty ok kF rF b i ws) (eA_M off num cs ty ok kF rF b i ws)) (hb : eA_n off num cs ty ok kF rF Q fs m) : Good Try.prog A 1 fs m := by
  unfold eA_n at hb
  split at hb
  rotate_left
  · exact hb.elim
  split at hb
  rotate_left
  · exact hb.elim
  split at hb
  rotate_left
  · exact hb.elim
  split at hb
  rotate_left
  · exact hb.elim
  split at hb
  rotate_left
  · exact hb.elim
  exact Good.of_sub hb.2 (H _ _ _ hb.1)
theorem eB_good {A : SV → SMem → Prop} {off : Nat} {num : Nat} {cs : Array Value} {ty : TypeId} {ok : Bool} {kF : Nat} {rF : Array Value} {Q : Int → Int → Nat → Array Value → Array Value → Prop} {fs : List SFr} {m : SMem} (H : ∀ b i k ws rs, Q b i k ws rs → Good Try.prog A 1 (eB_F off num cs ty ok kF rF b i k ws rs) (eB_M off num cs ty ok kF rF b i k ws rs)) (hb : eB_n off num cs ty ok kF rF Q fs m) : Good Try.prog A 1 fs m := by
  unfold eB_n at hb
  split at hb
  rotate_left
  · exact hb.elim
  split at hb
  rotate_left
  · exact hb.elim
  split at hb
  rotate_left
  · exact hb.elim
  split at hb
  rotate_left
  · exact hb.elim
  split at hb
  rotate_left
  · exact hb.elim
  split at hb
  rotate_left
  · exact hb.elim
  split at hb
  rotate_left
  · exact hb.elim
  split at hb
  rotate_left
  · exact hb.elim
  exact Good.of_sub hb.2 (H _ _ _ _ _ hb.1)
theorem sE_go {A : SV → SMem → Prop} {off : Nat} {num : Nat} {cs : Array Value} {ty : TypeId} {ok : Bool} {kF : Nat} {rF : Array Value} {QeA : Int → Int → Array Value → Prop} {fs : List SFr} {m : SMem} (heA : ∀ b' i' ws', QeA b' i' ws' → Good Try.prog A 1 (eA_F off num cs ty ok kF rF b' i' ws') (eA_M off num cs ty ok kF rF b' i' ws')) (hb : sE_x off num cs ty ok kF rF QeA fs m) : Good Try.prog A 1 fs m := by
  unfold sE_x at hb
  exact eA_good heA hb
theorem xA_go {A : SV → SMem → Prop} {off : Nat} {num : Nat} {cs : Array Value} {ty : TypeId} {ok : Bool} {kF : Nat} {rF : Array Value} {b : Int} {i : Int} {ws : Array Value} {QeB : Int → Int → Nat → Array Value → Array Value → Prop} {fs : List SFr} {m : SMem} (heB : ∀ b' i' k' ws' rs', QeB b' i' k' ws' rs' → Good Try.prog A 1 (eB_F off num cs ty ok kF rF b' i' k' ws' rs') (eB_M off num cs ty ok kF rF b' i' k' ws' rs')) (hb : xA_x off num cs ty ok kF rF b i ws QeB fs m) : Good Try.prog A 1 fs m := by
  unfold xA_x at hb
  exact eB_good heB hb
theorem xB_go {A : SV → SMem → Prop} {off : Nat} {num : Nat} {cs : Array Value} {ty : TypeId} {ok : Bool} {kF : Nat} {rF : Array Value} {b : Int} {i : Int} {k : Nat} {ws : Array Value} {rs : Array Value} {QeB : Int → Int → Nat → Array Value → Array Value → Prop} {fs : List SFr} {m : SMem} (heB : ∀ b' i' k' ws' rs', QeB b' i' k' ws' rs' → Good Try.prog A 1 (eB_F off num cs ty ok kF rF b' i' k' ws' rs') (eB_M off num cs ty ok kF rF b' i' k' ws' rs')) (hb : xB_x off num cs ty ok kF rF b i k ws rs QeB fs m) : Good Try.prog A 1 fs m := by
  unfold xB_x at hb
  exact eB_good heB hb
end Go.Proofs.Ytpohnmafnpnmeaa
/- Of flow: Reached and Loops: their states. -/
namespace Go.Proofs.Ytpohnmafnpnmeaa
set_option maxRecDepth 100000
theorem sE_vc (off : Nat) (num : Nat) (cs : Array Value) (ty : TypeId) (ok : Bool) (kF : Nat) (rF : Array Value) (QeA : Int → Int → Array Value → Prop) : (sE_t off num cs ty ok kF rF).vc ((boE ok kF rF)) (sE_x off num cs ty ok kF rF QeA) =
    ((InsOk cs off num ∧ True) ∧ ((!mayV cs off num) = true → ok = false ∧ (3 : Int) = (3 : Int)) ∧ ((!mayV cs off num) = false → (InsOk cs off num ∧ mayV cs off num = true ∧ (0 : Int) ≤ (0 : Int) ∧ (0 : Int) ≤ (↑num : Int) ∧ True) ∧ (Array.size (frW cs off num (0 : Int) (-1 : Int)) = (2 : Nat) ∧ Array.size (frW cs off num (0 : Int) (-1 : Int)) = (2 : Nat) ∧ True) ∧ QeA (ari BinOp.add IntKind.i64 (↑num : Int) (1 : Int)) (0 : Int) (frW cs off num (0 : Int) (-1 : Int)) ∧ CallKind.normal = CallKind.normal ∧ TodoOk (ren 1 [(1, 1)]) eA_d0 eA_d0 ∧ off = off ∧ num = num ∧ Fn.func (22 : Nat) = Fn.func (22 : Nat) ∧ Value.slice none (0 : Nat) (0 : Nat) = Value.slice none (0 : Nat) (0 : Nat) ∧ (0 : Int) = (0 : Int) ∧ ari BinOp.add IntKind.i64 (↑num : Int) (1 : Int) = ari BinOp.add IntKind.i64 (↑num : Int) (1 : Int) ∧ CallKind.normal = CallKind.normal ∧ TodoOk (ren 1 [(1, 1)]) eA_d1 eA_d1 ∧ off = off ∧ num = num ∧ ty = ty ∧ cs = cs ∧ (68 : TypeId) = (68 : Nat) ∧ frW cs off num (0 : Int) (-1 : Int) = frW cs off num (0 : Int) (-1 : Int) ∧ True)) := by kernel_rfl
theorem xA_vc (off : Nat) (num : Nat) (cs : Array Value) (ty : TypeId) (ok : Bool) (kF : Nat) (rF : Array Value) (b : Int) (i : Int) (ws : Array Value) (QeB : Int → Int → Nat → Array Value → Array Value → Prop) : (xA_t off num cs ty ok kF rF b i ws).vc ((boE ok kF rF)) (xA_x off num cs ty ok kF rF b i ws QeB) =
    ((decide (i < b) = true → (Array.size ws = (2 : Nat) ∧ True) ∧ (Array.size ws = (2 : Nat) ∧ True) ∧ (((0 : Int) ≤ ari BinOp.quo IntKind.i64 i (64 : Int) ∧ ari BinOp.quo IntKind.i64 i (64 : Int) < (2 : Int)) ∧ True) ∧ (IsInt IntKind.u64 ws ((0 : Nat) + Int.toNat (ari BinOp.quo IntKind.i64 i (64 : Int)) * 1) ∧ True) ∧ ((0 : Int) ≤ ari BinOp.rem IntKind.i64 i (64 : Int) ∧ True) ∧ QeB b (ari BinOp.add IntKind.i64 i (1 : Int)) (1 : Nat) ws #[Value.bool (ari BinOp.and IntKind.u64 (ari BinOp.shr IntKind.u64 (intAt ws ((0 : Nat) + Int.toNat (ari BinOp.quo IntKind.i64 i (64 : Int)) * 1)) (ari BinOp.rem IntKind.i64 i (64 : Int))) (1 : Int) == (1 : Int))] ∧ CallKind.normal = CallKind.normal ∧ TodoOk (ren 1 [(1, 1), (2, 5)]) eA_d0 eA_d0 ∧ off = off ∧ num = num ∧ Fn.func (22 : Nat) = Fn.func (22 : Nat) ∧ (1 : Nat) = (1 : Nat) ∧ ari BinOp.add IntKind.i64 i (1 : Int) = ari BinOp.add IntKind.i64 i (1 : Int) ∧ b = b ∧ CallKind.normal = CallKind.normal ∧ TodoOk (ren 1 [(1, 1), (2, 5)]) eA_d1 eA_d1 ∧ off = off ∧ num = num ∧ ty = ty ∧ cs = cs ∧ (68 : TypeId) = (68 : TypeId) ∧ ws = ws ∧ (4 : TypeId) = (4 : Nat) ∧ #[Value.bool (ari BinOp.and IntKind.u64 (ari BinOp.shr IntKind.u64 (intAt ws ((0 : Nat) + Int.toNat (ari BinOp.quo IntKind.i64 i (64 : Int)) * 1)) (ari BinOp.rem IntKind.i64 i (64 : Int))) (1 : Int) == (1 : Int))] = #[Value.bool (ari BinOp.and IntKind.u64 (ari BinOp.shr IntKind.u64 (intAt ws ((0 : Nat) + Int.toNat (ari BinOp.quo IntKind.i64 i (64 : Int)) * 1)) (ari BinOp.rem IntKind.i64 i (64 : Int))) (1 : Int) == (1 : Int))] ∧ True) ∧ (decide (i < b) = false → ok = false ∧ (0 : Int) = (3 : Int))) := by kernel_rfl
theorem xB_vc (off : Nat) (num : Nat) (cs : Array Value) (ty : TypeId) (ok : Bool) (kF : Nat) (rF : Array Value) (b : Int) (i : Int) (k : Nat) (ws : Array Value) (rs : Array Value) (QeB : Int → Int → Nat → Array Value → Array Value → Prop) : (xB_t off num cs ty ok kF rF b i k ws rs).vc ((boE ok kF rF)) (xB_x off num cs ty ok kF rF b i k ws rs QeB) =
    ((decide (i < b) = true → (Array.size ws = (2 : Nat) ∧ True) ∧ (Array.size ws = (2 : Nat) ∧ True) ∧ (((0 : Int) ≤ ari BinOp.quo IntKind.i64 i (64 : Int) ∧ ari BinOp.quo IntKind.i64 i (64 : Int) < (2 : Int)) ∧ True) ∧ (IsInt IntKind.u64 ws ((0 : Nat) + Int.toNat (ari BinOp.quo IntKind.i64 i (64 : Int)) * 1) ∧ True) ∧ ((0 : Int) ≤ ari BinOp.rem IntKind.i64 i (64 : Int) ∧ True) ∧ (((k + 1) * 1 ≤ (140737488355328 : Nat) ∧ k + 1 ≤ (140737488355328 : Nat)) ∧ k * 1 = Array.size rs ∧ True) ∧ QeB b (ari BinOp.add IntKind.i64 i (1 : Int)) (k + 1) ws (rs ++ #[Value.bool (ari BinOp.and IntKind.u64 (ari BinOp.shr IntKind.u64 (intAt ws ((0 : Nat) + Int.toNat (ari BinOp.quo IntKind.i64 i (64 : Int)) * 1)) (ari BinOp.rem IntKind.i64 i (64 : Int))) (1 : Int) == (1 : Int))]) ∧ CallKind.normal = CallKind.normal ∧ TodoOk (ren 1 [(1, 1), (2, 6)]) eA_d0 eA_d0 ∧ off = off ∧ num = num ∧ Fn.func (22 : Nat) = Fn.func (22 : Nat) ∧ k + 1 = k + 1 ∧ ari BinOp.add IntKind.i64 i (1 : Int) = ari BinOp.add IntKind.i64 i (1 : Int) ∧ b = b ∧ CallKind.normal = CallKind.normal ∧ TodoOk (ren 1 [(1, 1), (2, 6)]) eA_d1 eA_d1 ∧ off = off ∧ num = num ∧ ty = ty ∧ cs = cs ∧ (68 : TypeId) = (68 : TypeId) ∧ ws = ws ∧ (4 : TypeId) = (4 : Nat) ∧ rs ++ #[Value.bool (ari BinOp.and IntKind.u64 (ari BinOp.shr IntKind.u64 (intAt ws ((0 : Nat) + Int.toNat (ari BinOp.quo IntKind.i64 i (64 : Int)) * 1)) (ari BinOp.rem IntKind.i64 i (64 : Int))) (1 : Int) == (1 : Int))] = rs ++ #[Value.bool (ari BinOp.and IntKind.u64 (ari BinOp.shr IntKind.u64 (intAt ws ((0 : Nat) + Int.toNat (ari BinOp.quo IntKind.i64 i (64 : Int)) * 1)) (ari BinOp.rem IntKind.i64 i (64 : Int))) (1 : Int) == (1 : Int))] ∧ True) ∧ (decide (i < b) = false → ok = true ∧ kF = k ∧ (4 : TypeId) = (4 : TypeId) ∧ rF = rs ∧ True)) := by kernel_rfl
end Go.Proofs.Ytpohnmafnpnmeaa
/- Of flow: Reached. No condition. -/
namespace Go.Proofs.Ytpohnmafnpnmeaa
set_option linter.unusedSectionVars false
set_option maxRecDepth 100000
theorem EE_ok : EnvOk EE := EnvOk.with E0_ok _ _ conB_ok
def metW (cs : Array Value) (off num : Nat) : Array Value := frW cs off num (0 : Int) (-1)
def metB (cs : Array Value) (off num i : Nat) : Bool := bitW (metW cs off num) i
section
variable (off num : Nat) (cs : Array Value) (ty : TypeId) (hI : InsOk cs off num) (hM : mayV cs off num = true)
include hI hM
theorem eB_round : ∀ (K i : Nat), num + 1 - i < K → 1 ≤ i → i ≤ num + 1 → Good Try.prog (boE true (num + 1) (boL (metB cs off num) (num + 1))) 1 (eB_F off num cs ty true (num + 1) (boL (metB cs off num) (num + 1)) (num + 1 : Nat) i i (metW cs off num) (boL (metB cs off num) i)) (eB_M off num cs ty true (num + 1) (boL (metB cs off num) (num + 1)) (num + 1 : Nat) i i (metW cs off num) (boL (metB cs off num) i)) := by
  have n64 := (mayV_iff.1 hM).1
  have hW : IsW (metW cs off num) := frW_ok (i := 0) hI hM (Nat.zero_le _)
  intro K
  induction K with
  | zero => intro i h; omega
  | succ K ih =>
    intro i hK h1 hi
    refine past_vc EE_ok 1000 (xB_vc off num cs ty true (num + 1) (boL (metB cs off num) (num + 1)) (num + 1 : Nat) i i (metW cs off num) (boL (metB cs off num) i)
      (fun b' i' k' ws' rs' => b' = (num + 1 : Nat) ∧ i' = (i + 1 : Nat) ∧ k' = i + 1 ∧ ws' = metW cs off num ∧ rs' = boL (metB cs off num) (i + 1) ∧ i ≤ num)) ?_ (fun _ _ h => h)
      (fun fs m hb => xB_go (fun b' i' k' ws' rs' h => ?_) hb)
    · have hm := boL_more (f := metB cs off num) (i := i) (b := bitW (metW cs off num) i) rfl
      rw [i64_add1 (show i < 1000 by omega), bitW_has hW (by omega), hm, quo64 (by omega), rem64, Int.toNat_natCast]
      by_cases d : i ≤ num
      · have e1 : decide ((i : Int) < ((num + 1 : Nat) : Int)) = true := decide_eq_true (by omega)
        have w1 := hW.size
        have w2 : (0 : Int) ≤ ((i / 64 : Nat) : Int) ∧ ((i / 64 : Nat) : Int) < 2 := by omega
        have w3 : IsInt IntKind.u64 (metW cs off num) (0 + i / 64 * 1) := by rw [Nat.zero_add, Nat.mul_one]; exact hW.int _ (by omega)
        have w4 : (0 : Int) ≤ ((i % 64 : Nat) : Int) := by omega
        have c1 : (i + 1) * 1 ≤ 140737488355328 ∧ i + 1 ≤ 140737488355328 := by omega
        have c2 : i * 1 = (boL (metB cs off num) i).size := by rw [boL_size]; omega
        simp only [e1, w1, w3, w4, c1, d, Bool.true_eq_false, Bool.false_eq_true, false_implies, true_implies, true_and, and_true, eA_d0_ok, eA_d1_ok]
        exact ⟨w2, c2⟩
      · have e1 : decide ((i : Int) < ((num + 1 : Nat) : Int)) = false := decide_eq_false (by omega)
        have ei : i = num + 1 := by omega
        simp only [e1, Bool.true_eq_false, Bool.false_eq_true, false_implies, true_implies, true_and, and_true]
        rw [ei]; exact ⟨rfl, rfl⟩
    · obtain ⟨rfl, rfl, rfl, rfl, rfl, h⟩ := h
      exact ih (i + 1) (by omega) (by omega) (by omega)
theorem reach_yes : Good Try.prog (boE true (num + 1) (boL (metB cs off num) (num + 1))) 1 [callFr 8 Try.f8.ntmps [prS off num] (Try.f8.body.getD .skip)] (rawM cs ty) := by
  have n64 := (mayV_iff.1 hM).1
  have hW : IsW (metW cs off num) := frW_ok (i := 0) hI hM (Nat.zero_le _)
  refine run_vc EE_ok 8000 (sE_vc off num cs ty true (num + 1) (boL (metB cs off num) (num + 1)) (fun b' i' ws' => b' = (num + 1 : Nat) ∧ i' = (0 : Nat) ∧ ws' = metW cs off num)) ?_ (fun _ _ h => h)
    (fun fs m hb => sE_go (fun b' i' ws' h => ?_) hb)
  · have z1 : (frW cs off num (0 : Int) (-1)).size = 2 := hW.size
    have z2 : (0 : Int) ≤ (num : Int) := by omega
    rw [i64_add1 (show num < 1000 by omega)]
    simp only [hI, hM, z1, z2, Bool.not_true, Bool.true_eq_false, Bool.false_eq_true, false_implies, true_implies, true_and, and_true, eA_d0_ok, eA_d1_ok]
    exact ⟨Int.le_refl _, rfl, rfl⟩
  · obtain ⟨rfl, rfl, rfl⟩ := h
    refine past_vc EE_ok 1000 (xA_vc off num cs ty true (num + 1) (boL (metB cs off num) (num + 1)) (num + 1 : Nat) (0 : Nat) (metW cs off num)
      (fun b' i' k' ws' rs' => b' = (num + 1 : Nat) ∧ i' = (1 : Nat) ∧ k' = 1 ∧ ws' = metW cs off num ∧ rs' = boL (metB cs off num) 1)) ?_ (fun _ _ h => h)
      (fun fs m hb => xA_go (fun b' i' k' ws' rs' h => ?_) hb)
    · have hm : #[Value.bool (bitW (metW cs off num) 0)] = boL (metB cs off num) 1 := boL_more (f := metB cs off num) (i := 0) (b := bitW (metW cs off num) 0) rfl
      rw [i64_add1 (show 0 < 1000 by omega), bitW_has hW (by omega), hm, quo64 (by omega), rem64, Int.toNat_natCast]
      have e1 : decide (((0 : Nat) : Int) < ((num + 1 : Nat) : Int)) = true := decide_eq_true (by omega)
      have w1 := hW.size
      have w2 : (0 : Int) ≤ ((0 / 64 : Nat) : Int) ∧ ((0 / 64 : Nat) : Int) < 2 := by omega
      have w3 : IsInt IntKind.u64 (metW cs off num) (0 + 0 / 64 * 1) := hW.int 0 (by omega)
      have w4 : (0 : Int) ≤ ((0 % 64 : Nat) : Int) := by omega
      simp only [e1, w1, w3, w4, Nat.zero_add, Bool.true_eq_false, Bool.false_eq_true, false_implies, true_implies, true_and, and_true, eA_d0_ok, eA_d1_ok]
      exact w2.2
    · obtain ⟨rfl, rfl, rfl, rfl, rfl⟩ := h
      exact eB_round off num cs ty hI hM (num + 2) 1 (by omega) (by omega) (by omega)
end
theorem reach_no (off num : Nat) (cs : Array Value) (ty : TypeId) (hI : InsOk cs off num) (hM : mayV cs off num = false) : Good Try.prog (boE false 0 #[]) 1 [callFr 8 Try.f8.ntmps [prS off num] (Try.f8.body.getD .skip)] (rawM cs ty) := by
  refine run_vc EE_ok 8000 (sE_vc off num cs ty false 0 #[] (fun _ _ _ => False)) ?_ (fun _ _ h => h) (fun fs m hb => sE_go (fun _ _ _ h => h.elim) hb)
  simp only [hI, hM, Bool.not_false, Bool.true_eq_false, Bool.false_eq_true, false_implies, true_implies, true_and, and_true]
end Go.Proofs.Ytpohnmafnpnmeaa
/- Of flow: Loops: its states. No condition. -/
namespace Go.Proofs.Ytpohnmafnpnmeaa
set_option linter.unusedVariables false
noncomputable def slC (k : Nat) : SV := .s (.c (.f (.slice 3 (.l 0) (.o k) (.full 1))))
noncomputable def EG : Env := ⟨Try.prog, fnOf, conB, haltAt [21006]⟩
noncomputable def gA_d0 : List SIt := sekF Try.f21 6
noncomputable def gA_d1 : List SIt := sekI Try.f18 1 [2, 3, 4, 5, 6]
noncomputable def gA_F (off : Nat) (num : Nat) (cs : Array Value) (ty : TypeId) (ok : Bool) (kF : Nat) (rF : Array Value) (b : Int) (i : Int) (ws : Array Value) : List SFr := [frOf 21 Try.f21 [(0, prS off num), (1, fn31V), (6, ptr 2 (.l 0)), (7, nilV), (16, i64 (.o b)), (17, i64 (.o i))] gA_d0, frOf 18 Try.f18 [(1, ptr 1 (.l 0))] gA_d1]
noncomputable def gA_M (off : Nat) (num : Nat) (cs : Array Value) (ty : TypeId) (ok : Bool) (kF : Nat) (rF : Array Value) (b : Int) (i : Int) (ws : Array Value) : SMem := mkM 3 [(0, ⟨.raw cs, ty, false⟩), (1, ⟨.ls [prS' off num], 22, true⟩), (2, ⟨.op ws, 68, true⟩)]
noncomputable def gA_n (off : Nat) (num : Nat) (cs : Array Value) (ty : TypeId) (ok : Bool) (kF : Nat) (rF : Array Value) (Q : Int → Int → Array Value → Prop) (fs : List SFr) (m : SMem) : Prop := (match frNth fs 0 with | some f0 => (match frNth fs 1 with | some f1 => (match rdI f0 16 with | some b => (match rdI f0 17 with | some i => (match rdP f1 1 with | some p1 => (match rdP f0 6 with | some p2 => (match rdA m p2 with | some ws => Q b i ws ∧ subOk 1 [(1, p1), (2, p2)] (gA_F off num cs ty ok kF rF b i ws) (gA_M off num cs ty ok kF rF b i ws) fs m | none => False) | none => False) | none => False) | none => False) | none => False) | none => False) | none => False)
noncomputable def gB_d0 : List SIt := sekF Try.f21 6
noncomputable def gB_d1 : List SIt := sekI Try.f18 1 [2, 3, 4, 5, 6]
noncomputable def gB_F (off : Nat) (num : Nat) (cs : Array Value) (ty : TypeId) (ok : Bool) (kF : Nat) (rF : Array Value) (b : Int) (i : Int) (k : Nat) (ws : Array Value) (rs : Array Value) : List SFr := [frOf 21 Try.f21 [(0, prS off num), (1, fn31V), (6, ptr 2 (.l 0)), (7, slC k), (16, i64 (.o b)), (17, i64 (.o i))] gB_d0, frOf 18 Try.f18 [(1, ptr 1 (.l 0))] gB_d1]
noncomputable def gB_M (off : Nat) (num : Nat) (cs : Array Value) (ty : TypeId) (ok : Bool) (kF : Nat) (rF : Array Value) (b : Int) (i : Int) (k : Nat) (ws : Array Value) (rs : Array Value) : SMem := mkM 4 [(0, ⟨.raw cs, ty, false⟩), (1, ⟨.ls [prS' off num], 22, true⟩), (2, ⟨.op ws, 68, true⟩), (3, ⟨.pop rs, 4, true⟩)]
noncomputable def gB_n (off : Nat) (num : Nat) (cs : Array Value) (ty : TypeId) (ok : Bool) (kF : Nat) (rF : Array Value) (Q : Int → Int → Nat → Array Value → Array Value → Prop) (fs : List SFr) (m : SMem) : Prop := (match frNth fs 0 with | some f0 => (match frNth fs 1 with | some f1 => (match rdI f0 16 with | some b => (match rdI f0 17 with | some i => (match rdP f1 1 with | some p1 => (match rdP f0 6 with | some p2 => (match rdSI f0 7 with | some p3 => (match rdSN f0 7 with | some k => (match rdA m p2 with | some ws => (match rdA m p3 with | some rs => Q b i k ws rs ∧ subOk 1 [(1, p1), (2, p2), (3, p3)] (gB_F off num cs ty ok kF rF b i k ws rs) (gB_M off num cs ty ok kF rF b i k ws rs) fs m | none => False) | none => False) | none => False) | none => False) | none => False) | none => False) | none => False) | none => False) | none => False) | none => False)
noncomputable def sG_t (off : Nat) (num : Nat) (cs : Array Value) (ty : TypeId) (ok : Bool) (kF : Nat) (rF : Array Value) : Tree := run EG 8000 1 [callFr 18 Try.f18.ntmps [prS off num] (Try.f18.body.getD .skip)] (rawM cs ty)
noncomputable def sG_x (off : Nat) (num : Nat) (cs : Array Value) (ty : TypeId) (ok : Bool) (kF : Nat) (rF : Array Value) (QgA : Int → Int → Array Value → Prop) (fs : List SFr) (m : SMem) : Prop := gA_n off num cs ty ok kF rF QgA fs m
noncomputable def yA_t (off : Nat) (num : Nat) (cs : Array Value) (ty : TypeId) (ok : Bool) (kF : Nat) (rF : Array Value) (b : Int) (i : Int) (ws : Array Value) : Tree := stepT EG.go (run EG 1000) 1 (gA_F off num cs ty ok kF rF b i ws) (gA_M off num cs ty ok kF rF b i ws)
noncomputable def yA_x (off : Nat) (num : Nat) (cs : Array Value) (ty : TypeId) (ok : Bool) (kF : Nat) (rF : Array Value) (b : Int) (i : Int) (ws : Array Value) (QgB : Int → Int → Nat → Array Value → Array Value → Prop) (fs : List SFr) (m : SMem) : Prop := gB_n off num cs ty ok kF rF QgB fs m
noncomputable def yB_t (off : Nat) (num : Nat) (cs : Array Value) (ty : TypeId) (ok : Bool) (kF : Nat) (rF : Array Value) (b : Int) (i : Int) (k : Nat) (ws : Array Value) (rs : Array Value) : Tree := stepT EG.go (run EG 1000) 1 (gB_F off num cs ty ok kF rF b i k ws rs) (gB_M off num cs ty ok kF rF b i k ws rs)
noncomputable def yB_x (off : Nat) (num : Nat) (cs : Array Value) (ty : TypeId) (ok : Bool) (kF : Nat) (rF : Array Value) (b : Int) (i : Int) (k : Nat) (ws : Array Value) (rs : Array Value) (QgB : Int → Int → Nat → Array Value → Array Value → Prop) (fs : List SFr) (m : SMem) : Prop := gB_n off num cs ty ok kF rF QgB fs m
theorem gA_d0_ok (r : Nat → Option Nat) : TodoOk r gA_d0 gA_d0 := TodoOk.it (by kernel_rfl)
theorem gA_d1_ok (r : Nat → Option Nat) : TodoOk r gA_d1 gA_d1 := TodoOk.it (by kernel_rfl)
theorem gA_good {A : SV → SMem → Prop} {off : Nat} {num : Nat} {cs : Array Value} {ty : TypeId} {ok : Bool} {kF : Nat} {rF : Array Value} {Q : Int → Int → Array Value → Prop} {fs : List SFr} {m : SMem} (H : ∀ b i ws, Q b i ws → Good Try.prog A 1 (gA_F off num cs ty ok kF rF b i ws) (gA_M off num cs ty ok kF rF b i ws)) (hb : gA_n off num cs ty ok kF rF Q fs m) : Good Try.prog A 1 fs m := by
  unfold gA_n at hb
  split at hb
  rotate_left
  · exact hb.elim
  split at hb
  rotate_left
  · exact hb.elim
  split at hb
  rotate_left
  · exact hb.elim
  split at hb
  rotate_left
  · exact hb.elim
  split at hb
  rotate_left
  · exact hb.elim
  split at hb
  rotate_left
  · exact hb.elim
  split at hb
  rotate_left
  · exact hb.elim
  exact Good.of_sub hb.2 (H _ _ _ hb.1)
theorem gB_good {A : SV → SMem → Prop} {off : Nat} {num : Nat} {cs : Array Value} {ty : TypeId} {ok : Bool} {kF : Nat} {rF : Array Value} {Q : Int → Int → Nat → Array Value → Array Value → Prop} {fs : List SFr} {m : SMem} (H : ∀ b i k ws rs, Q b i k ws rs → Good Try.prog A 1 (gB_F off num cs ty ok kF rF b i k ws rs) (gB_M off num cs ty ok kF rF b i k ws rs)) (hb : gB_n off num cs ty ok kF rF Q fs m) : Good Try.prog A 1 fs m := by
  unfold gB_n at hb
  split at hb
  rotate_left
  · exact hb.elim
  split at hb
  rotate_left
  · exact hb.elim
  split at hb
  rotate_left
  · exact hb.elim
  split at hb
  rotate_left
  · exact hb.elim
  split at hb
  rotate_left
  · exact hb.elim
  split at hb
  rotate_left
  · exact hb.elim
  split at hb
  rotate_left
  · exact hb.elim
  split at hb
  rotate_left
  · exact hb.elim
  split at hb
  rotate_left
  · exact hb.elim
  split at hb
  rotate_left
  · exact hb.elim
  exact Good.of_sub hb.2 (H _ _ _ _ _ hb.1)
theorem sG_go {A : SV → SMem → Prop} {off : Nat} {num : Nat} {cs : Array Value} {ty : TypeId} {ok : Bool} {kF : Nat} {rF : Array Value} {QgA : Int → Int → Array Value → Prop} {fs : List SFr} {m : SMem} (hgA : ∀ b' i' ws', QgA b' i' ws' → Good Try.prog A 1 (gA_F off num cs ty ok kF rF b' i' ws') (gA_M off num cs ty ok kF rF b' i' ws')) (hb : sG_x off num cs ty ok kF rF QgA fs m) : Good Try.prog A 1 fs m := by
  unfold sG_x at hb
  exact gA_good hgA hb
theorem yA_go {A : SV → SMem → Prop} {off : Nat} {num : Nat} {cs : Array Value} {ty : TypeId} {ok : Bool} {kF : Nat} {rF : Array Value} {b : Int} {i : Int} {ws : Array Value} {QgB : Int → Int → Nat → Array Value → Array Value → Prop} {fs : List SFr} {m : SMem} (hgB : ∀ b' i' k' ws' rs', QgB b' i' k' ws' rs' → Good Try.prog A 1 (gB_F off num cs ty ok kF rF b' i' k' ws' rs') (gB_M off num cs ty ok kF rF b' i' k' ws' rs')) (hb : yA_x off num cs ty ok kF rF b i ws QgB fs m) : Good Try.prog A 1 fs m := by
  unfold yA_x at hb
  exact gB_good hgB hb
theorem yB_go {A : SV → SMem → Prop} {off : Nat} {num : Nat} {cs : Array Value} {ty : TypeId} {ok : Bool} {kF : Nat} {rF : Array Value} {b : Int} {i : Int} {k : Nat} {ws : Array Value} {rs : Array Value} {QgB : Int → Int → Nat → Array Value → Array Value → Prop} {fs : List SFr} {m : SMem} (hgB : ∀ b' i' k' ws' rs', QgB b' i' k' ws' rs' → Good Try.prog A 1 (gB_F off num cs ty ok kF rF b' i' k' ws' rs') (gB_M off num cs ty ok kF rF b' i' k' ws' rs')) (hb : yB_x off num cs ty ok kF rF b i k ws rs QgB fs m) : Good Try.prog A 1 fs m := by
  unfold yB_x at hb
  exact gB_good hgB hb
end Go.Proofs.Ytpohnmafnpnmeaa
/- Of flow: Loops: its states. -/
namespace Go.Proofs.Ytpohnmafnpnmeaa
set_option maxRecDepth 100000
theorem sG_vc (off : Nat) (num : Nat) (cs : Array Value) (ty : TypeId) (ok : Bool) (kF : Nat) (rF : Array Value) (QgA : Int → Int → Array Value → Prop) : (sG_t off num cs ty ok kF rF).vc ((boE ok kF rF)) (sG_x off num cs ty ok kF rF QgA) =
    ((InsOk cs off num ∧ True) ∧ ((!mayV cs off num) = true → ok = false ∧ (3 : Int) = (3 : Int)) ∧ ((!mayV cs off num) = false → (InsOk cs off num ∧ mayV cs off num = true ∧ (0 : Int) ≤ (0 : Int) ∧ (0 : Int) ≤ (↑num : Int) ∧ True) ∧ (Array.size (frW cs off num (0 : Int) (-1 : Int)) = (2 : Nat) ∧ Array.size (frW cs off num (0 : Int) (-1 : Int)) = (2 : Nat) ∧ True) ∧ QgA (ari BinOp.add IntKind.i64 (↑num : Int) (1 : Int)) (0 : Int) (frW cs off num (0 : Int) (-1 : Int)) ∧ CallKind.normal = CallKind.normal ∧ TodoOk (ren 1 [(1, 1), (2, 2)]) gA_d0 gA_d0 ∧ off = off ∧ num = num ∧ Fn.func (33 : Nat) = Fn.func (33 : Nat) ∧ Value.slice none (0 : Nat) (0 : Nat) = Value.slice none (0 : Nat) (0 : Nat) ∧ (0 : Int) = (0 : Int) ∧ ari BinOp.add IntKind.i64 (↑num : Int) (1 : Int) = ari BinOp.add IntKind.i64 (↑num : Int) (1 : Int) ∧ CallKind.normal = CallKind.normal ∧ TodoOk (ren 1 [(1, 1), (2, 2)]) gA_d1 gA_d1 ∧ ty = ty ∧ cs = cs ∧ (22 : TypeId) = (22 : Nat) ∧ off = off ∧ num = num ∧ (68 : TypeId) = (68 : Nat) ∧ frW cs off num (0 : Int) (-1 : Int) = frW cs off num (0 : Int) (-1 : Int) ∧ True)) := by kernel_rfl
theorem yA_vc (off : Nat) (num : Nat) (cs : Array Value) (ty : TypeId) (ok : Bool) (kF : Nat) (rF : Array Value) (b : Int) (i : Int) (ws : Array Value) (QgB : Int → Int → Nat → Array Value → Array Value → Prop) : (yA_t off num cs ty ok kF rF b i ws).vc ((boE ok kF rF)) (yA_x off num cs ty ok kF rF b i ws QgB) =
    ((decide (i < b) = true → (Array.size ws = (2 : Nat) ∧ True) ∧ (Array.size ws = (2 : Nat) ∧ True) ∧ (((0 : Int) ≤ ari BinOp.quo IntKind.i64 i (64 : Int) ∧ ari BinOp.quo IntKind.i64 i (64 : Int) < (2 : Int)) ∧ True) ∧ (IsInt IntKind.u64 ws ((0 : Nat) + Int.toNat (ari BinOp.quo IntKind.i64 i (64 : Int)) * 1) ∧ True) ∧ ((0 : Int) ≤ ari BinOp.rem IntKind.i64 i (64 : Int) ∧ True) ∧ (((ari BinOp.and IntKind.u64 (ari BinOp.shr IntKind.u64 (intAt ws ((0 : Nat) + Int.toNat (ari BinOp.quo IntKind.i64 i (64 : Int)) * 1)) (ari BinOp.rem IntKind.i64 i (64 : Int))) (1 : Int) == (1 : Int)) == true) = true → (InsOk cs off num ∧ mayV cs off num = true ∧ (0 : Int) ≤ i ∧ i ≤ (↑num : Int) ∧ True) ∧ (((0 : Int) ≤ ari BinOp.quo IntKind.i64 i (64 : Int) ∧ ari BinOp.quo IntKind.i64 i (64 : Int) < (2 : Int)) ∧ True) ∧ (IsInt IntKind.u64 (behW cs off num (Int.toNat i)) ((0 : Nat) + Int.toNat (ari BinOp.quo IntKind.i64 i (64 : Int)) * 1) ∧ True) ∧ ((0 : Int) ≤ ari BinOp.rem IntKind.i64 i (64 : Int) ∧ True) ∧ QgB b (ari BinOp.add IntKind.i64 i (1 : Int)) (1 : Nat) ws #[Value.bool (ari BinOp.and IntKind.u64 (ari BinOp.shr IntKind.u64 (intAt (behW cs off num (Int.toNat i)) ((0 : Nat) + Int.toNat (ari BinOp.quo IntKind.i64 i (64 : Int)) * 1)) (ari BinOp.rem IntKind.i64 i (64 : Int))) (1 : Int) == (1 : Int))] ∧ CallKind.normal = CallKind.normal ∧ TodoOk (ren 1 [(1, 1), (2, 2), (3, 7)]) gA_d0 gA_d0 ∧ off = off ∧ num = num ∧ Fn.func (33 : Nat) = Fn.func (33 : Nat) ∧ (1 : Nat) = (1 : Nat) ∧ ari BinOp.add IntKind.i64 i (1 : Int) = ari BinOp.add IntKind.i64 i (1 : Int) ∧ b = b ∧ CallKind.normal = CallKind.normal ∧ TodoOk (ren 1 [(1, 1), (2, 2), (3, 7)]) gA_d1 gA_d1 ∧ ty = ty ∧ cs = cs ∧ (22 : TypeId) = (22 : TypeId) ∧ off = off ∧ num = num ∧ (4 : TypeId) = (4 : Nat) ∧ #[Value.bool (ari BinOp.and IntKind.u64 (ari BinOp.shr IntKind.u64 (intAt (behW cs off num (Int.toNat i)) ((0 : Nat) + Int.toNat (ari BinOp.quo IntKind.i64 i (64 : Int)) * 1)) (ari BinOp.rem IntKind.i64 i (64 : Int))) (1 : Int) == (1 : Int))] = #[Value.bool (ari BinOp.and IntKind.u64 (ari BinOp.shr IntKind.u64 (intAt (behW cs off num (Int.toNat i)) ((0 : Nat) + Int.toNat (ari BinOp.quo IntKind.i64 i (64 : Int)) * 1)) (ari BinOp.rem IntKind.i64 i (64 : Int))) (1 : Int) == (1 : Int))] ∧ (68 : TypeId) = (68 : TypeId) ∧ ws = ws ∧ True) ∧ (((ari BinOp.and IntKind.u64 (ari BinOp.shr IntKind.u64 (intAt ws ((0 : Nat) + Int.toNat (ari BinOp.quo IntKind.i64 i (64 : Int)) * 1)) (ari BinOp.rem IntKind.i64 i (64 : Int))) (1 : Int) == (1 : Int)) == true) = false → QgB b (ari BinOp.add IntKind.i64 i (1 : Int)) (1 : Nat) ws #[Value.bool false] ∧ CallKind.normal = CallKind.normal ∧ TodoOk (ren 1 [(1, 1), (2, 2), (3, 6)]) gA_d0 gA_d0 ∧ off = off ∧ num = num ∧ Fn.func (33 : Nat) = Fn.func (33 : Nat) ∧ (1 : Nat) = (1 : Nat) ∧ ari BinOp.add IntKind.i64 i (1 : Int) = ari BinOp.add IntKind.i64 i (1 : Int) ∧ b = b ∧ CallKind.normal = CallKind.normal ∧ TodoOk (ren 1 [(1, 1), (2, 2), (3, 6)]) gA_d1 gA_d1 ∧ ty = ty ∧ cs = cs ∧ (22 : TypeId) = (22 : TypeId) ∧ off = off ∧ num = num ∧ (4 : TypeId) = (4 : Nat) ∧ #[Value.bool false] = #[Value.bool false] ∧ (68 : TypeId) = (68 : TypeId) ∧ ws = ws ∧ True)) ∧ (decide (i < b) = false → ok = false ∧ (0 : Int) = (3 : Int))) := by kernel_rfl
theorem yB_vc (off : Nat) (num : Nat) (cs : Array Value) (ty : TypeId) (ok : Bool) (kF : Nat) (rF : Array Value) (b : Int) (i : Int) (k : Nat) (ws : Array Value) (rs : Array Value) (QgB : Int → Int → Nat → Array Value → Array Value → Prop) : (yB_t off num cs ty ok kF rF b i k ws rs).vc ((boE ok kF rF)) (yB_x off num cs ty ok kF rF b i k ws rs QgB) =
    ((decide (i < b) = true → (Array.size ws = (2 : Nat) ∧ True) ∧ (Array.size ws = (2 : Nat) ∧ True) ∧ (((0 : Int) ≤ ari BinOp.quo IntKind.i64 i (64 : Int) ∧ ari BinOp.quo IntKind.i64 i (64 : Int) < (2 : Int)) ∧ True) ∧ (IsInt IntKind.u64 ws ((0 : Nat) + Int.toNat (ari BinOp.quo IntKind.i64 i (64 : Int)) * 1) ∧ True) ∧ ((0 : Int) ≤ ari BinOp.rem IntKind.i64 i (64 : Int) ∧ True) ∧ (((ari BinOp.and IntKind.u64 (ari BinOp.shr IntKind.u64 (intAt ws ((0 : Nat) + Int.toNat (ari BinOp.quo IntKind.i64 i (64 : Int)) * 1)) (ari BinOp.rem IntKind.i64 i (64 : Int))) (1 : Int) == (1 : Int)) == true) = true → (InsOk cs off num ∧ mayV cs off num = true ∧ (0 : Int) ≤ i ∧ i ≤ (↑num : Int) ∧ True) ∧ (((0 : Int) ≤ ari BinOp.quo IntKind.i64 i (64 : Int) ∧ ari BinOp.quo IntKind.i64 i (64 : Int) < (2 : Int)) ∧ True) ∧ (IsInt IntKind.u64 (behW cs off num (Int.toNat i)) ((0 : Nat) + Int.toNat (ari BinOp.quo IntKind.i64 i (64 : Int)) * 1) ∧ True) ∧ ((0 : Int) ≤ ari BinOp.rem IntKind.i64 i (64 : Int) ∧ True) ∧ (((k + 1) * 1 ≤ (140737488355328 : Nat) ∧ k + 1 ≤ (140737488355328 : Nat)) ∧ k * 1 = Array.size rs ∧ True) ∧ QgB b (ari BinOp.add IntKind.i64 i (1 : Int)) (k + 1) ws (rs ++ #[Value.bool (ari BinOp.and IntKind.u64 (ari BinOp.shr IntKind.u64 (intAt (behW cs off num (Int.toNat i)) ((0 : Nat) + Int.toNat (ari BinOp.quo IntKind.i64 i (64 : Int)) * 1)) (ari BinOp.rem IntKind.i64 i (64 : Int))) (1 : Int) == (1 : Int))]) ∧ CallKind.normal = CallKind.normal ∧ TodoOk (ren 1 [(1, 1), (2, 2), (3, 8)]) gA_d0 gA_d0 ∧ off = off ∧ num = num ∧ Fn.func (33 : Nat) = Fn.func (33 : Nat) ∧ k + 1 = k + 1 ∧ ari BinOp.add IntKind.i64 i (1 : Int) = ari BinOp.add IntKind.i64 i (1 : Int) ∧ b = b ∧ CallKind.normal = CallKind.normal ∧ TodoOk (ren 1 [(1, 1), (2, 2), (3, 8)]) gA_d1 gA_d1 ∧ ty = ty ∧ cs = cs ∧ (22 : TypeId) = (22 : TypeId) ∧ off = off ∧ num = num ∧ (4 : TypeId) = (4 : Nat) ∧ rs ++ #[Value.bool (ari BinOp.and IntKind.u64 (ari BinOp.shr IntKind.u64 (intAt (behW cs off num (Int.toNat i)) ((0 : Nat) + Int.toNat (ari BinOp.quo IntKind.i64 i (64 : Int)) * 1)) (ari BinOp.rem IntKind.i64 i (64 : Int))) (1 : Int) == (1 : Int))] = rs ++ #[Value.bool (ari BinOp.and IntKind.u64 (ari BinOp.shr IntKind.u64 (intAt (behW cs off num (Int.toNat i)) ((0 : Nat) + Int.toNat (ari BinOp.quo IntKind.i64 i (64 : Int)) * 1)) (ari BinOp.rem IntKind.i64 i (64 : Int))) (1 : Int) == (1 : Int))] ∧ (68 : TypeId) = (68 : TypeId) ∧ ws = ws ∧ True) ∧ (((ari BinOp.and IntKind.u64 (ari BinOp.shr IntKind.u64 (intAt ws ((0 : Nat) + Int.toNat (ari BinOp.quo IntKind.i64 i (64 : Int)) * 1)) (ari BinOp.rem IntKind.i64 i (64 : Int))) (1 : Int) == (1 : Int)) == true) = false → (((k + 1) * 1 ≤ (140737488355328 : Nat) ∧ k + 1 ≤ (140737488355328 : Nat)) ∧ k * 1 = Array.size rs ∧ True) ∧ QgB b (ari BinOp.add IntKind.i64 i (1 : Int)) (k + 1) ws (rs ++ #[Value.bool false]) ∧ CallKind.normal = CallKind.normal ∧ TodoOk (ren 1 [(1, 1), (2, 2), (3, 7)]) gA_d0 gA_d0 ∧ off = off ∧ num = num ∧ Fn.func (33 : Nat) = Fn.func (33 : Nat) ∧ k + 1 = k + 1 ∧ ari BinOp.add IntKind.i64 i (1 : Int) = ari BinOp.add IntKind.i64 i (1 : Int) ∧ b = b ∧ CallKind.normal = CallKind.normal ∧ TodoOk (ren 1 [(1, 1), (2, 2), (3, 7)]) gA_d1 gA_d1 ∧ ty = ty ∧ cs = cs ∧ (22 : TypeId) = (22 : TypeId) ∧ off = off ∧ num = num ∧ (4 : TypeId) = (4 : Nat) ∧ rs ++ #[Value.bool false] = rs ++ #[Value.bool false] ∧ (68 : TypeId) = (68 : TypeId) ∧ ws = ws ∧ True)) ∧ (decide (i < b) = false → ok = true ∧ kF = k ∧ (4 : TypeId) = (4 : TypeId) ∧ rF = rs ∧ True)) := by kernel_rfl
end Go.Proofs.Ytpohnmafnpnmeaa
/- Of flow: Loops. No condition. -/
namespace Go.Proofs.Ytpohnmafnpnmeaa
set_option linter.unusedSectionVars false
set_option maxRecDepth 100000
theorem EG_ok : EnvOk EG := EnvOk.with E0_ok _ _ conB_ok
def cycB (cs : Array Value) (off num i : Nat) : Bool := metB cs off num i && bitW (behW cs off num i) i
section
variable (off num : Nat) (cs : Array Value) (ty : TypeId) (hI : InsOk cs off num) (hM : mayV cs off num = true)
include hI hM
theorem gB_round : ∀ (K i : Nat), num + 1 - i < K → 1 ≤ i → i ≤ num + 1 → Good Try.prog (boE true (num + 1) (boL (cycB cs off num) (num + 1))) 1 (gB_F off num cs ty true (num + 1) (boL (cycB cs off num) (num + 1)) (num + 1 : Nat) i i (metW cs off num) (boL (cycB cs off num) i)) (gB_M off num cs ty true (num + 1) (boL (cycB cs off num) (num + 1)) (num + 1 : Nat) i i (metW cs off num) (boL (cycB cs off num) i)) := by
  have n64 := (mayV_iff.1 hM).1
  have hW : IsW (metW cs off num) := frW_ok (i := 0) hI hM (Nat.zero_le _)
  intro K
  induction K with
  | zero => intro i h; omega
  | succ K ih =>
    intro i hK h1 hi
    refine past_vc EG_ok 1000 (yB_vc off num cs ty true (num + 1) (boL (cycB cs off num) (num + 1)) (num + 1 : Nat) i i (metW cs off num) (boL (cycB cs off num) i)
      (fun b' i' k' ws' rs' => b' = (num + 1 : Nat) ∧ i' = (i + 1 : Nat) ∧ k' = i + 1 ∧ ws' = metW cs off num ∧ rs' = boL (cycB cs off num) (i + 1) ∧ i ≤ num)) ?_ (fun _ _ h => h)
      (fun fs m hb => yB_go (fun b' i' k' ws' rs' h => ?_) hb)
    · by_cases d : i ≤ num
      · have hV := behW_ok hI hM d
        rw [i64_add1 (show i < 1000 by omega), bitW_has hW (by omega), Int.toNat_natCast, bitW_has hV (by omega), quo64 (by omega), rem64, Int.toNat_natCast]
        have e1 : decide ((i : Int) < ((num + 1 : Nat) : Int)) = true := decide_eq_true (by omega)
        have w1 := hW.size
        have w2 : (0 : Int) ≤ ((i / 64 : Nat) : Int) ∧ ((i / 64 : Nat) : Int) < 2 := by omega
        have w3 : IsInt IntKind.u64 (metW cs off num) (0 + i / 64 * 1) := by rw [Nat.zero_add, Nat.mul_one]; exact hW.int _ (by omega)
        have w5 : IsInt IntKind.u64 (behW cs off num i) (0 + i / 64 * 1) := by rw [Nat.zero_add, Nat.mul_one]; exact hV.int _ (by omega)
        have w4 : (0 : Int) ≤ ((i % 64 : Nat) : Int) := by omega
        have w6 : (0 : Int) ≤ (i : Int) ∧ (i : Int) ≤ (num : Int) := by omega
        have c1 : (i + 1) * 1 ≤ 140737488355328 ∧ i + 1 ≤ 140737488355328 := by omega
        have c2 : i * 1 = (boL (cycB cs off num) i).size := by rw [boL_size]; omega
        cases cm : bitW (metW cs off num) i with
        | true =>
          have hm := boL_more (f := cycB cs off num) (i := i) (b := bitW (behW cs off num i) i) (by unfold cycB metB; rw [cm, Bool.true_and])
          rw [hm]
          simp only [e1, w1, w3, w4, w5, w6, c1, d, hI, hM, beqT, beqF, Bool.not_true, Bool.not_false, Bool.true_eq_false, Bool.false_eq_true, false_implies, true_implies, true_and, and_true, gA_d0_ok, gA_d1_ok]
          exact ⟨w2, w2, c2⟩
        | false =>
          have hm := boL_more (f := cycB cs off num) (i := i) (b := false) (by unfold cycB metB; rw [cm, Bool.false_and])
          rw [hm]
          simp only [e1, w1, w3, w4, w5, w6, c1, d, hI, hM, beqT, beqF, Bool.not_true, Bool.not_false, Bool.true_eq_false, Bool.false_eq_true, false_implies, true_implies, true_and, and_true, gA_d0_ok, gA_d1_ok]
          exact ⟨w2, c2⟩
      · have e1 : decide ((i : Int) < ((num + 1 : Nat) : Int)) = false := decide_eq_false (by omega)
        have ei : i = num + 1 := by omega
        simp only [e1, Bool.true_eq_false, Bool.false_eq_true, false_implies, true_implies, true_and, and_true]
        rw [ei]; exact ⟨rfl, rfl⟩
    · obtain ⟨rfl, rfl, rfl, rfl, rfl, h⟩ := h
      exact ih (i + 1) (by omega) (by omega) (by omega)
theorem cyc_yes : Good Try.prog (boE true (num + 1) (boL (cycB cs off num) (num + 1))) 1 [callFr 18 Try.f18.ntmps [prS off num] (Try.f18.body.getD .skip)] (rawM cs ty) := by
  have n64 := (mayV_iff.1 hM).1
  have hW : IsW (metW cs off num) := frW_ok (i := 0) hI hM (Nat.zero_le _)
  refine run_vc EG_ok 8000 (sG_vc off num cs ty true (num + 1) (boL (cycB cs off num) (num + 1)) (fun b' i' ws' => b' = (num + 1 : Nat) ∧ i' = (0 : Nat) ∧ ws' = metW cs off num)) ?_ (fun _ _ h => h)
    (fun fs m hb => sG_go (fun b' i' ws' h => ?_) hb)
  · have z1 : (frW cs off num (0 : Int) (-1)).size = 2 := hW.size
    have z2 : (0 : Int) ≤ (num : Int) := by omega
    rw [i64_add1 (show num < 1000 by omega)]
    simp only [hI, hM, z1, z2, Bool.not_true, Bool.true_eq_false, Bool.false_eq_true, false_implies, true_implies, true_and, and_true, gA_d0_ok, gA_d1_ok]
    exact ⟨Int.le_refl _, rfl, rfl⟩
  · obtain ⟨rfl, rfl, rfl⟩ := h
    refine past_vc EG_ok 1000 (yA_vc off num cs ty true (num + 1) (boL (cycB cs off num) (num + 1)) (num + 1 : Nat) (0 : Nat) (metW cs off num)
      (fun b' i' k' ws' rs' => b' = (num + 1 : Nat) ∧ i' = (1 : Nat) ∧ k' = 1 ∧ ws' = metW cs off num ∧ rs' = boL (cycB cs off num) 1)) ?_ (fun _ _ h => h)
      (fun fs m hb => yA_go (fun b' i' k' ws' rs' h => ?_) hb)
    · have hV := behW_ok hI hM (Nat.zero_le num)
      rw [i64_add1 (show 0 < 1000 by omega), bitW_has hW (by omega), Int.toNat_natCast, bitW_has hV (by omega), quo64 (by omega), rem64, Int.toNat_natCast]
      have e1 : decide (((0 : Nat) : Int) < ((num + 1 : Nat) : Int)) = true := decide_eq_true (by omega)
      have w1 := hW.size
      have w2 : (0 : Int) ≤ ((0 / 64 : Nat) : Int) ∧ ((0 / 64 : Nat) : Int) < 2 := by omega
      have w3 : IsInt IntKind.u64 (metW cs off num) (0 + 0 / 64 * 1) := hW.int 0 (by omega)
      have w5 : IsInt IntKind.u64 (behW cs off num 0) (0 + 0 / 64 * 1) := hV.int 0 (by omega)
      have w4 : (0 : Int) ≤ ((0 % 64 : Nat) : Int) := by omega
      have w6 : (0 : Int) ≤ ((0 : Nat) : Int) ∧ ((0 : Nat) : Int) ≤ (num : Int) := by omega
      cases cm : bitW (metW cs off num) 0 with
      | true =>
        have hm : #[Value.bool (bitW (behW cs off num 0) 0)] = boL (cycB cs off num) 1 := boL_more (f := cycB cs off num) (i := 0) (b := bitW (behW cs off num 0) 0) (by unfold cycB metB; rw [cm, Bool.true_and])
        rw [hm]
        repeat' first | exact trivial | exact e1 | exact w2 | exact w3 | exact w5 | exact w4 | exact w1 | exact hI | exact hM | exact w6.1 | exact w6.2 | exact w2.1 | exact w2.2 | exact gA_d0_ok _ | exact gA_d1_ok _ | apply And.intro | exact rfl | (intro hh; first | (exact absurd hh (by rw [e1]; decide)) | (exact absurd hh (by decide)) | skip)
      | false =>
        have hm : #[Value.bool false] = boL (cycB cs off num) 1 := boL_more (f := cycB cs off num) (i := 0) (b := false) (by unfold cycB metB; rw [cm, Bool.false_and])
        rw [hm]
        repeat' first | exact trivial | exact e1 | exact w2 | exact w3 | exact w5 | exact w4 | exact w1 | exact hI | exact hM | exact w6.1 | exact w6.2 | exact w2.1 | exact w2.2 | exact gA_d0_ok _ | exact gA_d1_ok _ | apply And.intro | exact rfl | (intro hh; first | (exact absurd hh (by rw [e1]; decide)) | (exact absurd hh (by decide)) | skip)
    · obtain ⟨rfl, rfl, rfl, rfl, rfl⟩ := h
      exact gB_round off num cs ty hI hM (num + 2) 1 (by omega) (by omega) (by omega)
end
theorem cyc_no (off num : Nat) (cs : Array Value) (ty : TypeId) (hI : InsOk cs off num) (hM : mayV cs off num = false) : Good Try.prog (boE false 0 #[]) 1 [callFr 18 Try.f18.ntmps [prS off num] (Try.f18.body.getD .skip)] (rawM cs ty) := by
  refine run_vc EG_ok 8000 (sG_vc off num cs ty false 0 #[] (fun _ _ _ => False)) ?_ (fun _ _ h => h) (fun fs m hb => sG_go (fun _ _ _ h => h.elim) hb)
  simp only [hI, hM, Bool.not_false, Bool.true_eq_false, Bool.false_eq_true, false_implies, true_implies, true_and, and_true]
end Go.Proofs.Ytpohnmafnpnmeaa
/- Of flow: Reached and Loops, as contracts. No condition. -/
namespace Go.Proofs.Ytpohnmafnpnmeaa
set_option linter.unusedSectionVars false
set_option maxRecDepth 100000
theorem Good.boE {k : Nat} {rs : Array Value} {fs : List SFr} {m : SMem} (h : Good Try.prog (boE true k rs) 1 fs m) : Good Try.prog (fun s m' => s = .tup [.c (.f (.slice 1 (.l 0) (.o k) .any)), .c (.f (.int .i64 (.l 0)))] ∧ m' = ⟨2, Tr.nil.set 1 (some ⟨.pop rs, 4, true⟩), []⟩) 1 fs m := by
  refine Good.retX (Good.mono h ?_)
  intro s m h
  unfold Go.Proofs.Ytpohnmafnpnmeaa.boE at h
  split at h
  · cases h.1
  · exact ⟨_, h.2⟩
  · exact h.elim
noncomputable section
def slE (k : Nat) (j : Nat) : SV := .tup [.c (.f (.slice j (.l 0) (.o k) .any)), .c (.f (.int .i64 (.l 0)))]
def nilE : SV := .tup [.c (.f (.lit (.slice none 0 0))), .c (.f (.int .i64 (.l 3)))]
def eachT (f : Array Value → Nat → Nat → Nat → Bool) (m : SMem) : List SV → Option Tree
  | [.s (.c (.f (.slice i o n _)))] => match rawI m i with
    | some cs => some (needs [InsOk cs o.den n.den] (.br (mayV cs o.den n.den) (.ret (slE (n.den + 1) m.next) (m.new (.pop (boL (f cs o.den n.den) (n.den + 1))) 4)) (.ret nilE m)))
    | none => none
  | _ => none
def conE (g : FuncId) (l : List SV) (m : SMem) : Option Tree := match g, l with
  | 8, l => eachT metB m l
  | 18, l => eachT cycB m l
  | g, l => conB g l m
end
theorem fn12 : E0.fn 8 = some Try.f8 := by kernel_rfl
theorem body12 : Try.f8.body = some (Try.f8.body.getD .skip) := by kernel_rfl
theorem fn15 : E0.fn 18 = some Try.f18 := by kernel_rfl
theorem body15 : Try.f18.body = some (Try.f18.body.getD .skip) := by kernel_rfl
theorem nilE_ok {k : Nat} {rs : Array Value} {s : SV} {m' : SMem} {R R' : Ren} {v : Value} (h : boE false k rs s m') (hv : s.ok R' v) : nilE.ok R v := by
  unfold boE at h
  split at h
  · rename_i e
    obtain ⟨vs, rfl, hv⟩ := hv
    refine ⟨vs, rfl, ?_⟩
    revert hv
    generalize vs.toList = l
    intro hv
    match l, hv with
    | [x, y], ⟨h1, h2, _⟩ =>
      refine ⟨h1, ?_, trivial⟩
      have h2 : y = .int .i64 e.den := h2
      rw [h2, h.2]; rfl
  · cases h.1
  · exact h.elim
theorem eachT_ok {f : Array Value → Nat → Nat → Nat → Bool} {g : FuncId} {fn : Func} {c : Code} (h1 : E0.fn g = some fn) (h2 : fn.body = some c)
    (hy : ∀ off num cs ty, InsOk cs off num → mayV cs off num = true → Good Try.prog (boE true (num + 1) (boL (f cs off num) (num + 1))) 1 [callFr g fn.ntmps [prS off num] c] (rawM cs ty))
    (hno : ∀ off num cs ty, InsOk cs off num → mayV cs off num = false → Good Try.prog (boE false 0 #[]) 1 [callFr g fn.ntmps [prS off num] c] (rawM cs ty))
    {m : SMem} {l : List SV} {t : Tree} (h : eachT f m l = some t) : Con E0 g l m t := by
  unfold eachT at h
  split at h
  · rename_i i o n cap
    split at h
    · rename_i cs e
      cases h
      obtain ⟨ty, wr, hb⟩ := rawI_of e
      refine Con.br (fun hm => ?_) (fun hm => ?_)
      · exact Con.made (v := true) (S := slE (n.den + 1)) (l := []) (l' := []) h1 h2 hb nil_args (fun hq => Good.boE (hy o.den n.den cs ty (hq _ (by simp)) hm)) (fun f => rfl)
      · exact Con.rawN h1 h2 e (l := []) (l' := []) (A := boE false 0 #[]) nil_args (fun ty hq => hno o.den n.den cs ty (hq _ (by simp)) hm) (fun _ _ _ _ _ h hv => nilE_ok h hv)
    · cases h
  · cases h
theorem conE_ok (g : FuncId) (l : List SV) (m : SMem) (t : Tree) (h : conE g l m = some t) : Con E0 g l m t := by
  unfold conE at h
  split at h
  · exact eachT_ok fn12 body12 (fun off num cs ty hI hM => reach_yes off num cs ty hI hM) (fun off num cs ty hI hM => reach_no off num cs ty hI hM) h
  · exact eachT_ok fn15 body15 (fun off num cs ty hI hM => cyc_yes off num cs ty hI hM) (fun off num cs ty hI hM => cyc_no off num cs ty hI hM) h
  · exact conB_ok _ _ _ _ h
end Go.Proofs.Ytpohnmafnpnmeaa
/- Of flow: Trim: what a row of chosen places is. No condition. -/
namespace Go.Proofs.Ytpohnmafnpnmeaa
set_option maxRecDepth 100000
def cnt (f : Nat → Bool) : Nat → Nat
  | 0 => 0
  | i + 1 => cnt f i + (if f i = true then 1 else 0)
theorem cnt_yes {f : Nat → Bool} {i : Nat} (h : f i = true) : cnt f (i + 1) = cnt f i + 1 := by show _ + _ = _; rw [if_pos h]
theorem cnt_no {f : Nat → Bool} {i : Nat} (h : f i = false) : cnt f (i + 1) = cnt f i := by show _ + _ = _; rw [if_neg (by rw [h]; decide), Nat.add_zero]
theorem cnt_le (f : Nat → Bool) : ∀ i, cnt f i ≤ i
  | 0 => Nat.le_refl _
  | i + 1 => by have := cnt_le f i; show cnt f i + _ ≤ _; split <;> omega
theorem cnt_mono (f : Nat → Bool) {i j : Nat} (h : i ≤ j) : cnt f i ≤ cnt f j := by
  induction j with
  | zero => obtain rfl : i = 0 := by omega
            exact Nat.le_refl _
  | succ j ih =>
    by_cases e : i = j + 1
    · rw [e]; exact Nat.le_refl _
    · have := ih (by omega); show _ ≤ cnt f j + _; omega
theorem bo_at (f : Nat → Bool) {n i : Nat} (h : i < n) : IsBool (boL f n) (0 + i * 1) ∧ boolAt (boL f n) (0 + i * 1) = f i := ⟨isBo_of (boL_get f h), boolAt_of (boL_get f h)⟩
end Go.Proofs.Ytpohnmafnpnmeaa
/- Of flow: Longest: its recursion's states. No condition. -/
namespace Go.Proofs.Ytpohnmafnpnmeaa
set_option maxRecDepth 100000
noncomputable section
def lgBl (cs : Array Value) (ty : TypeId) (off n : Nat) (ws : SA) : List (Nat × SBlk) :=
  [(0, ⟨.raw cs, ty, false⟩), (1, ⟨.ls [prS' off n], 22, true⟩), (3, ⟨ws, 72, true⟩), (4, ⟨.ls [.fn (.func 25) [] [.ptr 1 (.l 0), .ptr 3 (.l 0), .ptr 4 (.l 0)]], 73, true⟩)]
def lgM (cs : Array Value) (ty : TypeId) (off n : Nat) (ws : SA) : SMem := mkM 5 (lgBl cs ty off n ws)
abbrev LM := Array Value → Nat → Nat → Int → Array Value → Array Value
abbrev LV := Array Value → Nat → Nat → Int → Int
abbrev LP := Array Value → Nat → Nat → Int → Array Value → Prop
def rdL (b : Option SBlk) : Option (Array Value) := match b with
  | some ⟨w, ty, true⟩ => match Nat.beq ty 72 with
    | true => rowX w
    | false => none
  | _ => none
def rdF (b : Option SBlk) : Bool := match b with
  | some ⟨.ls [.fn (.func g) [] [a, b, c]], ty, true⟩ => Nat.beq g 25 && (Nat.beq ty 73 && (isP 1 a && (isP 3 b && isP 4 c)))
  | _ => false
def outL (M : LM) (cs : Array Value) (ty : TypeId) (off n : Nat) (a : Int) (ws : Array Value) (m : SMem) : SMem := ⟨m.next, insB (lsT (lgM cs ty off n (.op (M cs off n a ws))).bl (lgM cs ty off n (.op (M cs off n a ws))).bl.keys) m.bl, m.xs⟩
def arg34 (l : List SV) : Option Int := match l with
  | [.s (.c (.f (.int .i64 a))), p, q, r] => match isPt 1 p && (isPt 3 q && isPt 4 r) with
    | true => some a.den
    | false => none
  | _ => none
def conLg (M : LM) (H : LV) (P : LP) (g : FuncId) (l : List SV) (m : SMem) : Option Tree :=
  match Nat.beq g 25 && (Nat.ble 5 m.next && rdF (getB m.bl 4)), arg34 l, rd0 (getB m.bl 0), rd1 (getB m.bl 1), rdL (getB m.bl 3) with
  | true, some a, some (cs, ty), some (off, n), some ws => some (.need [P cs off n a ws] (.ret (i64 (.o (H cs off n a))) (outL M cs ty off n a ws m)))
  | _, _, _, _, _ => none
def ELg (M : LM) (H : LV) (P : LP) : Env := ⟨Try.prog, fnOf, conLg M H P, fun _ _ _ => false⟩
def lgC (a : Int) : List SFr := [callFr 25 Try.f25.ntmps [i64 (.o a), pt 1, pt 3, pt 4] (Try.f25.body.getD .skip)]
end
end Go.Proofs.Ytpohnmafnpnmeaa
/- Of flow: Longest: what it does, as propositions. No condition. -/
namespace Go.Proofs.Ytpohnmafnpnmeaa
set_option maxRecDepth 100000
theorem lg_vc (M : LM) (H : LV) (P : LP) (cs : Array Value) (ty : TypeId) (off n : Nat) (a : Int) (ws rs : Array Value) (v : Int) : (run (ELg M H P) 4000 5 (lgC a) (lgM cs ty off n (.op ws))).vc (retOk 5 [] (i64 (.o v)) (lgM cs ty off n (.op rs))) (fun _ _ => False) =
    ((((a == (↑n : Int)) == false) = true → (((0 : Int) ≤ a ∧ a < (65 : Int)) ∧ True) ∧ (IsInt IntKind.i64 ws ((0 : Nat) + Int.toNat a * (1 : Nat)) ∧ True) ∧ (decide (intAt ws ((0 : Nat) + Int.toNat a * (1 : Nat)) > (0 : Int)) = true → (((0 : Int) ≤ a ∧ a < (65 : Int)) ∧ True) ∧ (IsInt IntKind.i64 ws ((0 : Nat) + Int.toNat a * (1 : Nat)) ∧ True) ∧ v = intAt ws ((0 : Nat) + Int.toNat a * (1 : Nat)) ∧ ty = ty ∧ cs = cs ∧ (22 : TypeId) = (22 : TypeId) ∧ off = off ∧ n = n ∧ (72 : TypeId) = (72 : TypeId) ∧ rs = ws ∧ (73 : TypeId) = (73 : TypeId) ∧ Fn.func (25 : Nat) = Fn.func (25 : Nat) ∧ True) ∧ (decide (intAt ws ((0 : Nat) + Int.toNat a * (1 : Nat)) > (0 : Int)) = false → ((decide (a < (0 : Int)) == false) = true → (decide (a ≥ (↑n : Int)) = true → (((0 : Int) ≤ a ∧ a < (65 : Int)) ∧ True) ∧ ((0 : Nat) + Int.toNat a * (1 : Nat) < Array.size ws ∧ True) ∧ (((0 : Int) ≤ a ∧ a < (65 : Int)) ∧ True) ∧ (IsInt IntKind.i64 (Array.setIfInBounds ws ((0 : Nat) + Int.toNat a * (1 : Nat)) (Value.int IntKind.i64 (1 : Int))) ((0 : Nat) + Int.toNat a * (1 : Nat)) ∧ True) ∧ v = intAt (Array.setIfInBounds ws ((0 : Nat) + Int.toNat a * (1 : Nat)) (Value.int IntKind.i64 (1 : Int))) ((0 : Nat) + Int.toNat a * (1 : Nat)) ∧ ty = ty ∧ cs = cs ∧ (22 : TypeId) = (22 : TypeId) ∧ off = off ∧ n = n ∧ (72 : TypeId) = (72 : TypeId) ∧ rs = Array.setIfInBounds ws ((0 : Nat) + Int.toNat a * (1 : Nat)) (Value.int IntKind.i64 (1 : Int)) ∧ (73 : TypeId) = (73 : TypeId) ∧ Fn.func (25 : Nat) = Fn.func (25 : Nat) ∧ True) ∧ (decide (a ≥ (↑n : Int)) = false → (((0 : Int) ≤ a ∧ a < (↑n : Int)) ∧ True) ∧ (IsInt IntKind.u16 cs (off + Int.toNat a * (5 : Nat) + 4) ∧ True) ∧ (((0 : Int) ≤ a ∧ a < (↑n : Int)) ∧ True) ∧ (IsInt IntKind.u8 cs (off + Int.toNat a * (5 : Nat)) ∧ True) ∧ ((intAt cs (off + Int.toNat a * (5 : Nat)) == (0 : Int)) = true → (((0 : Int) ≤ a ∧ a < (65 : Int)) ∧ True) ∧ ((0 : Nat) + Int.toNat a * (1 : Nat) < Array.size ws ∧ True) ∧ (((0 : Int) ≤ a ∧ a < (65 : Int)) ∧ True) ∧ (IsInt IntKind.i64 (Array.setIfInBounds ws ((0 : Nat) + Int.toNat a * (1 : Nat)) (Value.int IntKind.i64 (1 : Int))) ((0 : Nat) + Int.toNat a * (1 : Nat)) ∧ True) ∧ v = intAt (Array.setIfInBounds ws ((0 : Nat) + Int.toNat a * (1 : Nat)) (Value.int IntKind.i64 (1 : Int))) ((0 : Nat) + Int.toNat a * (1 : Nat)) ∧ ty = ty ∧ cs = cs ∧ (22 : TypeId) = (22 : TypeId) ∧ off = off ∧ n = n ∧ (72 : TypeId) = (72 : TypeId) ∧ rs = Array.setIfInBounds ws ((0 : Nat) + Int.toNat a * (1 : Nat)) (Value.int IntKind.i64 (1 : Int)) ∧ (73 : TypeId) = (73 : TypeId) ∧ Fn.func (25 : Nat) = Fn.func (25 : Nat) ∧ True) ∧ ((intAt cs (off + Int.toNat a * (5 : Nat)) == (0 : Int)) = false → ((intAt cs (off + Int.toNat a * (5 : Nat)) == (5 : Int)) = true → (P cs off n (IntKind.wrap IntKind.i64 (intAt cs (off + Int.toNat a * (5 : Nat) + 4))) ws ∧ True) ∧ (((0 : Int) ≤ a ∧ a < (65 : Int)) ∧ True) ∧ ((0 : Nat) + Int.toNat a * (1 : Nat) < Array.size (M cs off n (IntKind.wrap IntKind.i64 (intAt cs (off + Int.toNat a * (5 : Nat) + 4))) ws) ∧ True) ∧ (((0 : Int) ≤ a ∧ a < (65 : Int)) ∧ True) ∧ (IsInt IntKind.i64 (Array.setIfInBounds (M cs off n (IntKind.wrap IntKind.i64 (intAt cs (off + Int.toNat a * (5 : Nat) + 4))) ws) ((0 : Nat) + Int.toNat a * (1 : Nat)) (Value.int IntKind.i64 (ari BinOp.add IntKind.i64 (if H cs off n (IntKind.wrap IntKind.i64 (intAt cs (off + Int.toNat a * (5 : Nat) + 4))) > (0 : Int) then H cs off n (IntKind.wrap IntKind.i64 (intAt cs (off + Int.toNat a * (5 : Nat) + 4))) else (0 : Int)) (1 : Int)))) ((0 : Nat) + Int.toNat a * (1 : Nat)) ∧ True) ∧ v = intAt (Array.setIfInBounds (M cs off n (IntKind.wrap IntKind.i64 (intAt cs (off + Int.toNat a * (5 : Nat) + 4))) ws) ((0 : Nat) + Int.toNat a * (1 : Nat)) (Value.int IntKind.i64 (ari BinOp.add IntKind.i64 (if H cs off n (IntKind.wrap IntKind.i64 (intAt cs (off + Int.toNat a * (5 : Nat) + 4))) > (0 : Int) then H cs off n (IntKind.wrap IntKind.i64 (intAt cs (off + Int.toNat a * (5 : Nat) + 4))) else (0 : Int)) (1 : Int)))) ((0 : Nat) + Int.toNat a * (1 : Nat)) ∧ ty = ty ∧ cs = cs ∧ (22 : TypeId) = (22 : TypeId) ∧ off = off ∧ n = n ∧ (72 : TypeId) = (72 : TypeId) ∧ rs = Array.setIfInBounds (M cs off n (IntKind.wrap IntKind.i64 (intAt cs (off + Int.toNat a * (5 : Nat) + 4))) ws) ((0 : Nat) + Int.toNat a * (1 : Nat)) (Value.int IntKind.i64 (ari BinOp.add IntKind.i64 (if H cs off n (IntKind.wrap IntKind.i64 (intAt cs (off + Int.toNat a * (5 : Nat) + 4))) > (0 : Int) then H cs off n (IntKind.wrap IntKind.i64 (intAt cs (off + Int.toNat a * (5 : Nat) + 4))) else (0 : Int)) (1 : Int))) ∧ (73 : TypeId) = (73 : TypeId) ∧ Fn.func (25 : Nat) = Fn.func (25 : Nat) ∧ True) ∧ ((intAt cs (off + Int.toNat a * (5 : Nat)) == (5 : Int)) = false → ((intAt cs (off + Int.toNat a * (5 : Nat)) == (6 : Int)) = true → (((if ari BinOp.add IntKind.i64 a (1 : Int) > IntKind.wrap IntKind.i64 (intAt cs (off + Int.toNat a * (5 : Nat) + 4)) then ari BinOp.add IntKind.i64 a (1 : Int) else IntKind.wrap IntKind.i64 (intAt cs (off + Int.toNat a * (5 : Nat) + 4))) == if ari BinOp.add IntKind.i64 a (1 : Int) < IntKind.wrap IntKind.i64 (intAt cs (off + Int.toNat a * (5 : Nat) + 4)) then ari BinOp.add IntKind.i64 a (1 : Int) else IntKind.wrap IntKind.i64 (intAt cs (off + Int.toNat a * (5 : Nat) + 4))) = true → (P cs off n (if ari BinOp.add IntKind.i64 a (1 : Int) < IntKind.wrap IntKind.i64 (intAt cs (off + Int.toNat a * (5 : Nat) + 4)) then ari BinOp.add IntKind.i64 a (1 : Int) else IntKind.wrap IntKind.i64 (intAt cs (off + Int.toNat a * (5 : Nat) + 4))) ws ∧ True) ∧ (((0 : Int) ≤ a ∧ a < (65 : Int)) ∧ True) ∧ ((0 : Nat) + Int.toNat a * (1 : Nat) < Array.size (M cs off n (if ari BinOp.add IntKind.i64 a (1 : Int) < IntKind.wrap IntKind.i64 (intAt cs (off + Int.toNat a * (5 : Nat) + 4)) then ari BinOp.add IntKind.i64 a (1 : Int) else IntKind.wrap IntKind.i64 (intAt cs (off + Int.toNat a * (5 : Nat) + 4))) ws) ∧ True) ∧ (((0 : Int) ≤ a ∧ a < (65 : Int)) ∧ True) ∧ (IsInt IntKind.i64 (Array.setIfInBounds (M cs off n (if ari BinOp.add IntKind.i64 a (1 : Int) < IntKind.wrap IntKind.i64 (intAt cs (off + Int.toNat a * (5 : Nat) + 4)) then ari BinOp.add IntKind.i64 a (1 : Int) else IntKind.wrap IntKind.i64 (intAt cs (off + Int.toNat a * (5 : Nat) + 4))) ws) ((0 : Nat) + Int.toNat a * (1 : Nat)) (Value.int IntKind.i64 (ari BinOp.add IntKind.i64 (if H cs off n (if ari BinOp.add IntKind.i64 a (1 : Int) < IntKind.wrap IntKind.i64 (intAt cs (off + Int.toNat a * (5 : Nat) + 4)) then ari BinOp.add IntKind.i64 a (1 : Int) else IntKind.wrap IntKind.i64 (intAt cs (off + Int.toNat a * (5 : Nat) + 4))) > (0 : Int) then H cs off n (if ari BinOp.add IntKind.i64 a (1 : Int) < IntKind.wrap IntKind.i64 (intAt cs (off + Int.toNat a * (5 : Nat) + 4)) then ari BinOp.add IntKind.i64 a (1 : Int) else IntKind.wrap IntKind.i64 (intAt cs (off + Int.toNat a * (5 : Nat) + 4))) else (0 : Int)) (1 : Int)))) ((0 : Nat) + Int.toNat a * (1 : Nat)) ∧ True) ∧ v = intAt (Array.setIfInBounds (M cs off n (if ari BinOp.add IntKind.i64 a (1 : Int) < IntKind.wrap IntKind.i64 (intAt cs (off + Int.toNat a * (5 : Nat) + 4)) then ari BinOp.add IntKind.i64 a (1 : Int) else IntKind.wrap IntKind.i64 (intAt cs (off + Int.toNat a * (5 : Nat) + 4))) ws) ((0 : Nat) + Int.toNat a * (1 : Nat)) (Value.int IntKind.i64 (ari BinOp.add IntKind.i64 (if H cs off n (if ari BinOp.add IntKind.i64 a (1 : Int) < IntKind.wrap IntKind.i64 (intAt cs (off + Int.toNat a * (5 : Nat) + 4)) then ari BinOp.add IntKind.i64 a (1 : Int) else IntKind.wrap IntKind.i64 (intAt cs (off + Int.toNat a * (5 : Nat) + 4))) > (0 : Int) then H cs off n (if ari BinOp.add IntKind.i64 a (1 : Int) < IntKind.wrap IntKind.i64 (intAt cs (off + Int.toNat a * (5 : Nat) + 4)) then ari BinOp.add IntKind.i64 a (1 : Int) else IntKind.wrap IntKind.i64 (intAt cs (off + Int.toNat a * (5 : Nat) + 4))) else (0 : Int)) (1 : Int)))) ((0 : Nat) + Int.toNat a * (1 : Nat)) ∧ ty = ty ∧ cs = cs ∧ (22 : TypeId) = (22 : TypeId) ∧ off = off ∧ n = n ∧ (72 : TypeId) = (72 : TypeId) ∧ rs = Array.setIfInBounds (M cs off n (if ari BinOp.add IntKind.i64 a (1 : Int) < IntKind.wrap IntKind.i64 (intAt cs (off + Int.toNat a * (5 : Nat) + 4)) then ari BinOp.add IntKind.i64 a (1 : Int) else IntKind.wrap IntKind.i64 (intAt cs (off + Int.toNat a * (5 : Nat) + 4))) ws) ((0 : Nat) + Int.toNat a * (1 : Nat)) (Value.int IntKind.i64 (ari BinOp.add IntKind.i64 (if H cs off n (if ari BinOp.add IntKind.i64 a (1 : Int) < IntKind.wrap IntKind.i64 (intAt cs (off + Int.toNat a * (5 : Nat) + 4)) then ari BinOp.add IntKind.i64 a (1 : Int) else IntKind.wrap IntKind.i64 (intAt cs (off + Int.toNat a * (5 : Nat) + 4))) > (0 : Int) then H cs off n (if ari BinOp.add IntKind.i64 a (1 : Int) < IntKind.wrap IntKind.i64 (intAt cs (off + Int.toNat a * (5 : Nat) + 4)) then ari BinOp.add IntKind.i64 a (1 : Int) else IntKind.wrap IntKind.i64 (intAt cs (off + Int.toNat a * (5 : Nat) + 4))) else (0 : Int)) (1 : Int))) ∧ (73 : TypeId) = (73 : TypeId) ∧ Fn.func (25 : Nat) = Fn.func (25 : Nat) ∧ True) ∧ (((if ari BinOp.add IntKind.i64 a (1 : Int) > IntKind.wrap IntKind.i64 (intAt cs (off + Int.toNat a * (5 : Nat) + 4)) then ari BinOp.add IntKind.i64 a (1 : Int) else IntKind.wrap IntKind.i64 (intAt cs (off + Int.toNat a * (5 : Nat) + 4))) == if ari BinOp.add IntKind.i64 a (1 : Int) < IntKind.wrap IntKind.i64 (intAt cs (off + Int.toNat a * (5 : Nat) + 4)) then ari BinOp.add IntKind.i64 a (1 : Int) else IntKind.wrap IntKind.i64 (intAt cs (off + Int.toNat a * (5 : Nat) + 4))) = false → (P cs off n (if ari BinOp.add IntKind.i64 a (1 : Int) < IntKind.wrap IntKind.i64 (intAt cs (off + Int.toNat a * (5 : Nat) + 4)) then ari BinOp.add IntKind.i64 a (1 : Int) else IntKind.wrap IntKind.i64 (intAt cs (off + Int.toNat a * (5 : Nat) + 4))) ws ∧ True) ∧ (P cs off n (if ari BinOp.add IntKind.i64 a (1 : Int) > IntKind.wrap IntKind.i64 (intAt cs (off + Int.toNat a * (5 : Nat) + 4)) then ari BinOp.add IntKind.i64 a (1 : Int) else IntKind.wrap IntKind.i64 (intAt cs (off + Int.toNat a * (5 : Nat) + 4))) (M cs off n (if ari BinOp.add IntKind.i64 a (1 : Int) < IntKind.wrap IntKind.i64 (intAt cs (off + Int.toNat a * (5 : Nat) + 4)) then ari BinOp.add IntKind.i64 a (1 : Int) else IntKind.wrap IntKind.i64 (intAt cs (off + Int.toNat a * (5 : Nat) + 4))) ws) ∧ True) ∧ (((0 : Int) ≤ a ∧ a < (65 : Int)) ∧ True) ∧ ((0 : Nat) + Int.toNat a * (1 : Nat) < Array.size (M cs off n (if ari BinOp.add IntKind.i64 a (1 : Int) > IntKind.wrap IntKind.i64 (intAt cs (off + Int.toNat a * (5 : Nat) + 4)) then ari BinOp.add IntKind.i64 a (1 : Int) else IntKind.wrap IntKind.i64 (intAt cs (off + Int.toNat a * (5 : Nat) + 4))) (M cs off n (if ari BinOp.add IntKind.i64 a (1 : Int) < IntKind.wrap IntKind.i64 (intAt cs (off + Int.toNat a * (5 : Nat) + 4)) then ari BinOp.add IntKind.i64 a (1 : Int) else IntKind.wrap IntKind.i64 (intAt cs (off + Int.toNat a * (5 : Nat) + 4))) ws)) ∧ True) ∧ (((0 : Int) ≤ a ∧ a < (65 : Int)) ∧ True) ∧ (IsInt IntKind.i64 (Array.setIfInBounds (M cs off n (if ari BinOp.add IntKind.i64 a (1 : Int) > IntKind.wrap IntKind.i64 (intAt cs (off + Int.toNat a * (5 : Nat) + 4)) then ari BinOp.add IntKind.i64 a (1 : Int) else IntKind.wrap IntKind.i64 (intAt cs (off + Int.toNat a * (5 : Nat) + 4))) (M cs off n (if ari BinOp.add IntKind.i64 a (1 : Int) < IntKind.wrap IntKind.i64 (intAt cs (off + Int.toNat a * (5 : Nat) + 4)) then ari BinOp.add IntKind.i64 a (1 : Int) else IntKind.wrap IntKind.i64 (intAt cs (off + Int.toNat a * (5 : Nat) + 4))) ws)) ((0 : Nat) + Int.toNat a * (1 : Nat)) (Value.int IntKind.i64 (ari BinOp.add IntKind.i64 (if H cs off n (if ari BinOp.add IntKind.i64 a (1 : Int) > IntKind.wrap IntKind.i64 (intAt cs (off + Int.toNat a * (5 : Nat) + 4)) then ari BinOp.add IntKind.i64 a (1 : Int) else IntKind.wrap IntKind.i64 (intAt cs (off + Int.toNat a * (5 : Nat) + 4))) > if H cs off n (if ari BinOp.add IntKind.i64 a (1 : Int) < IntKind.wrap IntKind.i64 (intAt cs (off + Int.toNat a * (5 : Nat) + 4)) then ari BinOp.add IntKind.i64 a (1 : Int) else IntKind.wrap IntKind.i64 (intAt cs (off + Int.toNat a * (5 : Nat) + 4))) > (0 : Int) then H cs off n (if ari BinOp.add IntKind.i64 a (1 : Int) < IntKind.wrap IntKind.i64 (intAt cs (off + Int.toNat a * (5 : Nat) + 4)) then ari BinOp.add IntKind.i64 a (1 : Int) else IntKind.wrap IntKind.i64 (intAt cs (off + Int.toNat a * (5 : Nat) + 4))) else (0 : Int) then H cs off n (if ari BinOp.add IntKind.i64 a (1 : Int) > IntKind.wrap IntKind.i64 (intAt cs (off + Int.toNat a * (5 : Nat) + 4)) then ari BinOp.add IntKind.i64 a (1 : Int) else IntKind.wrap IntKind.i64 (intAt cs (off + Int.toNat a * (5 : Nat) + 4))) else if H cs off n (if ari BinOp.add IntKind.i64 a (1 : Int) < IntKind.wrap IntKind.i64 (intAt cs (off + Int.toNat a * (5 : Nat) + 4)) then ari BinOp.add IntKind.i64 a (1 : Int) else IntKind.wrap IntKind.i64 (intAt cs (off + Int.toNat a * (5 : Nat) + 4))) > (0 : Int) then H cs off n (if ari BinOp.add IntKind.i64 a (1 : Int) < IntKind.wrap IntKind.i64 (intAt cs (off + Int.toNat a * (5 : Nat) + 4)) then ari BinOp.add IntKind.i64 a (1 : Int) else IntKind.wrap IntKind.i64 (intAt cs (off + Int.toNat a * (5 : Nat) + 4))) else (0 : Int)) (1 : Int)))) ((0 : Nat) + Int.toNat a * (1 : Nat)) ∧ True) ∧ v = intAt (Array.setIfInBounds (M cs off n (if ari BinOp.add IntKind.i64 a (1 : Int) > IntKind.wrap IntKind.i64 (intAt cs (off + Int.toNat a * (5 : Nat) + 4)) then ari BinOp.add IntKind.i64 a (1 : Int) else IntKind.wrap IntKind.i64 (intAt cs (off + Int.toNat a * (5 : Nat) + 4))) (M cs off n (if ari BinOp.add IntKind.i64 a (1 : Int) < IntKind.wrap IntKind.i64 (intAt cs (off + Int.toNat a * (5 : Nat) + 4)) then ari BinOp.add IntKind.i64 a (1 : Int) else IntKind.wrap IntKind.i64 (intAt cs (off + Int.toNat a * (5 : Nat) + 4))) ws)) ((0 : Nat) + Int.toNat a * (1 : Nat)) (Value.int IntKind.i64 (ari BinOp.add IntKind.i64 (if H cs off n (if ari BinOp.add IntKind.i64 a (1 : Int) > IntKind.wrap IntKind.i64 (intAt cs (off + Int.toNat a * (5 : Nat) + 4)) then ari BinOp.add IntKind.i64 a (1 : Int) else IntKind.wrap IntKind.i64 (intAt cs (off + Int.toNat a * (5 : Nat) + 4))) > if H cs off n (if ari BinOp.add IntKind.i64 a (1 : Int) < IntKind.wrap IntKind.i64 (intAt cs (off + Int.toNat a * (5 : Nat) + 4)) then ari BinOp.add IntKind.i64 a (1 : Int) else IntKind.wrap IntKind.i64 (intAt cs (off + Int.toNat a * (5 : Nat) + 4))) > (0 : Int) then H cs off n (if ari BinOp.add IntKind.i64 a (1 : Int) < IntKind.wrap IntKind.i64 (intAt cs (off + Int.toNat a * (5 : Nat) + 4)) then ari BinOp.add IntKind.i64 a (1 : Int) else IntKind.wrap IntKind.i64 (intAt cs (off + Int.toNat a * (5 : Nat) + 4))) else (0 : Int) then H cs off n (if ari BinOp.add IntKind.i64 a (1 : Int) > IntKind.wrap IntKind.i64 (intAt cs (off + Int.toNat a * (5 : Nat) + 4)) then ari BinOp.add IntKind.i64 a (1 : Int) else IntKind.wrap IntKind.i64 (intAt cs (off + Int.toNat a * (5 : Nat) + 4))) else if H cs off n (if ari BinOp.add IntKind.i64 a (1 : Int) < IntKind.wrap IntKind.i64 (intAt cs (off + Int.toNat a * (5 : Nat) + 4)) then ari BinOp.add IntKind.i64 a (1 : Int) else IntKind.wrap IntKind.i64 (intAt cs (off + Int.toNat a * (5 : Nat) + 4))) > (0 : Int) then H cs off n (if ari BinOp.add IntKind.i64 a (1 : Int) < IntKind.wrap IntKind.i64 (intAt cs (off + Int.toNat a * (5 : Nat) + 4)) then ari BinOp.add IntKind.i64 a (1 : Int) else IntKind.wrap IntKind.i64 (intAt cs (off + Int.toNat a * (5 : Nat) + 4))) else (0 : Int)) (1 : Int)))) ((0 : Nat) + Int.toNat a * (1 : Nat)) ∧ ty = ty ∧ cs = cs ∧ (22 : TypeId) = (22 : TypeId) ∧ off = off ∧ n = n ∧ (72 : TypeId) = (72 : TypeId) ∧ rs = Array.setIfInBounds (M cs off n (if ari BinOp.add IntKind.i64 a (1 : Int) > IntKind.wrap IntKind.i64 (intAt cs (off + Int.toNat a * (5 : Nat) + 4)) then ari BinOp.add IntKind.i64 a (1 : Int) else IntKind.wrap IntKind.i64 (intAt cs (off + Int.toNat a * (5 : Nat) + 4))) (M cs off n (if ari BinOp.add IntKind.i64 a (1 : Int) < IntKind.wrap IntKind.i64 (intAt cs (off + Int.toNat a * (5 : Nat) + 4)) then ari BinOp.add IntKind.i64 a (1 : Int) else IntKind.wrap IntKind.i64 (intAt cs (off + Int.toNat a * (5 : Nat) + 4))) ws)) ((0 : Nat) + Int.toNat a * (1 : Nat)) (Value.int IntKind.i64 (ari BinOp.add IntKind.i64 (if H cs off n (if ari BinOp.add IntKind.i64 a (1 : Int) > IntKind.wrap IntKind.i64 (intAt cs (off + Int.toNat a * (5 : Nat) + 4)) then ari BinOp.add IntKind.i64 a (1 : Int) else IntKind.wrap IntKind.i64 (intAt cs (off + Int.toNat a * (5 : Nat) + 4))) > if H cs off n (if ari BinOp.add IntKind.i64 a (1 : Int) < IntKind.wrap IntKind.i64 (intAt cs (off + Int.toNat a * (5 : Nat) + 4)) then ari BinOp.add IntKind.i64 a (1 : Int) else IntKind.wrap IntKind.i64 (intAt cs (off + Int.toNat a * (5 : Nat) + 4))) > (0 : Int) then H cs off n (if ari BinOp.add IntKind.i64 a (1 : Int) < IntKind.wrap IntKind.i64 (intAt cs (off + Int.toNat a * (5 : Nat) + 4)) then ari BinOp.add IntKind.i64 a (1 : Int) else IntKind.wrap IntKind.i64 (intAt cs (off + Int.toNat a * (5 : Nat) + 4))) else (0 : Int) then H cs off n (if ari BinOp.add IntKind.i64 a (1 : Int) > IntKind.wrap IntKind.i64 (intAt cs (off + Int.toNat a * (5 : Nat) + 4)) then ari BinOp.add IntKind.i64 a (1 : Int) else IntKind.wrap IntKind.i64 (intAt cs (off + Int.toNat a * (5 : Nat) + 4))) else if H cs off n (if ari BinOp.add IntKind.i64 a (1 : Int) < IntKind.wrap IntKind.i64 (intAt cs (off + Int.toNat a * (5 : Nat) + 4)) then ari BinOp.add IntKind.i64 a (1 : Int) else IntKind.wrap IntKind.i64 (intAt cs (off + Int.toNat a * (5 : Nat) + 4))) > (0 : Int) then H cs off n (if ari BinOp.add IntKind.i64 a (1 : Int) < IntKind.wrap IntKind.i64 (intAt cs (off + Int.toNat a * (5 : Nat) + 4)) then ari BinOp.add IntKind.i64 a (1 : Int) else IntKind.wrap IntKind.i64 (intAt cs (off + Int.toNat a * (5 : Nat) + 4))) else (0 : Int)) (1 : Int))) ∧ (73 : TypeId) = (73 : TypeId) ∧ Fn.func (25 : Nat) = Fn.func (25 : Nat) ∧ True)) ∧ ((intAt cs (off + Int.toNat a * (5 : Nat)) == (6 : Int)) = false → (P cs off n (ari BinOp.add IntKind.i64 a (1 : Int)) ws ∧ True) ∧ (((0 : Int) ≤ a ∧ a < (65 : Int)) ∧ True) ∧ ((0 : Nat) + Int.toNat a * (1 : Nat) < Array.size (M cs off n (ari BinOp.add IntKind.i64 a (1 : Int)) ws) ∧ True) ∧ (((0 : Int) ≤ a ∧ a < (65 : Int)) ∧ True) ∧ (IsInt IntKind.i64 (Array.setIfInBounds (M cs off n (ari BinOp.add IntKind.i64 a (1 : Int)) ws) ((0 : Nat) + Int.toNat a * (1 : Nat)) (Value.int IntKind.i64 (ari BinOp.add IntKind.i64 (if H cs off n (ari BinOp.add IntKind.i64 a (1 : Int)) > (0 : Int) then H cs off n (ari BinOp.add IntKind.i64 a (1 : Int)) else (0 : Int)) (1 : Int)))) ((0 : Nat) + Int.toNat a * (1 : Nat)) ∧ True) ∧ v = intAt (Array.setIfInBounds (M cs off n (ari BinOp.add IntKind.i64 a (1 : Int)) ws) ((0 : Nat) + Int.toNat a * (1 : Nat)) (Value.int IntKind.i64 (ari BinOp.add IntKind.i64 (if H cs off n (ari BinOp.add IntKind.i64 a (1 : Int)) > (0 : Int) then H cs off n (ari BinOp.add IntKind.i64 a (1 : Int)) else (0 : Int)) (1 : Int)))) ((0 : Nat) + Int.toNat a * (1 : Nat)) ∧ ty = ty ∧ cs = cs ∧ (22 : TypeId) = (22 : TypeId) ∧ off = off ∧ n = n ∧ (72 : TypeId) = (72 : TypeId) ∧ rs = Array.setIfInBounds (M cs off n (ari BinOp.add IntKind.i64 a (1 : Int)) ws) ((0 : Nat) + Int.toNat a * (1 : Nat)) (Value.int IntKind.i64 (ari BinOp.add IntKind.i64 (if H cs off n (ari BinOp.add IntKind.i64 a (1 : Int)) > (0 : Int) then H cs off n (ari BinOp.add IntKind.i64 a (1 : Int)) else (0 : Int)) (1 : Int))) ∧ (73 : TypeId) = (73 : TypeId) ∧ Fn.func (25 : Nat) = Fn.func (25 : Nat) ∧ True))))) ∧ ((decide (a < (0 : Int)) == false) = false → (((0 : Int) ≤ a ∧ a < (65 : Int)) ∧ True) ∧ ((0 : Nat) + Int.toNat a * (1 : Nat) < Array.size ws ∧ True) ∧ (((0 : Int) ≤ a ∧ a < (65 : Int)) ∧ True) ∧ (IsInt IntKind.i64 (Array.setIfInBounds ws ((0 : Nat) + Int.toNat a * (1 : Nat)) (Value.int IntKind.i64 (1 : Int))) ((0 : Nat) + Int.toNat a * (1 : Nat)) ∧ True) ∧ v = intAt (Array.setIfInBounds ws ((0 : Nat) + Int.toNat a * (1 : Nat)) (Value.int IntKind.i64 (1 : Int))) ((0 : Nat) + Int.toNat a * (1 : Nat)) ∧ ty = ty ∧ cs = cs ∧ (22 : TypeId) = (22 : TypeId) ∧ off = off ∧ n = n ∧ (72 : TypeId) = (72 : TypeId) ∧ rs = Array.setIfInBounds ws ((0 : Nat) + Int.toNat a * (1 : Nat)) (Value.int IntKind.i64 (1 : Int)) ∧ (73 : TypeId) = (73 : TypeId) ∧ Fn.func (25 : Nat) = Fn.func (25 : Nat) ∧ True))) ∧ (((a == (↑n : Int)) == false) = false → (((0 : Int) ≤ a ∧ a < (65 : Int)) ∧ True) ∧ (IsInt IntKind.i64 ws ((0 : Nat) + Int.toNat a * (1 : Nat)) ∧ True) ∧ v = intAt ws ((0 : Nat) + Int.toNat a * (1 : Nat)) ∧ ty = ty ∧ cs = cs ∧ (22 : TypeId) = (22 : TypeId) ∧ off = off ∧ n = n ∧ (72 : TypeId) = (72 : TypeId) ∧ rs = ws ∧ (73 : TypeId) = (73 : TypeId) ∧ Fn.func (25 : Nat) = Fn.func (25 : Nat) ∧ True)) := by kernel_rfl
end Go.Proofs.Ytpohnmafnpnmeaa
/- Of flow: the longest way, as mathematics. No condition. -/
namespace Go.Proofs.Ytpohnmafnpnmeaa
set_option linter.unusedSectionVars false
set_option maxRecDepth 100000
def mxL (f : Nat → Nat) : List Nat → Nat
  | [] => 0
  | b :: l => max (f b) (mxL f l)
theorem mxL_congr {f g : Nat → Nat} : ∀ {l : List Nat}, (∀ b ∈ l, f b = g b) → mxL f l = mxL g l
  | [], _ => rfl
  | b :: l, h => by
    show max _ _ = max _ _
    rw [h b (List.mem_cons_self ..), mxL_congr fun c hc => h c (List.mem_cons_of_mem _ hc)]
theorem mxL_ge {f : Nat → Nat} : ∀ {l : List Nat} {b : Nat}, b ∈ l → f b ≤ mxL f l
  | c :: l, b, h => by
    show _ ≤ max _ _
    rcases List.mem_cons.1 h with rfl | h
    · omega
    · have := mxL_ge (f := f) h; omega
theorem mxL_ex {f : Nat → Nat} : ∀ {l : List Nat}, mxL f l ≠ 0 → ∃ b ∈ l, f b = mxL f l
  | [], h => absurd rfl h
  | c :: l, h => by
    have h : max (f c) (mxL f l) ≠ 0 := h
    show ∃ b ∈ _, f b = max (f c) (mxL f l)
    by_cases e : mxL f l ≤ f c
    · exact ⟨c, List.mem_cons_self .., by omega⟩
    · obtain ⟨b, hb, h2⟩ := mxL_ex (f := f) (l := l) (by omega)
      exact ⟨b, List.mem_cons_of_mem _ hb, by omega⟩
def hgt (nx : Nat → List Nat) (n : Nat) : Nat → Nat → Nat
  | 0, _ => 0
  | k + 1, i => if n ≤ i then 0 else mxL (hgt nx n k) (nx i) + 1
theorem hgt_succ {nx : Nat → List Nat} {n k i : Nat} : hgt nx n (k + 1) i = if n ≤ i then 0 else mxL (hgt nx n k) (nx i) + 1 := rfl
theorem hgt_le {nx : Nat → List Nat} {n : Nat} : ∀ (k i : Nat), hgt nx n k i ≤ k
  | 0, _ => Nat.le_refl _
  | k + 1, i => by
    rw [hgt_succ]
    split
    · omega
    · by_cases e : mxL (hgt nx n k) (nx i) = 0
      · omega
      · obtain ⟨b, _, h⟩ := mxL_ex e
        have := hgt_le (nx := nx) (n := n) k b
        omega
theorem cnt_sub {f g : Nat → Bool} (h : ∀ j, f j = true → g j = true) : ∀ n, cnt f n ≤ cnt g n
  | 0 => Nat.le_refl _
  | n + 1 => by
    have := cnt_sub h n
    cases hf : f n with
    | true => rw [cnt_yes hf, cnt_yes (h n hf)]; omega
    | false => rw [cnt_no hf]; have := cnt_mono g (show n ≤ n + 1 by omega); omega
theorem cnt_less {f g : Nat → Bool} (h : ∀ j, f j = true → g j = true) {a : Nat} (h1 : f a = false) (h2 : g a = true) : ∀ {n}, a < n → cnt f n < cnt g n
  | n + 1, hn => by
    by_cases e : a = n
    · subst e
      rw [cnt_no h1, cnt_yes h2]
      have := cnt_sub h a
      omega
    · have := cnt_less h h1 h2 (n := n) (by omega)
      cases hf : f n with
      | true => rw [cnt_yes hf, cnt_yes (h n hf)]; omega
      | false => rw [cnt_no hf]; have := cnt_mono g (show n ≤ n + 1 by omega); omega
def rnk (cs : Array Value) (off n i : Nat) : Nat := cnt (fun j => bitW (behW cs off n i) j && decide (j ≤ n)) (n + 1)
def NoLoop (cs : Array Value) (off n : Nat) : Prop := ∀ i, i ≤ n → cycB cs off n i = false
section
variable {off n : Nat} {cs : Array Value} (hI : InsOk cs off n) (hM : mayV cs off n = true)
include hI hM
theorem met_iff {i : Nat} : metB cs off n i = true ↔ Rch (toL cs off n) (-1) 0 i := frW_iff (i := 0) (s := -1) hI hM (Nat.zero_le _) i
theorem met_to {i b : Nat} (h : metB cs off n i = true) (hb : b ∈ toL cs off n i) : metB cs off n b = true := by
  rw [met_iff hI hM] at *
  exact .step h hb (by omega)
theorem rnk_lt (hN : NoLoop cs off n) {i b : Nat} (hi : i ≤ n) (h : metB cs off n i = true) (hb : b ∈ toL cs off n i) : rnk cs off n b < rnk cs off n i := by
  have hbn := toL_le hI hM i hi b hb
  have hm := met_to hI hM h hb
  have hc := hN b hbn
  unfold cycB at hc
  rw [hm, Bool.true_and] at hc
  refine cnt_less (a := b) (fun j hj => ?_) ?_ ?_ (by omega)
  · simp only [Bool.and_eq_true, decide_eq_true_eq] at hj ⊢
    obtain ⟨h1, h2⟩ := hj
    obtain ⟨c, hc, h1⟩ := (behW_iff hI hM hbn h2).1 h1
    exact ⟨(behW_iff hI hM hi h2).2 ⟨b, hb, Rch.head (by omega) hc h1⟩, h2⟩
  · rw [hc]; rfl
  · rw [(behW_iff hI hM hi hbn).2 ⟨b, hb, .refl (by omega)⟩, decide_eq_true hbn]; rfl
theorem rnk_le (i : Nat) : rnk cs off n i ≤ 65 := by
  have := cnt_le (fun j => bitW (behW cs off n i) j && decide (j ≤ n)) (n + 1)
  have := (mayV_iff.1 hM).1
  unfold rnk
  omega
theorem hgt_stab (hN : NoLoop cs off n) : ∀ (k i : Nat), i ≤ n → metB cs off n i = true → rnk cs off n i < k → hgt (toL cs off n) n (k + 1) i = hgt (toL cs off n) n k i
  | 0, _, _, _, h => absurd h (Nat.not_lt_zero _)
  | k + 1, i, hi, hm, h => by
    rw [hgt_succ, hgt_succ]
    split
    · rfl
    · congr 1
      refine mxL_congr fun b hb => ?_
      have := rnk_lt hI hM hN hi hm hb
      exact hgt_stab hN k b (toL_le hI hM i hi b hb) (met_to hI hM hm hb) (by omega)
theorem hgt_eq (hN : NoLoop cs off n) {i : Nat} (hi : i < n) (hm : metB cs off n i = true) : hgt (toL cs off n) n 66 i = mxL (hgt (toL cs off n) n 66) (toL cs off n i) + 1 := by
  have h := rnk_le hI hM i
  rw [← hgt_stab hI hM hN 66 i (by omega) hm (by omega), hgt_succ, if_neg (by omega)]
end
theorem hgt_end {nx : Nat → List Nat} {n k : Nat} : hgt nx n k n = 0 := by
  cases k with
  | zero => rfl
  | succ k => rw [hgt_succ, if_pos (Nat.le_refl _)]
def lgN (nx : Nat → List Nat) (n : Nat) : Nat → Nat → Array Value → Array Value
  | 0, _, ws => ws
  | k + 1, i, ws => if i = n ∨ 0 < intAt ws i then ws else ((nx i).foldl (fun w b => lgN nx n k b w) ws).setIfInBounds i (.int .i64 (hgt nx n 66 i : Nat))
theorem lgN_succ {nx : Nat → List Nat} {n k i : Nat} {ws : Array Value} : lgN nx n (k + 1) i ws = if i = n ∨ 0 < intAt ws i then ws else ((nx i).foldl (fun w b => lgN nx n k b w) ws).setIfInBounds i (.int .i64 (hgt nx n 66 i : Nat)) := rfl
def LgOk (nx : Nat → List Nat) (n : Nat) (ws : Array Value) : Prop := ws.size = 65 ∧ ∀ j, j < 65 → IsInt .i64 ws j ∧ (intAt ws j = 0 ∨ intAt ws j = (hgt nx n 66 j : Nat))
theorem LgOk.set {nx : Nat → List Nat} {n : Nat} {ws : Array Value} (h : LgOk nx n ws) {i : Nat} (hi : i < 65) : LgOk nx n (ws.setIfInBounds i (.int .i64 (hgt nx n 66 i : Nat))) := by
  refine ⟨by rw [set_size]; exact h.1, fun j hj => ?_⟩
  by_cases e : j = i
  · subst e
    have := set_in (cs := ws) (i := j) (v := .int .i64 (hgt nx n 66 j : Nat)) (by rw [h.1]; exact hj)
    exact ⟨isI_of this, .inr (intAt_of this)⟩
  · obtain ⟨h1, h2⟩ := h.2 j hj
    have h1 : ws[j]? = some (.int .i64 (intAt ws j)) := h1
    have := set_out (cs := ws) (v := .int .i64 (hgt nx n 66 i : Nat)) e
    rw [h1] at this
    refine ⟨isI_of this, ?_⟩
    rw [intAt_of this]
    exact h2
theorem lgN_ok {nx : Nat → List Nat} {n : Nat} (hx : ∀ i, i ≤ n → ∀ j ∈ nx i, j ≤ n) (hn : n ≤ 64) : ∀ (k i : Nat) (ws : Array Value), i ≤ n → LgOk nx n ws → LgOk nx n (lgN nx n k i ws)
  | 0, _, _, _, h => h
  | k + 1, i, ws, hi, h => by
    rw [lgN_succ]
    split
    · exact h
    · refine LgOk.set ?_ (by omega)
      have go : ∀ (l : List Nat) (w : Array Value), (∀ j ∈ l, j ≤ n) → LgOk nx n w → LgOk nx n (l.foldl (fun w b => lgN nx n k b w) w) := by
        intro l
        induction l with
        | nil => intro w _ h; exact h
        | cons b l ih => intro w hl h; exact ih _ (fun j hj => hl j (List.mem_cons_of_mem _ hj)) (lgN_ok hx hn k b w (hl b (List.mem_cons_self ..)) h)
      exact go _ _ (hx i hi) h
end Go.Proofs.Ytpohnmafnpnmeaa
/- Of flow: Longest: its recursion. No condition. -/
namespace Go.Proofs.Ytpohnmafnpnmeaa
set_option linter.unusedSectionVars false
set_option maxRecDepth 100000
def lgK (k : Nat) : LM := fun cs off n a ws => lgN (toL cs off n) n k a.toNat ws
def lgH : LV := fun cs off n a => (hgt (toL cs off n) n 66 a.toNat : Nat)
def lgP (k : Nat) : LP := fun cs off n a ws => InsOk cs off n ∧ mayV cs off n = true ∧ NoLoop cs off n ∧ LgOk (toL cs off n) n ws ∧ (0 ≤ a ∧ a ≤ n) ∧ metB cs off n a.toNat = true ∧ rnk cs off n a.toNat < k
theorem fn34 : E0.fn 25 = some Try.f25 := by kernel_rfl
theorem body34 : Try.f25.body = some (Try.f25.body.getD .skip) := by kernel_rfl
theorem lg_step (k : Nat) (hE : EnvOk (ELg (lgK k) lgH (lgP k))) (cs : Array Value) (ty : TypeId) (off n : Nat) (a : Int) (ws : Array Value) (hP : lgP (k + 1) cs off n a ws) :
    Good Try.prog (fun s0 m' => s0 = i64 (.o (lgH cs off n a)) ∧ m' = lgM cs ty off n (.op (lgK (k + 1) cs off n a ws))) 5 [callFr 25 Try.f25.ntmps [i64 (.o a), pt 1, pt 3, pt 4] (Try.f25.body.getD .skip)] (lgM cs ty off n (.op ws)) := by
  obtain ⟨hI, hM, hN, hW, ⟨h0, hn⟩, hm, hr⟩ := hP
  obtain ⟨i, rfl⟩ : ∃ i : Nat, a = (i : Int) := ⟨a.toNat, by omega⟩
  have hn : i ≤ n := by omega
  rw [Int.toNat_natCast] at hm hr
  obtain ⟨n64, hA⟩ := mayV_iff.1 hM
  have hx := toL_le hI hM
  refine Good.ret [] (run_vc hE 4000 (lg_vc (lgK k) lgH (lgP k) cs ty off n i ws (lgK (k + 1) cs off n i ws) (lgH cs off n i)) ?_ (fun _ _ h => h) (fun _ _ h => h.elim))
  rw [Int.toNat_natCast]
  obtain ⟨hsz, hws⟩ := hW
  have hW : LgOk (toL cs off n) n ws := ⟨hsz, hws⟩
  obtain ⟨q1, q2⟩ := hws i (by omega)
  have p0 : 0 + i * 1 = i := by omega
  rw [p0]
  have w1 : (0 : Int) ≤ (i : Int) ∧ (i : Int) < 65 := by omega
  have eH : lgH cs off n i = (hgt (toL cs off n) n 66 i : Nat) := by unfold lgH; rw [Int.toNat_natCast]
  by_cases d1 : i = n
  · have e1 : ((i : Int) == (n : Int)) = true := by rw [beq_iff_eq]; omega
    have er : lgK (k + 1) cs off n i ws = ws := by unfold lgK; rw [Int.toNat_natCast, lgN_succ, if_pos (.inl d1)]
    have ev : lgH cs off n i = intAt ws i := by
      rw [eH, d1, hgt_end]
      rw [d1, hgt_end] at q2
      rcases q2 with q2 | q2 <;> rw [q2] <;> rfl
    simp only [e1, er, ev, w1, q1, beqT, beqF, Bool.not_true, Bool.not_false, Bool.true_eq_false, Bool.false_eq_true, false_implies, true_implies, true_and, and_true]
  have e1 : ((i : Int) == (n : Int)) = false := by rw [beq_eq_false_iff_ne]; omega
  by_cases d2 : 0 < intAt ws i
  · have e2 : decide (intAt ws i > 0) = true := decide_eq_true d2
    have er : lgK (k + 1) cs off n i ws = ws := by unfold lgK; rw [Int.toNat_natCast, lgN_succ, if_pos (.inr d2)]
    have ev : lgH cs off n i = intAt ws i := by
      rw [eH]
      rcases q2 with q2 | q2
      · omega
      · exact q2.symm
    simp only [e1, e2, er, ev, w1, q1, beqT, beqF, Bool.not_true, Bool.not_false, Bool.true_eq_false, Bool.false_eq_true, false_implies, true_implies, true_and, and_true]
  have e2 : decide (intAt ws i > 0) = false := decide_eq_false d2
  have hlt : i < n := by omega
  have er : lgK (k + 1) cs off n i ws = ((toL cs off n i).foldl (fun w b => lgN (toL cs off n) n k b w) ws).setIfInBounds i (.int .i64 (hgt (toL cs off n) n 66 i : Nat)) := by
    unfold lgK; rw [Int.toNat_natCast, lgN_succ, if_neg (by omega)]
  have hh := hgt_eq hI hM hN hlt hm
  have hb : ∀ b, hgt (toL cs off n) n 66 b ≤ 66 := hgt_le 66
  -- what is stored, and read again
  have fin : ∀ w : Array Value, LgOk (toL cs off n) n w → i < w.size ∧ IsInt .i64 (w.setIfInBounds i (.int .i64 (hgt (toL cs off n) n 66 i : Nat))) i ∧ (lgH cs off n i) = intAt (w.setIfInBounds i (.int .i64 (hgt (toL cs off n) n 66 i : Nat))) i := fun w hw => by
    have hlt : i < w.size := by rw [hw.1]; omega
    have := set_in (cs := w) (i := i) (v := .int .i64 (hgt (toL cs off n) n 66 i : Nat)) hlt
    exact ⟨hlt, isI_of this, by rw [eH, intAt_of this]⟩
  have e0 : decide ((i : Int) < 0) = false := decide_eq_false (by omega)
  have e3 : decide ((i : Int) ≥ (n : Int)) = false := decide_eq_false (by omega)
  have w6 : (0 : Int) ≤ (i : Int) ∧ (i : Int) < (n : Int) := by omega
  obtain ⟨⟨i1, i2, i3, i4, i5⟩, r1, r2, r3, r4, r5⟩ := hI.2 i hlt
  obtain ⟨_, _, _, _, k5⟩ := Ins.okN_iff.1 (hA i hlt)
  have et := toL_eq (cs := cs) (off := off) (show ¬ n ≤ i by omega)
  have hp : ∀ (b : Nat) (w : Array Value), b ∈ toL cs off n i → LgOk (toL cs off n) n w → lgP k cs off n (b : Int) w := fun b w hbm hw => by
    have h1 := hx i hn b hbm
    have h2 := rnk_lt hI hM hN hn hm hbm
    refine ⟨hI, hM, hN, hw, ⟨by omega, by omega⟩, ?_, ?_⟩
    · rw [Int.toNat_natCast]; exact met_to hI hM hm hbm
    · rw [Int.toNat_natCast]; omega
  have hok : ∀ (b : Nat) (w : Array Value), b ∈ toL cs off n i → LgOk (toL cs off n) n w → LgOk (toL cs off n) n (lgK k cs off n (b : Int) w) := fun b w hbm hw => by
    unfold lgK; rw [Int.toNat_natCast]; exact lgN_ok hx n64 k b w (hx i hn b hbm) hw
  have eV : ∀ b : Nat, lgH cs off n (b : Int) = (hgt (toL cs off n) n 66 b : Nat) := fun b => by unfold lgH; rw [Int.toNat_natCast]
  have eK : ∀ (b : Nat) (w : Array Value), lgK k cs off n (b : Int) w = lgN (toL cs off n) n k b w := fun b w => by unfold lgK; rw [Int.toNat_natCast]
  simp only [ins] at r1 r5 k5
  have eA : ari BinOp.add IntKind.i64 (i : Int) 1 = ((i + 1 : Nat) : Int) := by rw [ari_add, i64_nat (by omega)]
  have eN : IntKind.i64.wrap (intAt cs (off + i * 5 + 4)) = ((intAt cs (off + i * 5 + 4)).toNat : Int) := by rw [Go.IntWalk.i64_in _ (by omega)]; omega
  have eS : ∀ x : Nat, x < 100 → ari BinOp.add IntKind.i64 (x : Int) 1 = ((x + 1 : Nat) : Int) := fun x h => by rw [ari_add, i64_nat (by omega)]
  rw [eA, eN]
  generalize hnn : (intAt cs (off + i * 5 + 4)).toNat = nn at et ⊢
  generalize ho : intAt cs (off + i * 5) = o at et r1 k5 ⊢
  have one : ∀ b : Nat, toL cs off n i = [b] → ari BinOp.add IntKind.i64 (if lgH cs off n (b : Int) > 0 then lgH cs off n (b : Int) else 0) 1 = ((hgt (toL cs off n) n 66 i : Nat) : Int) ∧ lgK (k + 1) cs off n i ws = (lgK k cs off n (b : Int) ws).setIfInBounds i (.int .i64 (hgt (toL cs off n) n 66 i : Nat)) := fun b hl => by
    refine ⟨?_, by rw [er, hl, eK]; rfl⟩
    rw [hh, hl, eV]
    have h1 := hb b
    show _ = ((max (hgt (toL cs off n) n 66 b) 0 + 1 : Nat) : Int)
    generalize hgt (toL cs off n) n 66 b = x at h1
    rw [show (if (x : Int) > 0 then (x : Int) else 0) = ((max x 0 : Nat) : Int) by split <;> omega, eS _ (by omega)]
  by_cases o0 : o = 0
  · have f0 : (o == 0) = true := by rw [o0]; rfl
    rw [if_pos o0] at et
    have h1 : hgt (toL cs off n) n 66 i = 1 := by rw [hh, et]; rfl
    obtain ⟨z1, z2, z3⟩ := fin ws hW
    have er' : lgK (k + 1) cs off n i ws = ws.setIfInBounds i (.int .i64 1) := by rw [er, et, h1]; rfl
    rw [h1] at z2 z3
    rw [er']
    simp only [e0, e1, e2, e3, f0, w1, w6, i1, i5, q1, beqT, beqF, Bool.not_true, Bool.not_false, Bool.true_eq_false, Bool.false_eq_true, false_implies, true_implies, true_and, and_true]
    exact ⟨z1, z2, z3⟩
  have f0 : (o == 0) = false := by rw [beq_eq_false_iff_ne]; exact o0
  rw [if_neg o0] at et
  by_cases o5 : o = 5
  · have f5 : (o == 5) = true := by rw [o5]; rfl
    rw [if_pos o5] at et
    obtain ⟨y1, y2⟩ := one nn et
    have hmem : nn ∈ toL cs off n i := by rw [et]; exact List.mem_singleton.2 rfl
    obtain ⟨z1, z2, z3⟩ := fin _ (hok nn ws hmem hW)
    rw [y1, y2]
    simp only [e0, e1, e2, e3, f0, f5, w1, w6, i1, i5, q1, hp nn ws hmem hW, z1, z2, ← z3, beqT, beqF, Bool.not_true, Bool.not_false, Bool.true_eq_false, Bool.false_eq_true, false_implies, true_implies, true_and, and_true]
  have f5 : (o == 5) = false := by rw [beq_eq_false_iff_ne]; exact o5
  rw [if_neg o5] at et
  by_cases o6 : o = 6
  · have f6 : (o == 6) = true := by rw [o6]; rfl
    rw [if_pos o6] at et
    have eMin : (if ((i + 1 : Nat) : Int) < (nn : Int) then ((i + 1 : Nat) : Int) else (nn : Int)) = ((min (i + 1) nn : Nat) : Int) := by split <;> omega
    have eMax : (if ((i + 1 : Nat) : Int) > (nn : Int) then ((i + 1 : Nat) : Int) else (nn : Int)) = ((max (i + 1) nn : Nat) : Int) := by split <;> omega
    rw [eMin, eMax]
    by_cases d7 : nn = i + 1
    · have f7 : (((max (i + 1) nn : Nat) : Int) == ((min (i + 1) nn : Nat) : Int)) = true := by rw [beq_iff_eq]; omega
      rw [if_pos d7] at et
      have em : min (i + 1) nn = i + 1 := by omega
      rw [em]
      rw [em] at f7
      obtain ⟨y1, y2⟩ := one (i + 1) et
      have hmem : i + 1 ∈ toL cs off n i := by rw [et]; exact List.mem_singleton.2 rfl
      obtain ⟨z1, z2, z3⟩ := fin _ (hok (i + 1) ws hmem hW)
      rw [y1, y2]
      simp only [e0, e1, e2, e3, f0, f5, f6, f7, w1, w6, i1, i5, q1, hp (i + 1) ws hmem hW, z1, z2, ← z3, beqT, beqF, Bool.not_true, Bool.not_false, Bool.true_eq_false, Bool.false_eq_true, false_implies, true_implies, true_and, and_true]
    · have f7 : (((max (i + 1) nn : Nat) : Int) == ((min (i + 1) nn : Nat) : Int)) = false := by rw [beq_eq_false_iff_ne]; omega
      rw [if_neg d7] at et
      generalize min (i + 1) nn = x at et f7 ⊢
      generalize max (i + 1) nn = y at et f7 ⊢
      have hmx : x ∈ toL cs off n i := by rw [et]; exact List.mem_cons_self ..
      have hmy : y ∈ toL cs off n i := by rw [et]; exact List.mem_cons_of_mem _ (List.mem_singleton.2 rfl)
      have hw1 := hok x ws hmx hW
      have hw2 := hok y _ hmy hw1
      obtain ⟨z1, z2, z3⟩ := fin _ hw2
      have y1 : ari BinOp.add IntKind.i64 (if lgH cs off n (y : Int) > (if lgH cs off n (x : Int) > 0 then lgH cs off n (x : Int) else 0) then lgH cs off n (y : Int) else (if lgH cs off n (x : Int) > 0 then lgH cs off n (x : Int) else 0)) 1 = ((hgt (toL cs off n) n 66 i : Nat) : Int) := by
        rw [hh, et, eV, eV]
        have h1 := hb x
        have h2 := hb y
        show _ = ((max (hgt (toL cs off n) n 66 x) (max (hgt (toL cs off n) n 66 y) 0) + 1 : Nat) : Int)
        generalize hgt (toL cs off n) n 66 x = u at h1
        generalize hgt (toL cs off n) n 66 y = v at h2
        rw [show (if (u : Int) > 0 then (u : Int) else 0) = (u : Int) by split <;> omega, show (if (v : Int) > (u : Int) then (v : Int) else (u : Int)) = ((max u (max v 0) : Nat) : Int) by split <;> omega, eS _ (by omega)]
      have y2 : lgK (k + 1) cs off n i ws = (lgK k cs off n (y : Int) (lgK k cs off n (x : Int) ws)).setIfInBounds i (.int .i64 (hgt (toL cs off n) n 66 i : Nat)) := by
        rw [er, et, eK, eK]; rfl
      rw [y1, y2]
      simp only [e0, e1, e2, e3, f0, f5, f6, f7, w1, w6, i1, i5, q1, hp x ws hmx hW, hp y _ hmy hw1, z1, z2, ← z3, beqT, beqF, Bool.not_true, Bool.not_false, Bool.true_eq_false, Bool.false_eq_true, false_implies, true_implies, true_and, and_true]
  have f6 : (o == 6) = false := by rw [beq_eq_false_iff_ne]; exact o6
  rw [if_neg o6] at et
  obtain ⟨y1, y2⟩ := one (i + 1) et
  have hmem : i + 1 ∈ toL cs off n i := by rw [et]; exact List.mem_singleton.2 rfl
  obtain ⟨z1, z2, z3⟩ := fin _ (hok (i + 1) ws hmem hW)
  rw [y1, y2]
  simp only [e0, e1, e2, e3, f0, f5, f6, w1, w6, i1, i5, q1, hp (i + 1) ws hmem hW, z1, z2, ← z3, beqT, beqF, Bool.not_true, Bool.not_false, Bool.true_eq_false, Bool.false_eq_true, false_implies, true_implies, true_and, and_true]
end Go.Proofs.Ytpohnmafnpnmeaa
/- Of flow: Longest: a call of the function that calls itself, out of its states. No condition. -/
namespace Go.Proofs.Ytpohnmafnpnmeaa
set_option maxRecDepth 100000
theorem rdL_ok {b : Option SBlk} {ws : Array Value} (h : rdL b = some ws) : ∃ w, b = some ⟨w, 72, true⟩ ∧ rowX w = some ws := by
  unfold rdL at h
  split at h
  · split at h
    · rename_i hh
      rw [Nat.eq_of_beq_eq_true hh]
      exact ⟨_, rfl, h⟩
    · cases h
  · cases h
theorem rdF_ok {b : Option SBlk} (h : rdF b = true) : b = some ⟨.ls [.fn (.func 25) [] [.ptr 1 (.l 0), .ptr 3 (.l 0), .ptr 4 (.l 0)]], 73, true⟩ := by
  unfold rdF at h
  split at h
  · simp only [Bool.and_eq_true] at h
    obtain ⟨h1, h2, h3, h4, h5⟩ := h
    rw [Nat.eq_of_beq_eq_true h1, Nat.eq_of_beq_eq_true h2, isP_ok h3, isP_ok h4, isP_ok h5]
  · cases h
theorem arg34_ok {l : List SV} {a : Int} (h : arg34 l = some a) : ∃ x : SI, x.den = a ∧ l = [i64 x, pt 1, pt 3, pt 4] := by
  unfold arg34 at h
  split at h
  · rename_i x p q r
    split at h
    · rename_i hh
      cases h
      simp only [Bool.and_eq_true] at hh
      obtain ⟨h1, h2, h3⟩ := hh
      rw [isPt_ok h1, isPt_ok h2, isPt_ok h3]
      exact ⟨x, rfl, rfl⟩
    · cases h
  · cases h
section
variable (cs : Array Value) (ty : TypeId) (off n : Nat) (w : Array Value)
theorem lgM_get {w : SA} {i : Nat} {b : SBlk} (h : getB (lgM cs ty off n w).bl i = some b) : (i = 0 ∧ b = ⟨.raw cs, ty, false⟩) ∨ (i = 1 ∧ b = ⟨.ls [prS' off n], 22, true⟩) ∨ (i = 3 ∧ b = ⟨w, 72, true⟩) ∨ (i = 4 ∧ b = ⟨.ls [.fn (.func 25) [] [.ptr 1 (.l 0), .ptr 3 (.l 0), .ptr 4 (.l 0)]], 73, true⟩) := by
  have hk := Tr.mem_keys h
  have e : (lgM cs ty off n w).bl.keys = [0, 1, 3, 4] ∨ (lgM cs ty off n w).bl.keys = [0, 1, 4, 3] ∨ (lgM cs ty off n w).bl.keys = [0, 3, 1, 4] ∨ (lgM cs ty off n w).bl.keys = [0, 1, 3, 4] := by first | exact .inl (by kernel_rfl) | exact .inr (.inl (by kernel_rfl)) | exact .inr (.inr (.inl (by kernel_rfl)))
  have hk : i = 0 ∨ i = 1 ∨ i = 3 ∨ i = 4 := by
    rcases e with e | e | e | e <;> (rw [e] at hk; simp only [List.mem_cons, List.not_mem_nil, or_false] at hk; omega)
  rcases hk with rfl | rfl | rfl | rfl
  · exact .inl ⟨rfl, by have e : getB (lgM cs ty off n w).bl 0 = some ⟨.raw cs, ty, false⟩ := by kernel_rfl
                        exact (Option.some.inj (e.symm.trans h)).symm⟩
  · exact .inr (.inl ⟨rfl, by have e : getB (lgM cs ty off n w).bl 1 = some ⟨.ls [prS' off n], 22, true⟩ := by kernel_rfl
                              exact (Option.some.inj (e.symm.trans h)).symm⟩)
  · exact .inr (.inr (.inl ⟨rfl, by have e : getB (lgM cs ty off n w).bl 3 = some ⟨w, 72, true⟩ := by kernel_rfl
                                    exact (Option.some.inj (e.symm.trans h)).symm⟩))
  · exact .inr (.inr (.inr ⟨rfl, by
      have e : getB (lgM cs ty off n w).bl 4 = some ⟨.ls [.fn (.func 25) [] [.ptr 1 (.l 0), .ptr 3 (.l 0), .ptr 4 (.l 0)]], 73, true⟩ := by kernel_rfl
      exact (Option.some.inj (e.symm.trans h)).symm⟩))
theorem lgM_re (f : Nat → Nat) : reL f (lgM cs ty off n (.op w)).bl (lgM cs ty off n (.op w)).bl.keys = [((f 0), ⟨.raw cs, ty, false⟩), ((f 1), ⟨.ls [.f (.slice (f 0) (.o off) (.o n) .any)], 22, true⟩), ((f 3), ⟨.op w, 72, true⟩), ((f 4), ⟨.ls [.fn (.func 25) [] [.ptr (f 1) (.l 0), .ptr (f 3) (.l 0), .ptr (f 4) (.l 0)]], 73, true⟩)] := by kernel_rfl
theorem lgM_ls : lsT (lgM cs ty off n (.op w)).bl (lgM cs ty off n (.op w)).bl.keys = [(0, ⟨.raw cs, ty, false⟩), (1, ⟨.ls [.f (.slice 0 (.o off) (.o n) .any)], 22, true⟩), (3, ⟨.op w, 72, true⟩), (4, ⟨.ls [.fn (.func 25) [] [.ptr 1 (.l 0), .ptr 3 (.l 0), .ptr 4 (.l 0)]], 73, true⟩)] := by kernel_rfl
theorem lgM_next (w : SA) : (lgM cs ty off n w).next = 5 := by kernel_rfl
theorem lgM_xs (w : SA) : (lgM cs ty off n w).xs = [] := by kernel_rfl
end
theorem lg_con {M : LM} {H : LV} {P : LP} {fn : Func} {c : Code} (h1 : E0.fn 25 = some fn) (h2 : fn.body = some c)
    (hg : ∀ cs ty off n a ws, P cs off n a ws → Good Try.prog (fun s0 m' => s0 = i64 (.o (H cs off n a)) ∧ m' = lgM cs ty off n (.op (M cs off n a ws))) 5 [callFr 25 fn.ntmps [i64 (.o a), pt 1, pt 3, pt 4] c] (lgM cs ty off n (.op ws)))
    {g : FuncId} {l : List SV} {m : SMem} {t : Tree} (h : conLg M H P g l m = some t) : Con E0 g l m t := by
  unfold conLg at h
  split at h
  case h_2 => cases h
  rename_i a cs ty off n ws e1 e2 e3 e4 e6
  cases h
  simp only [Bool.and_eq_true] at e1
  obtain ⟨f1, f2, f3⟩ := e1
  cases Nat.eq_of_beq_eq_true f1
  have f2 := Nat.le_of_ble_eq_true f2
  have f3 := rdF_ok f3
  obtain ⟨x, rfl, rfl⟩ := arg34_ok e2
  have e3 := rd0_ok e3
  have e4 := rd1_ok e4
  obtain ⟨wv, e6, e7⟩ := rdL_ok e6
  intro A hA
  obtain ⟨hq, hA⟩ := Tree.sat_needs (q := [P cs off n x.den ws]) hA
  have good := hg cs ty off n x.den ws (hq _ (List.mem_cons_self ..))
  refine ⟨fn, h1, by rw [h2]; rfl, fun n0 F w0 w R args hl hR => ?_⟩
  have lt5 : ∀ {i b}, getB (lgM cs ty off n (.op ws)).bl i = some b → i < 5 := fun hb => by
    rcases lgM_get _ _ _ _ hb with ⟨rfl, _⟩ | ⟨rfl, _⟩ | ⟨rfl, _⟩ | ⟨rfl, _⟩ <;> omega
  refine (frame (m := m) (ms := lgM cs ty off n (.op ws)) (ms' := lgM cs ty off n (.op (M cs off n x.den ws))) (l := [i64 (.o x.den), pt 1, pt 3, pt 4]) (s0 := i64 (.o (H cs off n x.den))) ((E0_ok.fns _ _ h1).1) h2 good (lgM_xs ..) (ι := fun j => j) (fun _ _ _ _ h => h) ?_ ?_ ?_ ?_ ?_ ?_ hR).mono ?_
  · intro i hi
    rw [lgM_next] at hi
    omega
  · intro i b hb
    rw [lgM_next]
    have hlt := lt5 hb
    refine ⟨hlt, ?_⟩
    have cut : ∀ {a : SA} {R : Ren} {v : Array Value}, a.lt 5 = true → a.okM R v → a.okM (pull (fun j => j) 5 R) v := fun h1 h2 => SA.cutM h1 h2
    rcases lgM_get _ _ _ _ hb with ⟨rfl, rfl⟩ | ⟨rfl, rfl⟩ | ⟨rfl, rfl⟩ | ⟨rfl, rfl⟩
    · exact ⟨_, e3, rfl, fun h => h, fun R cs h => h⟩
    · exact ⟨_, e4, rfl, fun h => h, fun R cs h => cut rfl h⟩
    · exact ⟨_, e6, rfl, fun h => h, fun R cs h => rowX_ok e7 h⟩
    · exact ⟨_, f3, rfl, fun h => h, fun R cs h => cut rfl h⟩
  · intro i b hb _
    rcases lgM_get _ _ _ _ hb with ⟨rfl, rfl⟩ | ⟨rfl, rfl⟩ | ⟨rfl, rfl⟩ | ⟨rfl, rfl⟩ <;> rfl
  · intro i b hb _
    rcases lgM_get _ _ _ _ hb with ⟨rfl, rfl⟩ | ⟨rfl, rfl⟩ | ⟨rfl, rfl⟩ | ⟨rfl, rfl⟩ <;> exact ⟨_, rfl, rfl⟩
  · rw [lgM_next, lgM_next]; exact Nat.le_refl _
  · rw [lgM_next]
    match args, hl with
    | args, hl =>
      generalize args.toList = vs at hl
      match vs, hl with
      | [v1, v2, v3, v4], ⟨g1, g2, g3, g4, _⟩ =>
        refine ⟨?_, SV.cut rfl g2, SV.cut rfl g3, SV.cut rfl g4, trivial⟩
        exact g1
  · rintro v w' ⟨R', hX, hR', hv⟩
    rw [lgM_next, lgM_next, Nat.sub_self, Nat.add_zero] at hX hR'
    rw [lgM_re] at hR'
    have ep : ∀ i, i < 5 → push (fun j => j) 5 m.next i = i := fun i hi => by
      unfold push
      rw [if_pos (by simpa using hi)]
    rw [ep 0 (by omega), ep 1 (by omega), ep 3 (by omega), ep 4 (by omega)] at hR'
    have hA : A (i64 (.o (H cs off n x.den))) (outL M cs ty off n x.den ws m) := hA
    refine ⟨_, _, R', hA, ?_, ?_, ?_⟩
    · exact hX
    · unfold outL
      rw [lgM_ls]
      exact hR'
    · exact hv
theorem ELg_ok : ∀ k, EnvOk (ELg (lgK k) lgH (lgP k))
  | 0 => EnvOk.with E0_ok _ _ fun g l m t h => lg_con fn34 body34 (fun _ _ _ _ _ _ hP => absurd hP.2.2.2.2.2.2 (Nat.not_lt_zero _)) h
  | k + 1 => EnvOk.with E0_ok _ _ fun g l m t h => lg_con fn34 body34 (fun cs ty off n a ws hP => lg_step k (ELg_ok k) cs ty off n a ws hP) h
end Go.Proofs.Ytpohnmafnpnmeaa
/- Of flow: what the law of loops calls: their states. No condition. -/
namespace Go.Proofs.Ytpohnmafnpnmeaa
set_option linter.unusedVariables false
noncomputable def roS (i : Nat) (n : Nat) : SV := .s (.c (.f (.slice i (.l 0) (.o n) .any)))
noncomputable def EH : Env := ⟨Try.prog, fnOf, conE, haltAt [36002]⟩
noncomputable def hC_d0 : List SIt := sekF Try.f36 2
noncomputable def hC_d1 : List SIt := sekI Try.f24 1 [2, 3, 4]
noncomputable def hC_F (n : Nat) (rs : Array Value) (ty : TypeId) (r : Bool) (b : Int) (i : Int) : List SFr := [frOf 36 Try.f36 [(0, roS 0 n), (1, sB (.l true)), (7, i64 (.o b)), (8, i64 (.o i))] hC_d0, frOf 24 Try.f24 [(0, roS 0 n)] hC_d1]
noncomputable def hC_M (n : Nat) (rs : Array Value) (ty : TypeId) (r : Bool) (b : Int) (i : Int) : SMem := mkM 1 [(0, ⟨.pop rs, ty, false⟩)]
noncomputable def hC_n (n : Nat) (rs : Array Value) (ty : TypeId) (r : Bool) (Q : Int → Int → Prop) (fs : List SFr) (m : SMem) : Prop := (match frNth fs 0 with | some f0 => (match rdI f0 7 with | some b => (match rdI f0 8 with | some i => Q b i ∧ subOk 1 [] (hC_F n rs ty r b i) (hC_M n rs ty r b i) fs m | none => False) | none => False) | none => False)
noncomputable def sC_t (n : Nat) (rs : Array Value) (ty : TypeId) (r : Bool) : Tree := run EH 8000 1 [callFr 24 Try.f24.ntmps [roS 0 n, sB (.l true)] (Try.f24.body.getD .skip)] (mkM 1 [(0, ⟨.pop rs, ty, false⟩)])
noncomputable def sC_x (n : Nat) (rs : Array Value) (ty : TypeId) (r : Bool) (QhC : Int → Int → Prop) (fs : List SFr) (m : SMem) : Prop := hC_n n rs ty r QhC fs m
noncomputable def kC_t (n : Nat) (rs : Array Value) (ty : TypeId) (r : Bool) (b : Int) (i : Int) : Tree := stepT EH.go (run EH 1000) 1 (hC_F n rs ty r b i) (hC_M n rs ty r b i)
noncomputable def kC_x (n : Nat) (rs : Array Value) (ty : TypeId) (r : Bool) (b : Int) (i : Int) (QhC : Int → Int → Prop) (fs : List SFr) (m : SMem) : Prop := hC_n n rs ty r QhC fs m
theorem hC_d0_ok (r : Nat → Option Nat) : TodoOk r hC_d0 hC_d0 := TodoOk.it (by kernel_rfl)
theorem hC_d1_ok (r : Nat → Option Nat) : TodoOk r hC_d1 hC_d1 := TodoOk.it (by kernel_rfl)
theorem hC_good {A : SV → SMem → Prop} {n : Nat} {rs : Array Value} {ty : TypeId} {r : Bool} {Q : Int → Int → Prop} {fs : List SFr} {m : SMem} (H : ∀ b i, Q b i → Good Try.prog A 1 (hC_F n rs ty r b i) (hC_M n rs ty r b i)) (hb : hC_n n rs ty r Q fs m) : Good Try.prog A 1 fs m := by
  unfold hC_n at hb
  split at hb
  rotate_left
  · exact hb.elim
  split at hb
  rotate_left
  · exact hb.elim
  split at hb
  rotate_left
  · exact hb.elim
  exact Good.of_sub hb.2 (H _ _ hb.1)
theorem sC_go {A : SV → SMem → Prop} {n : Nat} {rs : Array Value} {ty : TypeId} {r : Bool} {QhC : Int → Int → Prop} {fs : List SFr} {m : SMem} (hhC : ∀ b' i', QhC b' i' → Good Try.prog A 1 (hC_F n rs ty r b' i') (hC_M n rs ty r b' i')) (hb : sC_x n rs ty r QhC fs m) : Good Try.prog A 1 fs m := by
  unfold sC_x at hb
  exact hC_good hhC hb
theorem kC_go {A : SV → SMem → Prop} {n : Nat} {rs : Array Value} {ty : TypeId} {r : Bool} {b : Int} {i : Int} {QhC : Int → Int → Prop} {fs : List SFr} {m : SMem} (hhC : ∀ b' i', QhC b' i' → Good Try.prog A 1 (hC_F n rs ty r b' i') (hC_M n rs ty r b' i')) (hb : kC_x n rs ty r b i QhC fs m) : Good Try.prog A 1 fs m := by
  unfold kC_x at hb
  exact hC_good hhC hb
end Go.Proofs.Ytpohnmafnpnmeaa
/- Of flow: what the law of loops calls: their states. -/
namespace Go.Proofs.Ytpohnmafnpnmeaa
set_option maxRecDepth 100000
theorem sC_vc (n : Nat) (rs : Array Value) (ty : TypeId) (r : Bool) (QhC : Int → Int → Prop) : (sC_t n rs ty r).vc ((boolR r)) (sC_x n rs ty r QhC) =
    (QhC (↑n : Int) (0 : Int) ∧ CallKind.normal = CallKind.normal ∧ TodoOk (ren 1 []) hC_d0 hC_d0 ∧ n = n ∧ (↑n : Int) = (↑n : Int) ∧ (0 : Int) = (0 : Int) ∧ CallKind.normal = CallKind.normal ∧ TodoOk (ren 1 []) hC_d1 hC_d1 ∧ n = n ∧ ty = ty ∧ rs = rs ∧ True) := by kernel_rfl
theorem kC_vc (n : Nat) (rs : Array Value) (ty : TypeId) (r : Bool) (b : Int) (i : Int) (QhC : Int → Int → Prop) : (kC_t n rs ty r b i).vc ((boolR r)) (kC_x n rs ty r b i QhC) =
    ((decide (i < b) = true → (((0 : Int) ≤ i ∧ i < (↑n : Int)) ∧ True) ∧ (IsBool rs ((0 : Nat) + Int.toNat i * 1) ∧ True) ∧ ((true == boolAt rs ((0 : Nat) + Int.toNat i * 1)) = true → decide (i ≥ (0 : Int)) = r) ∧ ((true == boolAt rs ((0 : Nat) + Int.toNat i * 1)) = false → QhC b (ari BinOp.add IntKind.i64 i (1 : Int)) ∧ CallKind.normal = CallKind.normal ∧ TodoOk (ren 1 []) hC_d0 hC_d0 ∧ n = n ∧ b = b ∧ ari BinOp.add IntKind.i64 i (1 : Int) = ari BinOp.add IntKind.i64 i (1 : Int) ∧ CallKind.normal = CallKind.normal ∧ TodoOk (ren 1 []) hC_d1 hC_d1 ∧ n = n ∧ ty = ty ∧ rs = rs ∧ True)) ∧ (decide (i < b) = false → decide ((-1 : Int) ≥ (0 : Int)) = r)) := by kernel_rfl
end Go.Proofs.Ytpohnmafnpnmeaa
/- Of flow: what the law of loops calls. No condition. -/
namespace Go.Proofs.Ytpohnmafnpnmeaa
set_option linter.unusedSectionVars false
set_option maxRecDepth 100000
theorem EH_ok : EnvOk EH := EnvOk.with E0_ok _ _ conE_ok
def anyB (f : Nat → Bool) : Nat → Bool
  | 0 => false
  | n + 1 => anyB f n || f n
theorem anyB_iff {f : Nat → Bool} : ∀ {n : Nat}, anyB f n = true ↔ ∃ i, i < n ∧ f i = true
  | 0 => ⟨fun h => (by cases h), fun ⟨_, h, _⟩ => absurd h (Nat.not_lt_zero _)⟩
  | n + 1 => by
    show (anyB f n || f n) = true ↔ _
    rw [Bool.or_eq_true, anyB_iff (n := n)]
    constructor
    · rintro (⟨i, h1, h2⟩ | h)
      · exact ⟨i, by omega, h2⟩
      · exact ⟨n, by omega, h⟩
    · rintro ⟨i, h1, h2⟩
      by_cases e : i = n
      · subst e; exact .inr h2
      · exact .inl ⟨i, by omega, h2⟩
theorem anyB_no {f : Nat → Bool} {n : Nat} : anyB f n = false ↔ ∀ i, i < n → f i = false := by
  constructor
  · intro h i hi
    cases hf : f i with
    | false => rfl
    | true => rw [anyB_iff.2 ⟨i, hi, hf⟩] at h; cases h
  · intro h
    cases hf : anyB f n with
    | false => rfl
    | true => obtain ⟨i, h1, h2⟩ := anyB_iff.1 hf; rw [h i h1] at h2; cases h2
theorem anyB_congr {f g : Nat → Bool} {n : Nat} (h : ∀ i, i < n → f i = g i) : anyB f n = anyB g n := by
  rw [Bool.eq_iff_iff, anyB_iff, anyB_iff]
  exact ⟨fun ⟨i, a, b⟩ => ⟨i, a, by rw [← h i a]; exact b⟩, fun ⟨i, a, b⟩ => ⟨i, a, by rw [h i a]; exact b⟩⟩
def BoOk (rs : Array Value) (n : Nat) : Prop := n < 1000 ∧ ∀ i, i < n → IsBool rs (0 + i * 1)
def anyR (rs : Array Value) (n : Nat) : Bool := anyB (fun i => boolAt rs (0 + i * 1)) n
theorem hC_round (n : Nat) (rs : Array Value) (ty : TypeId) (hB : BoOk rs n) : ∀ (K i : Nat), n - i < K → i ≤ n → (∀ j, j < i → boolAt rs (0 + j * 1) = false) → Good Try.prog (boolR (anyR rs n)) 1 (hC_F n rs ty (anyR rs n) (n : Nat) i) (hC_M n rs ty (anyR rs n) (n : Nat) i) := by
  obtain ⟨hn, hB⟩ := hB
  intro K
  induction K with
  | zero => intro i h; omega
  | succ K ih =>
    intro i hK hi hd
    refine past_vc EH_ok 1000 (kC_vc n rs ty (anyR rs n) (n : Nat) i (fun b' i' => b' = (n : Nat) ∧ i' = (i + 1 : Nat) ∧ i < n ∧ boolAt rs (0 + i * 1) = false)) ?_ (fun _ _ h => h)
      (fun fs m hb => kC_go (fun b' i' h => ?_) hb)
    · rw [i64_add1 (show i < 1000 by omega), Int.toNat_natCast]
      by_cases d : i < n
      · have e1 : decide ((i : Int) < ((n : Nat) : Int)) = true := decide_eq_true (by omega)
        have w1 : (0 : Int) ≤ (i : Int) ∧ (i : Int) < (n : Int) := by omega
        have b1 := hB i d
        cases hb : boolAt rs (0 + i * 1) with
        | true =>
          have e2 : anyR rs n = true := anyB_iff.2 ⟨i, d, hb⟩
          have e4 : decide ((i : Int) ≥ 0) = true := decide_eq_true (by omega)
          have e3 : (true == true) = true := rfl
          simp only [e1, e2, e3, e4, decide_true, w1, b1, Bool.true_eq_false, Bool.false_eq_true, false_implies, true_implies, true_and, and_true, hC_d0_ok, hC_d1_ok]
        | false =>
          have e3 : (true == false) = false := rfl
          simp only [e1, e3, decide_true, w1, d, b1, Bool.true_eq_false, Bool.false_eq_true, false_implies, true_implies, true_and, and_true, hC_d0_ok, hC_d1_ok]
      · have e1 : decide ((i : Int) < ((n : Nat) : Int)) = false := decide_eq_false (by omega)
        have e2 : decide ((-1 : Int) ≥ 0) = anyR rs n := by
          rw [decide_eq_false (by omega)]
          exact (anyB_no.2 fun j hj => hd j (by omega)).symm
        simp only [e1, e2, Bool.true_eq_false, Bool.false_eq_true, false_implies, true_implies, true_and, and_true]
    · obtain ⟨rfl, rfl, h1, h2⟩ := h
      exact ih (i + 1) (by omega) (by omega) (fun j hj => by
        by_cases e : j = i
        · rw [e]; exact h2
        · exact hd j (by omega))
theorem contains_good (n : Nat) (rs : Array Value) (ty : TypeId) (hB : BoOk rs n) : Good Try.prog (boolR (anyR rs n)) 1 [callFr 24 Try.f24.ntmps [roS 0 n, sB (.l true)] (Try.f24.body.getD .skip)] (mkM 1 [(0, ⟨.pop rs, ty, false⟩)]) := by
  refine run_vc EH_ok 8000 (sC_vc n rs ty (anyR rs n) (fun b' i' => b' = (n : Nat) ∧ i' = (0 : Nat))) ?_ (fun _ _ h => h) (fun fs m hb => sC_go (fun b' i' h => ?_) hb)
  · simp only [and_true, hC_d0_ok, hC_d1_ok]; repeat' first | exact trivial | exact rfl | apply And.intro
  · obtain ⟨rfl, rfl⟩ := h
    exact hC_round n rs ty hB _ 0 (Nat.lt_succ_self _) (Nat.zero_le _) (fun j hj => absurd hj (Nat.not_lt_zero _))
end Go.Proofs.Ytpohnmafnpnmeaa
/- Of flow: Longest: its environment. No condition. -/
namespace Go.Proofs.Ytpohnmafnpnmeaa
set_option linter.unusedSectionVars false
set_option maxRecDepth 100000
noncomputable section
def hasT (m : SMem) : List SV → Option Tree
  | [.s (.c (.f (.slice i (.l 0) n _))), .s (.c (.f (.bool (.l true))))] => match rowR m i with
    | some rs => some (needs [BoOk rs n.den] (.ret (sB (.o (anyR rs n.den))) m))
    | none => none
  | _ => none
def conJ (g : FuncId) (l : List SV) (m : SMem) : Option Tree := match g, l with
  | 24, l => hasT m l
  | 25, l => conLg (lgK 66) lgH (lgP 66) 25 l m
  | 18, l => conE 18 l m
  | _, _ => none
def EJ : Env := ⟨Try.prog, fnOf, conJ, fun _ _ _ => false⟩
def pairR (v e : Int) (s : SV) (_ : SMem) : Prop := match s with
  | .tup [.c (.f (.int .i64 x)), .c (.f (.int .i64 y))] => x.den = v ∧ y.den = e
  | _ => False
end
theorem fn33 : E0.fn 24 = some Try.f24 := by kernel_rfl
theorem body33 : Try.f24.body = some (Try.f24.body.getD .skip) := by kernel_rfl
theorem hasT_ok {m : SMem} {l : List SV} {t : Tree} (h : hasT m l = some t) : Con E0 24 l m t := by
  unfold hasT at h
  split at h
  case h_2 => cases h
  rename_i i n c1
  split at h
  case h_2 => cases h
  rename_i rs e1
  cases h
  obtain ⟨ta, wa, ha⟩ := rowR_of e1
  refine Con.ro E0_ok (q := [BoOk rs n.den]) (l' := [roS 0 n.den, sB (.l true)]) (ms := mkM 1 [(0, ⟨.pop rs, ta, false⟩)]) (A := boolR (anyR rs n.den)) fn33 body33 rfl (fun _ => i) ?_ ?_ (fun hq => contains_good n.den rs ta (hq _ (List.mem_singleton.2 rfl))) (fun s m' R R' v h hv => bool_ok (R := R) h hv)
  · intro j b hj
    have hj : j = 0 ∧ b = ⟨.pop rs, ta, false⟩ := prM_get (v := false) hj
    obtain ⟨rfl, rfl⟩ := hj
    exact ⟨Nat.zero_lt_one, rfl, _, ha, rfl, fun R cs' h => h⟩
  · intro R vs hv
    match vs, hv with
    | [x, y], hv =>
      obtain ⟨⟨gl, cp, f1, f2, f3, f4⟩, k1, _⟩ := hv
      exact ⟨⟨gl, cp, by unfold pull; exact f1, f2, trivial, f4⟩, k1, trivial⟩
theorem conJ_ok (g : FuncId) (l : List SV) (m : SMem) (t : Tree) (h : conJ g l m = some t) : Con E0 g l m t := by
  unfold conJ at h
  split at h
  · exact hasT_ok h
  · exact lg_con fn34 body34 (fun cs ty off n a ws hP => lg_step 65 (ELg_ok 65) cs ty off n a ws hP) h
  · exact conE_ok _ _ _ _ h
  · cases h
theorem EJ_ok : EnvOk EJ := EnvOk.with E0_ok _ _ conJ_ok
end Go.Proofs.Ytpohnmafnpnmeaa
/- Of flow: Longest. -/
namespace Go.Proofs.Ytpohnmafnpnmeaa
set_option maxRecDepth 100000
theorem lo_vc (off num : Nat) (cs : Array Value) (ty : TypeId) (v e : Int) : (run EJ 8000 1 [callFr 9 Try.f9.ntmps [prS off num] (Try.f9.body.getD .skip)] (rawM cs ty)).vc (pairR v e) (fun _ _ => False) =
    ((InsOk cs off num ∧ True) ∧ (mayV cs off num = true → (BoOk (boL (cycB cs off num) (num + 1)) (num + 1) ∧ True) ∧ (anyR (boL (cycB cs off num) (num + 1)) (num + 1) = true → (0 : Int) = v ∧ (12 : Int) = e) ∧ (anyR (boL (cycB cs off num) (num + 1)) (num + 1) = false → (lgP (66 : Nat) cs off num (0 : Int) #[Value.int IntKind.i64 (0 : Int), Value.int IntKind.i64 (0 : Int), Value.int IntKind.i64 (0 : Int), Value.int IntKind.i64 (0 : Int), Value.int IntKind.i64 (0 : Int), Value.int IntKind.i64 (0 : Int), Value.int IntKind.i64 (0 : Int), Value.int IntKind.i64 (0 : Int), Value.int IntKind.i64 (0 : Int), Value.int IntKind.i64 (0 : Int), Value.int IntKind.i64 (0 : Int), Value.int IntKind.i64 (0 : Int), Value.int IntKind.i64 (0 : Int), Value.int IntKind.i64 (0 : Int), Value.int IntKind.i64 (0 : Int), Value.int IntKind.i64 (0 : Int), Value.int IntKind.i64 (0 : Int), Value.int IntKind.i64 (0 : Int), Value.int IntKind.i64 (0 : Int), Value.int IntKind.i64 (0 : Int), Value.int IntKind.i64 (0 : Int), Value.int IntKind.i64 (0 : Int), Value.int IntKind.i64 (0 : Int), Value.int IntKind.i64 (0 : Int), Value.int IntKind.i64 (0 : Int), Value.int IntKind.i64 (0 : Int), Value.int IntKind.i64 (0 : Int), Value.int IntKind.i64 (0 : Int), Value.int IntKind.i64 (0 : Int), Value.int IntKind.i64 (0 : Int), Value.int IntKind.i64 (0 : Int), Value.int IntKind.i64 (0 : Int), Value.int IntKind.i64 (0 : Int), Value.int IntKind.i64 (0 : Int), Value.int IntKind.i64 (0 : Int), Value.int IntKind.i64 (0 : Int), Value.int IntKind.i64 (0 : Int), Value.int IntKind.i64 (0 : Int), Value.int IntKind.i64 (0 : Int), Value.int IntKind.i64 (0 : Int), Value.int IntKind.i64 (0 : Int), Value.int IntKind.i64 (0 : Int), Value.int IntKind.i64 (0 : Int), Value.int IntKind.i64 (0 : Int), Value.int IntKind.i64 (0 : Int), Value.int IntKind.i64 (0 : Int), Value.int IntKind.i64 (0 : Int), Value.int IntKind.i64 (0 : Int), Value.int IntKind.i64 (0 : Int), Value.int IntKind.i64 (0 : Int), Value.int IntKind.i64 (0 : Int), Value.int IntKind.i64 (0 : Int), Value.int IntKind.i64 (0 : Int), Value.int IntKind.i64 (0 : Int), Value.int IntKind.i64 (0 : Int), Value.int IntKind.i64 (0 : Int), Value.int IntKind.i64 (0 : Int), Value.int IntKind.i64 (0 : Int), Value.int IntKind.i64 (0 : Int), Value.int IntKind.i64 (0 : Int), Value.int IntKind.i64 (0 : Int), Value.int IntKind.i64 (0 : Int), Value.int IntKind.i64 (0 : Int), Value.int IntKind.i64 (0 : Int), Value.int IntKind.i64 (0 : Int)] ∧ True) ∧ lgH cs off num (0 : Int) = v ∧ (0 : Int) = e)) ∧ (mayV cs off num = false → (0 : Int) = v ∧ (3 : Int) = e)) := by kernel_rfl
end Go.Proofs.Ytpohnmafnpnmeaa
/- Of flow: Longest, as a contract; and the reference's. No condition. -/
namespace Go.Proofs.Ytpohnmafnpnmeaa
set_option linter.unusedSectionVars false
set_option maxRecDepth 100000
def lnV (cs : Array Value) (off num : Nat) : Int := if anyB (cycB cs off num) (num + 1) = true then 0 else (hgt (toL cs off num) num 66 0 : Nat)
def lnE (cs : Array Value) (off num : Nat) : Int := if anyB (cycB cs off num) (num + 1) = true then 12 else 0
theorem any_row (f : Nat → Bool) (n : Nat) (hn : n < 1000) : BoOk (boL f n) n ∧ anyR (boL f n) n = anyB f n :=
  ⟨⟨hn, fun i hi => (bo_at f hi).1⟩, anyB_congr fun i hi => (bo_at f hi).2⟩
theorem zero_ok (nx : Nat → List Nat) (n : Nat) {ws : Array Value} (h : ws.toList = List.replicate 65 (.int .i64 0)) : LgOk nx n ws := by
  have h2 : ∀ j, j < 65 → ws[j]? = some (.int .i64 0) := fun j hj => by rw [← Array.getElem?_toList, h, List.getElem?_replicate, if_pos hj]
  exact ⟨by rw [← Array.length_toList, h, List.length_replicate], fun j hj => ⟨isI_of (h2 j hj), .inl (intAt_of (h2 j hj))⟩⟩
theorem long_good (off num : Nat) (cs : Array Value) (ty : TypeId) (hI : InsOk cs off num) (hM : mayV cs off num = true) : Good Try.prog (pairR (lnV cs off num) (lnE cs off num)) 1 [callFr 9 Try.f9.ntmps [prS off num] (Try.f9.body.getD .skip)] (rawM cs ty) := by
  refine run_vc EJ_ok 8000 (lo_vc off num cs ty (lnV cs off num) (lnE cs off num)) ?_ (fun _ _ h => h) (fun _ _ h => h.elim)
  have n64 := (mayV_iff.1 hM).1
  obtain ⟨h1, h2⟩ := any_row (cycB cs off num) (num + 1) (by omega)
  rw [h2]
  unfold lnV lnE
  refine ⟨⟨hI, trivial⟩, fun _ => ⟨⟨h1, trivial⟩, fun h => ?_, fun h => ?_⟩, fun h => by rw [hM] at h; cases h⟩
  · rw [if_pos h, if_pos h]; exact ⟨rfl, rfl⟩
  · rw [if_neg (by rw [h]; decide), if_neg (by rw [h]; decide)]
    refine ⟨⟨⟨hI, hM, fun i hi => anyB_no.1 h i (by omega), zero_ok _ _ (by kernel_rfl), ⟨Int.le_refl _, by omega⟩, (met_iff hI hM).2 (.refl (by decide)), ?_⟩, trivial⟩, ?_, rfl⟩
    · have := rnk_le hI hM 0
      show rnk cs off num 0 < 66
      omega
    · rfl
noncomputable section
def lgT (m : SMem) : List SV → Option Tree
  | [.s (.c (.f (.slice i o n _)))] => match rawI m i with
    | some cs => some (needs [InsOk cs o.den n.den, mayV cs o.den n.den = true] (.ret (.tup [.c (.f (.int .i64 (.o (lnV cs o.den n.den)))), .c (.f (.int .i64 (.o (lnE cs o.den n.den))))]) m))
    | none => none
  | _ => none
end
theorem fn16l : E0.fn 9 = some Try.f9 := by kernel_rfl
theorem body16l : Try.f9.body = some (Try.f9.body.getD .skip) := by kernel_rfl
theorem pair_ok {a b : Int} {s : SV} {m' : SMem} {R R' : Ren} {v : Value} (h : pairR a b s m') (hv : s.ok R' v) : (SV.tup [.c (.f (.int .i64 (.o a))), .c (.f (.int .i64 (.o b)))]).ok R v := by
  unfold pairR at h
  split at h
  · obtain ⟨vs, rfl, hv⟩ := hv
    refine ⟨vs, rfl, ?_⟩
    revert hv
    generalize vs.toList = l
    intro hv
    match l, hv with
    | [x, y], ⟨h1, h2, _⟩ =>
      have h1 : x = .int .i64 _ := h1
      have h2 : y = .int .i64 _ := h2
      refine ⟨?_, ?_, trivial⟩
      · rw [h1, h.1]; rfl
      · rw [h2, h.2]; rfl
  · exact h.elim
theorem lgT_ok {m : SMem} {l : List SV} {t : Tree} (h : lgT m l = some t) : Con E0 9 l m t := by
  unfold lgT at h
  split at h
  · rename_i i o n cap
    split at h
    · rename_i cs e
      cases h
      exact Con.rawN fn16l body16l e (l := []) (l' := []) (A := pairR (lnV cs o.den n.den) (lnE cs o.den n.den)) nil_args (fun ty hq => long_good o.den n.den cs ty (hq _ (by simp)) (hq _ (by simp))) (fun s m' R R' v h hv => pair_ok (R := R) h hv)
    · cases h
  · cases h
end Go.Proofs.Ytpohnmafnpnmeaa
/- Of flow: FlowRuns: how a task begins. No condition. -/
namespace Go.Proofs.Ytpohnmafnpnmeaa
set_option maxRecDepth 100000
noncomputable section
def cd (i k : Nat) : SC := .f (.slice i (.l 0) (.o k) .any)
def zRegs : List SC := cI .i64 (.l 0) :: List.replicate 8 (cI .u64 (.l 0))
def bgS (k : Nat) (j : Nat) : SV := .tup [.agg (.ls (cd j k :: zRegs)), .c (.f (.bool (.l true)))]
def bgN : SV := .tup [.agg (.ls (.f (.lit (.slice none 0 0)) :: zRegs)), .c (.f (.bool (.l false)))]
def bgR (k : Nat) (rs : Array Value) (s : SV) (m : SMem) : Prop := match s with
  | .tup [.agg (.ls (.f (.slice sid _ _ _) :: _)), _] => retOk 1 [(1, sid)] (bgS k 1) ⟨2, Tr.nil.set 1 (some ⟨.pop rs, 52, true⟩), []⟩ s m
  | _ => False
def bgO (s : SV) (_ : SMem) : Prop := match SV.same (fun _ => none) bgN s with
  | some q => allP q
  | none => False
def EBg : Env := ⟨Try.prog, fnOf, conA, fun _ _ _ => false⟩
end
end Go.Proofs.Ytpohnmafnpnmeaa
/- Of flow: how a task begins. -/
namespace Go.Proofs.Ytpohnmafnpnmeaa
set_option maxRecDepth 100000
theorem bg_vc (off num : Nat) (cs : Array Value) (ty : TypeId) (k : Nat) (rs : Array Value) : (run EBg 4000 1 [callFr 7 Try.f7.ntmps [prS off num] (Try.f7.body.getD .skip)] (rawM cs ty)).vc (bgR k rs) (fun _ _ => False) =
    ((InsOk cs off num ∧ True) ∧ (mayV cs off num = true → (ByteArray.size (encB cs off num) ≠ (0 : Nat) ∧ ByteArray.size (encB cs off num) < (9223372036854775807 : Nat) ∧ True) ∧ (decOk (encB cs off num) = true → k = sizeD (encB cs off num) ∧ (52 : TypeId) = (52 : TypeId) ∧ rs = rowD (encB cs off num) ∧ True) ∧ (decOk (encB cs off num) = false → False)) ∧ (mayV cs off num = false → False)) := by kernel_rfl
theorem bo_vc (off num : Nat) (cs : Array Value) (ty : TypeId) : (run EBg 4000 1 [callFr 7 Try.f7.ntmps [prS off num] (Try.f7.body.getD .skip)] (rawM cs ty)).vc bgO (fun _ _ => False) =
    ((InsOk cs off num ∧ True) ∧ (mayV cs off num = true → (ByteArray.size (encB cs off num) ≠ (0 : Nat) ∧ ByteArray.size (encB cs off num) < (9223372036854775807 : Nat) ∧ True) ∧ (decOk (encB cs off num) = true → False) ∧ (decOk (encB cs off num) = false → Value.slice none (0 : Nat) (0 : Nat) = Value.slice none (0 : Nat) (0 : Nat) ∧ True)) ∧ (mayV cs off num = false → Value.slice none (0 : Nat) (0 : Nat) = Value.slice none (0 : Nat) (0 : Nat) ∧ True)) := by kernel_rfl
end Go.Proofs.Ytpohnmafnpnmeaa
/- Of flow: how a task begins, as a contract. No condition. -/
namespace Go.Proofs.Ytpohnmafnpnmeaa
set_option linter.unusedSectionVars false
set_option maxRecDepth 100000
theorem EBg_ok : EnvOk EBg := EnvOk.with E0_ok _ _ conA_ok
def cod (cs : Array Value) (off num : Nat) : Array Value := rowD (encB cs off num)
theorem bg_good (off num : Nat) (cs : Array Value) (ty : TypeId) (hI : InsOk cs off num) (hM : mayV cs off num = true) (h0 : num ≠ 0) : Good Try.prog (bgR num (cod cs off num)) 1 [callFr 7 Try.f7.ntmps [prS off num] (Try.f7.body.getD .skip)] (rawM cs ty) := by
  refine run_vc EBg_ok 4000 (bg_vc off num cs ty num (cod cs off num)) ?_ (fun _ _ h => h) (fun _ _ h => h.elim)
  have n64 := (mayV_iff.1 hM).1
  have hd := enc_decOk hI hM
  have hs := encB_size cs off num
  have hk : sizeD (encB cs off num) = num := enc_div
  refine ⟨⟨hI, trivial⟩, fun _ => ⟨⟨by omega, by omega, trivial⟩, fun _ => ⟨hk.symm, rfl, rfl, trivial⟩, fun h => by rw [hd] at h; cases h⟩, fun h => by rw [hM] at h; cases h⟩
theorem bg_bad (off num : Nat) (cs : Array Value) (ty : TypeId) (hI : InsOk cs off num) (hM : mayV cs off num = false) : Good Try.prog bgO 1 [callFr 7 Try.f7.ntmps [prS off num] (Try.f7.body.getD .skip)] (rawM cs ty) := by
  refine run_vc EBg_ok 4000 (bo_vc off num cs ty) ?_ (fun _ _ h => h) (fun _ _ h => h.elim)
  exact ⟨⟨hI, trivial⟩, fun h => (by rw [hM] at h; cases h), fun _ => ⟨rfl, trivial⟩⟩
noncomputable section
def bgT (m : SMem) : List SV → Option Tree
  | [.s (.c (.f (.slice i o n _)))] => match rawI m i with
    | some cs => some (needs [InsOk cs o.den n.den, n.den ≠ 0] (.br (mayV cs o.den n.den) (.ret (bgS n.den m.next) (m.new (.pop (cod cs o.den n.den)) 52)) (.ret bgN m)))
    | none => none
  | _ => none
end
theorem fn7b : E0.fn 7 = some Try.f7 := by kernel_rfl
theorem body7b : Try.f7.body = some (Try.f7.body.getD .skip) := by kernel_rfl
theorem Good.bgR {k : Nat} {rs : Array Value} {fs : List SFr} {m : SMem} (h : Good Try.prog (bgR k rs) 1 fs m) : Good Try.prog (fun s m' => s = bgS k 1 ∧ m' = ⟨2, Tr.nil.set 1 (some ⟨.pop rs, 52, true⟩), []⟩) 1 fs m := by
  refine Good.retX (Good.mono h ?_)
  intro s m h
  unfold Go.Proofs.Ytpohnmafnpnmeaa.bgR at h
  split at h
  · exact ⟨_, h⟩
  · exact h.elim
theorem bgO_ok {s : SV} {m' : SMem} {R R' : Ren} {v : Value} (h : bgO s m') (hv : s.ok R' v) : bgN.ok R v := by
  have h : sameV bgN s := h
  exact sameV_ok h hv
theorem bgT_ok {m : SMem} {l : List SV} {t : Tree} (h : bgT m l = some t) : Con E0 7 l m t := by
  unfold bgT at h
  split at h
  · rename_i i o n cap
    split at h
    · rename_i cs e
      cases h
      obtain ⟨ty, wr, hb⟩ := rawI_of e
      refine Con.br (fun hm => ?_) (fun hm => ?_)
      · exact Con.made (v := true) (S := bgS n.den) (l := []) (l' := []) fn7b body7b hb nil_args (fun hq => Good.bgR (bg_good o.den n.den cs ty (hq _ (by simp)) hm (hq _ (by simp)))) (fun f => rfl)
      · exact Con.rawN fn7b body7b e (l := []) (l' := []) (A := bgO) nil_args (fun ty hq => bg_bad o.den n.den cs ty (hq _ (by simp)) hm) (fun _ _ _ _ _ h hv => bgO_ok h hv)
    · cases h
  · cases h
noncomputable section
def conRun (kd : Nat) (g : FuncId) (l : List SV) (m : SMem) : Option Tree := match g, l with
  | 6, l => conA 6 l m
  | 7, l => bgT m l
  | 8, l => conE 8 l m
  | 9, l => lgT m l
  | 29, l => conA 29 l m
  | 30, l => conK kd 30 l m
  | 31, l => conK kd 31 l m
  | 15, l => conK kd 15 l m
  | _, _ => none
end
theorem conRun_ok (kd : Nat) (g : FuncId) (l : List SV) (m : SMem) (t : Tree) (h : conRun kd g l m = some t) : Con E0 g l m t := by
  unfold conRun at h
  split at h
  · exact conA_ok _ _ _ _ h
  · exact bgT_ok h
  · exact conE_ok _ _ _ _ h
  · exact lgT_ok h
  · exact conA_ok _ _ _ _ h
  · exact conK_ok kd _ _ _ _ h
  · exact conK_ok kd _ _ _ _ h
  · exact conK_ok kd _ _ _ _ h
  · cases h
end Go.Proofs.Ytpohnmafnpnmeaa
/- Of flow: FlowRuns: names of its states. No condition. -/
namespace Go.Proofs.Ytpohnmafnpnmeaa
noncomputable def boS (i n : Nat) : SV := .s (.c (.f (.slice i (.l 0) (.o n) .any)))
end Go.Proofs.Ytpohnmafnpnmeaa
/- Of flow: FlowRuns: its states. No condition. -/
namespace Go.Proofs.Ytpohnmafnpnmeaa
set_option linter.unusedVariables false
noncomputable def Ez0 : Env := ⟨Try.prog, fnOf, conRun 0, haltAt [3012, 3016]⟩
noncomputable def Ez2 : Env := ⟨Try.prog, fnOf, conRun 2, haltAt [3012, 3016]⟩
noncomputable def Ez3 : Env := ⟨Try.prog, fnOf, conRun 3, haltAt [3012, 3016]⟩
noncomputable def Ez4 : Env := ⟨Try.prog, fnOf, conRun 4, haltAt [3012, 3016]⟩
noncomputable def Ez5 : Env := ⟨Try.prog, fnOf, conRun 5, haltAt [3012, 3016]⟩
noncomputable def Ez6 : Env := ⟨Try.prog, fnOf, conRun 6, haltAt [3012, 3016]⟩
noncomputable def Ez7 : Env := ⟨Try.prog, fnOf, conRun 7, haltAt [3012, 3016]⟩
noncomputable def Ez8 : Env := ⟨Try.prog, fnOf, conRun 8, haltAt [3012, 3016]⟩
noncomputable def qz_d0 : List SIt := sekF Try.f3 12
noncomputable def qz_F (off : Nat) (num : Nat) (cs : Array Value) (ty : TypeId) (most : Int) (f : Int) (n : Int) (i : Int) (m1 : Nat) (k : Nat) (nx : Int) (g0 : Int) (g1 : Int) (g2 : Int) (g3 : Int) (g4 : Int) (g5 : Int) (g6 : Int) (g7 : Int) (row : Array Value) (bs : Array Value) : List SFr := [frOf 3 Try.f3 [(0, prS off num), (1, .s (.c (.f .e0))), (5, ptr 1 (.l 0)), (7, boS 2 m1), (9, i64 (.o most)), (10, i64 (.o f)), (11, i64 (.o n)), (12, i64 (.o i))] qz_d0]
noncomputable def qz_M (off : Nat) (num : Nat) (cs : Array Value) (ty : TypeId) (most : Int) (f : Int) (n : Int) (i : Int) (m1 : Nat) (k : Nat) (nx : Int) (g0 : Int) (g1 : Int) (g2 : Int) (g3 : Int) (g4 : Int) (g5 : Int) (g6 : Int) (g7 : Int) (row : Array Value) (bs : Array Value) : SMem := mkM 4 [(0, ⟨.raw cs, ty, false⟩), (1, ⟨.ls [cd 3 k, .f (.int .i64 (.o nx)), .f (.int .u64 (.o g0)), .f (.int .u64 (.o g1)), .f (.int .u64 (.o g2)), .f (.int .u64 (.o g3)), .f (.int .u64 (.o g4)), .f (.int .u64 (.o g5)), .f (.int .u64 (.o g6)), .f (.int .u64 (.o g7))], 28, true⟩), (2, ⟨.pop bs, 4, true⟩), (3, ⟨.pop row, 52, true⟩)]
noncomputable def qz_n (off : Nat) (num : Nat) (cs : Array Value) (ty : TypeId) (Q : Int → Int → Int → Int → Nat → Nat → Int → Int → Int → Int → Int → Int → Int → Int → Int → Array Value → Array Value → Prop) (fs : List SFr) (m : SMem) : Prop := (match frNth fs 0 with | some f0 => (match rdI f0 9 with | some most => (match rdI f0 10 with | some f => (match rdI f0 11 with | some n => (match rdI f0 12 with | some i => (match rdP f0 5 with | some pt => (match rdSI f0 7 with | some pb => (match rdSN f0 7 with | some m1 => (match rdCP m pt 0 with | some pc => (match rdCN m pt 0 with | some k => (match rdCI m pt 1 with | some nx => (match rdCI m pt 2 with | some g0 => (match rdCI m pt 3 with | some g1 => (match rdCI m pt 4 with | some g2 => (match rdCI m pt 5 with | some g3 => (match rdCI m pt 6 with | some g4 => (match rdCI m pt 7 with | some g5 => (match rdCI m pt 8 with | some g6 => (match rdCI m pt 9 with | some g7 => (match rdA m pc with | some row => (match rdA m pb with | some bs => Q most f n i m1 k nx g0 g1 g2 g3 g4 g5 g6 g7 row bs ∧ subOk 1 [(1, pt), (2, pb), (3, pc)] (qz_F off num cs ty most f n i m1 k nx g0 g1 g2 g3 g4 g5 g6 g7 row bs) (qz_M off num cs ty most f n i m1 k nx g0 g1 g2 g3 g4 g5 g6 g7 row bs) fs m | none => False) | none => False) | none => False) | none => False) | none => False) | none => False) | none => False) | none => False) | none => False) | none => False) | none => False) | none => False) | none => False) | none => False) | none => False) | none => False) | none => False) | none => False) | none => False) | none => False) | none => False)
noncomputable def wz_d0 : List SIt := sekF Try.f3 16
noncomputable def wz_F (off : Nat) (num : Nat) (cs : Array Value) (ty : TypeId) (most : Int) (f : Int) (n : Int) (i : Int) (was : Int) (m1 : Nat) (k : Nat) (nx : Int) (g0 : Int) (g1 : Int) (g2 : Int) (g3 : Int) (g4 : Int) (g5 : Int) (g6 : Int) (g7 : Int) (row : Array Value) (bs : Array Value) : List SFr := [frOf 3 Try.f3 [(0, prS off num), (1, .s (.c (.f .e0))), (5, ptr 1 (.l 0)), (7, boS 2 m1), (9, i64 (.o most)), (10, i64 (.o f)), (11, i64 (.o n)), (12, i64 (.o i)), (13, i64 (.o was))] wz_d0]
noncomputable def wz_M (off : Nat) (num : Nat) (cs : Array Value) (ty : TypeId) (most : Int) (f : Int) (n : Int) (i : Int) (was : Int) (m1 : Nat) (k : Nat) (nx : Int) (g0 : Int) (g1 : Int) (g2 : Int) (g3 : Int) (g4 : Int) (g5 : Int) (g6 : Int) (g7 : Int) (row : Array Value) (bs : Array Value) : SMem := mkM 4 [(0, ⟨.raw cs, ty, false⟩), (1, ⟨.ls [cd 3 k, .f (.int .i64 (.o nx)), .f (.int .u64 (.o g0)), .f (.int .u64 (.o g1)), .f (.int .u64 (.o g2)), .f (.int .u64 (.o g3)), .f (.int .u64 (.o g4)), .f (.int .u64 (.o g5)), .f (.int .u64 (.o g6)), .f (.int .u64 (.o g7))], 28, true⟩), (2, ⟨.pop bs, 4, true⟩), (3, ⟨.pop row, 52, true⟩)]
noncomputable def wz_n (off : Nat) (num : Nat) (cs : Array Value) (ty : TypeId) (Q : Int → Int → Int → Int → Int → Nat → Nat → Int → Int → Int → Int → Int → Int → Int → Int → Int → Array Value → Array Value → Prop) (fs : List SFr) (m : SMem) : Prop := (match frNth fs 0 with | some f0 => (match rdI f0 9 with | some most => (match rdI f0 10 with | some f => (match rdI f0 11 with | some n => (match rdI f0 12 with | some i => (match rdI f0 13 with | some was => (match rdP f0 5 with | some pt => (match rdSI f0 7 with | some pb => (match rdSN f0 7 with | some m1 => (match rdCP m pt 0 with | some pc => (match rdCN m pt 0 with | some k => (match rdCI m pt 1 with | some nx => (match rdCI m pt 2 with | some g0 => (match rdCI m pt 3 with | some g1 => (match rdCI m pt 4 with | some g2 => (match rdCI m pt 5 with | some g3 => (match rdCI m pt 6 with | some g4 => (match rdCI m pt 7 with | some g5 => (match rdCI m pt 8 with | some g6 => (match rdCI m pt 9 with | some g7 => (match rdA m pc with | some row => (match rdA m pb with | some bs => Q most f n i was m1 k nx g0 g1 g2 g3 g4 g5 g6 g7 row bs ∧ subOk 1 [(1, pt), (2, pb), (3, pc)] (wz_F off num cs ty most f n i was m1 k nx g0 g1 g2 g3 g4 g5 g6 g7 row bs) (wz_M off num cs ty most f n i was m1 k nx g0 g1 g2 g3 g4 g5 g6 g7 row bs) fs m | none => False) | none => False) | none => False) | none => False) | none => False) | none => False) | none => False) | none => False) | none => False) | none => False) | none => False) | none => False) | none => False) | none => False) | none => False) | none => False) | none => False) | none => False) | none => False) | none => False) | none => False) | none => False)
noncomputable def sz_t (off : Nat) (num : Nat) (cs : Array Value) (ty : TypeId) : Tree := run Ez0 8000 1 [callFr 3 Try.f3.ntmps [prS off num, .s (.c (.f .e0))] (Try.f3.body.getD .skip)] (rawM cs ty)
noncomputable def sz_x (off : Nat) (num : Nat) (cs : Array Value) (ty : TypeId) (Qqz : Int → Int → Int → Int → Nat → Nat → Int → Int → Int → Int → Int → Int → Int → Int → Int → Array Value → Array Value → Prop) (fs : List SFr) (m : SMem) : Prop := qz_n off num cs ty Qqz fs m
noncomputable def tz0_t (off : Nat) (num : Nat) (cs : Array Value) (ty : TypeId) (most : Int) (f : Int) (n : Int) (i : Int) (m1 : Nat) (k : Nat) (nx : Int) (g0 : Int) (g1 : Int) (g2 : Int) (g3 : Int) (g4 : Int) (g5 : Int) (g6 : Int) (g7 : Int) (row : Array Value) (bs : Array Value) : Tree := stepT Ez0.go (run Ez0 1000) 1 (qz_F off num cs ty most f n i m1 k nx g0 g1 g2 g3 g4 g5 g6 g7 row bs) (qz_M off num cs ty most f n i m1 k nx g0 g1 g2 g3 g4 g5 g6 g7 row bs)
noncomputable def tz0_x (off : Nat) (num : Nat) (cs : Array Value) (ty : TypeId) (most : Int) (f : Int) (n : Int) (i : Int) (m1 : Nat) (k : Nat) (nx : Int) (g0 : Int) (g1 : Int) (g2 : Int) (g3 : Int) (g4 : Int) (g5 : Int) (g6 : Int) (g7 : Int) (row : Array Value) (bs : Array Value) (Qwz : Int → Int → Int → Int → Int → Nat → Nat → Int → Int → Int → Int → Int → Int → Int → Int → Int → Array Value → Array Value → Prop) (fs : List SFr) (m : SMem) : Prop := wz_n off num cs ty Qwz fs m
noncomputable def tz2_t (off : Nat) (num : Nat) (cs : Array Value) (ty : TypeId) (most : Int) (f : Int) (n : Int) (i : Int) (m1 : Nat) (k : Nat) (nx : Int) (g0 : Int) (g1 : Int) (g2 : Int) (g3 : Int) (g4 : Int) (g5 : Int) (g6 : Int) (g7 : Int) (row : Array Value) (bs : Array Value) : Tree := stepT Ez2.go (run Ez2 1000) 1 (qz_F off num cs ty most f n i m1 k nx g0 g1 g2 g3 g4 g5 g6 g7 row bs) (qz_M off num cs ty most f n i m1 k nx g0 g1 g2 g3 g4 g5 g6 g7 row bs)
noncomputable def tz2_x (off : Nat) (num : Nat) (cs : Array Value) (ty : TypeId) (most : Int) (f : Int) (n : Int) (i : Int) (m1 : Nat) (k : Nat) (nx : Int) (g0 : Int) (g1 : Int) (g2 : Int) (g3 : Int) (g4 : Int) (g5 : Int) (g6 : Int) (g7 : Int) (row : Array Value) (bs : Array Value) (Qwz : Int → Int → Int → Int → Int → Nat → Nat → Int → Int → Int → Int → Int → Int → Int → Int → Int → Array Value → Array Value → Prop) (fs : List SFr) (m : SMem) : Prop := wz_n off num cs ty Qwz fs m
noncomputable def tz3_t (off : Nat) (num : Nat) (cs : Array Value) (ty : TypeId) (most : Int) (f : Int) (n : Int) (i : Int) (m1 : Nat) (k : Nat) (nx : Int) (g0 : Int) (g1 : Int) (g2 : Int) (g3 : Int) (g4 : Int) (g5 : Int) (g6 : Int) (g7 : Int) (row : Array Value) (bs : Array Value) : Tree := stepT Ez3.go (run Ez3 1000) 1 (qz_F off num cs ty most f n i m1 k nx g0 g1 g2 g3 g4 g5 g6 g7 row bs) (qz_M off num cs ty most f n i m1 k nx g0 g1 g2 g3 g4 g5 g6 g7 row bs)
noncomputable def tz3_x (off : Nat) (num : Nat) (cs : Array Value) (ty : TypeId) (most : Int) (f : Int) (n : Int) (i : Int) (m1 : Nat) (k : Nat) (nx : Int) (g0 : Int) (g1 : Int) (g2 : Int) (g3 : Int) (g4 : Int) (g5 : Int) (g6 : Int) (g7 : Int) (row : Array Value) (bs : Array Value) (Qwz : Int → Int → Int → Int → Int → Nat → Nat → Int → Int → Int → Int → Int → Int → Int → Int → Int → Array Value → Array Value → Prop) (fs : List SFr) (m : SMem) : Prop := wz_n off num cs ty Qwz fs m
noncomputable def tz4_t (off : Nat) (num : Nat) (cs : Array Value) (ty : TypeId) (most : Int) (f : Int) (n : Int) (i : Int) (m1 : Nat) (k : Nat) (nx : Int) (g0 : Int) (g1 : Int) (g2 : Int) (g3 : Int) (g4 : Int) (g5 : Int) (g6 : Int) (g7 : Int) (row : Array Value) (bs : Array Value) : Tree := stepT Ez4.go (run Ez4 1000) 1 (qz_F off num cs ty most f n i m1 k nx g0 g1 g2 g3 g4 g5 g6 g7 row bs) (qz_M off num cs ty most f n i m1 k nx g0 g1 g2 g3 g4 g5 g6 g7 row bs)
noncomputable def tz4_x (off : Nat) (num : Nat) (cs : Array Value) (ty : TypeId) (most : Int) (f : Int) (n : Int) (i : Int) (m1 : Nat) (k : Nat) (nx : Int) (g0 : Int) (g1 : Int) (g2 : Int) (g3 : Int) (g4 : Int) (g5 : Int) (g6 : Int) (g7 : Int) (row : Array Value) (bs : Array Value) (Qwz : Int → Int → Int → Int → Int → Nat → Nat → Int → Int → Int → Int → Int → Int → Int → Int → Int → Array Value → Array Value → Prop) (fs : List SFr) (m : SMem) : Prop := wz_n off num cs ty Qwz fs m
noncomputable def tz5_t (off : Nat) (num : Nat) (cs : Array Value) (ty : TypeId) (most : Int) (f : Int) (n : Int) (i : Int) (m1 : Nat) (k : Nat) (nx : Int) (g0 : Int) (g1 : Int) (g2 : Int) (g3 : Int) (g4 : Int) (g5 : Int) (g6 : Int) (g7 : Int) (row : Array Value) (bs : Array Value) : Tree := stepT Ez5.go (run Ez5 1000) 1 (qz_F off num cs ty most f n i m1 k nx g0 g1 g2 g3 g4 g5 g6 g7 row bs) (qz_M off num cs ty most f n i m1 k nx g0 g1 g2 g3 g4 g5 g6 g7 row bs)
noncomputable def tz5_x (off : Nat) (num : Nat) (cs : Array Value) (ty : TypeId) (most : Int) (f : Int) (n : Int) (i : Int) (m1 : Nat) (k : Nat) (nx : Int) (g0 : Int) (g1 : Int) (g2 : Int) (g3 : Int) (g4 : Int) (g5 : Int) (g6 : Int) (g7 : Int) (row : Array Value) (bs : Array Value) (Qwz : Int → Int → Int → Int → Int → Nat → Nat → Int → Int → Int → Int → Int → Int → Int → Int → Int → Array Value → Array Value → Prop) (fs : List SFr) (m : SMem) : Prop := wz_n off num cs ty Qwz fs m
noncomputable def tz6_t (off : Nat) (num : Nat) (cs : Array Value) (ty : TypeId) (most : Int) (f : Int) (n : Int) (i : Int) (m1 : Nat) (k : Nat) (nx : Int) (g0 : Int) (g1 : Int) (g2 : Int) (g3 : Int) (g4 : Int) (g5 : Int) (g6 : Int) (g7 : Int) (row : Array Value) (bs : Array Value) : Tree := stepT Ez6.go (run Ez6 1000) 1 (qz_F off num cs ty most f n i m1 k nx g0 g1 g2 g3 g4 g5 g6 g7 row bs) (qz_M off num cs ty most f n i m1 k nx g0 g1 g2 g3 g4 g5 g6 g7 row bs)
noncomputable def tz6_x (off : Nat) (num : Nat) (cs : Array Value) (ty : TypeId) (most : Int) (f : Int) (n : Int) (i : Int) (m1 : Nat) (k : Nat) (nx : Int) (g0 : Int) (g1 : Int) (g2 : Int) (g3 : Int) (g4 : Int) (g5 : Int) (g6 : Int) (g7 : Int) (row : Array Value) (bs : Array Value) (Qwz : Int → Int → Int → Int → Int → Nat → Nat → Int → Int → Int → Int → Int → Int → Int → Int → Int → Array Value → Array Value → Prop) (fs : List SFr) (m : SMem) : Prop := wz_n off num cs ty Qwz fs m
noncomputable def tz7_t (off : Nat) (num : Nat) (cs : Array Value) (ty : TypeId) (most : Int) (f : Int) (n : Int) (i : Int) (m1 : Nat) (k : Nat) (nx : Int) (g0 : Int) (g1 : Int) (g2 : Int) (g3 : Int) (g4 : Int) (g5 : Int) (g6 : Int) (g7 : Int) (row : Array Value) (bs : Array Value) : Tree := stepT Ez7.go (run Ez7 1000) 1 (qz_F off num cs ty most f n i m1 k nx g0 g1 g2 g3 g4 g5 g6 g7 row bs) (qz_M off num cs ty most f n i m1 k nx g0 g1 g2 g3 g4 g5 g6 g7 row bs)
noncomputable def tz7_x (off : Nat) (num : Nat) (cs : Array Value) (ty : TypeId) (most : Int) (f : Int) (n : Int) (i : Int) (m1 : Nat) (k : Nat) (nx : Int) (g0 : Int) (g1 : Int) (g2 : Int) (g3 : Int) (g4 : Int) (g5 : Int) (g6 : Int) (g7 : Int) (row : Array Value) (bs : Array Value) (Qwz : Int → Int → Int → Int → Int → Nat → Nat → Int → Int → Int → Int → Int → Int → Int → Int → Int → Array Value → Array Value → Prop) (fs : List SFr) (m : SMem) : Prop := wz_n off num cs ty Qwz fs m
noncomputable def tz8_t (off : Nat) (num : Nat) (cs : Array Value) (ty : TypeId) (most : Int) (f : Int) (n : Int) (i : Int) (m1 : Nat) (k : Nat) (nx : Int) (g0 : Int) (g1 : Int) (g2 : Int) (g3 : Int) (g4 : Int) (g5 : Int) (g6 : Int) (g7 : Int) (row : Array Value) (bs : Array Value) : Tree := stepT Ez8.go (run Ez8 1000) 1 (qz_F off num cs ty most f n i m1 k nx g0 g1 g2 g3 g4 g5 g6 g7 row bs) (qz_M off num cs ty most f n i m1 k nx g0 g1 g2 g3 g4 g5 g6 g7 row bs)
noncomputable def tz8_x (off : Nat) (num : Nat) (cs : Array Value) (ty : TypeId) (most : Int) (f : Int) (n : Int) (i : Int) (m1 : Nat) (k : Nat) (nx : Int) (g0 : Int) (g1 : Int) (g2 : Int) (g3 : Int) (g4 : Int) (g5 : Int) (g6 : Int) (g7 : Int) (row : Array Value) (bs : Array Value) (Qwz : Int → Int → Int → Int → Int → Nat → Nat → Int → Int → Int → Int → Int → Int → Int → Int → Int → Array Value → Array Value → Prop) (fs : List SFr) (m : SMem) : Prop := wz_n off num cs ty Qwz fs m
noncomputable def bz_t (off : Nat) (num : Nat) (cs : Array Value) (ty : TypeId) (most : Int) (f : Int) (n : Int) (i : Int) (was : Int) (m1 : Nat) (k : Nat) (nx : Int) (g0 : Int) (g1 : Int) (g2 : Int) (g3 : Int) (g4 : Int) (g5 : Int) (g6 : Int) (g7 : Int) (row : Array Value) (bs : Array Value) : Tree := stepT Ez0.go (run Ez0 1000) 1 (wz_F off num cs ty most f n i was m1 k nx g0 g1 g2 g3 g4 g5 g6 g7 row bs) (wz_M off num cs ty most f n i was m1 k nx g0 g1 g2 g3 g4 g5 g6 g7 row bs)
noncomputable def bz_x (off : Nat) (num : Nat) (cs : Array Value) (ty : TypeId) (most : Int) (f : Int) (n : Int) (i : Int) (was : Int) (m1 : Nat) (k : Nat) (nx : Int) (g0 : Int) (g1 : Int) (g2 : Int) (g3 : Int) (g4 : Int) (g5 : Int) (g6 : Int) (g7 : Int) (row : Array Value) (bs : Array Value) (Qqz : Int → Int → Int → Int → Nat → Nat → Int → Int → Int → Int → Int → Int → Int → Int → Int → Array Value → Array Value → Prop) (fs : List SFr) (m : SMem) : Prop := qz_n off num cs ty Qqz fs m
theorem qz_d0_ok (r : Nat → Option Nat) : TodoOk r qz_d0 qz_d0 := TodoOk.it (by kernel_rfl)
theorem wz_d0_ok (r : Nat → Option Nat) : TodoOk r wz_d0 wz_d0 := TodoOk.it (by kernel_rfl)
theorem qz_good {A : SV → SMem → Prop} {off : Nat} {num : Nat} {cs : Array Value} {ty : TypeId} {Q : Int → Int → Int → Int → Nat → Nat → Int → Int → Int → Int → Int → Int → Int → Int → Int → Array Value → Array Value → Prop} {fs : List SFr} {m : SMem} (H : ∀ most f n i m1 k nx g0 g1 g2 g3 g4 g5 g6 g7 row bs, Q most f n i m1 k nx g0 g1 g2 g3 g4 g5 g6 g7 row bs → Good Try.prog A 1 (qz_F off num cs ty most f n i m1 k nx g0 g1 g2 g3 g4 g5 g6 g7 row bs) (qz_M off num cs ty most f n i m1 k nx g0 g1 g2 g3 g4 g5 g6 g7 row bs)) (hb : qz_n off num cs ty Q fs m) : Good Try.prog A 1 fs m := by
  unfold qz_n at hb
  split at hb
  rotate_left
  · exact hb.elim
  split at hb
  rotate_left
  · exact hb.elim
  split at hb
  rotate_left
  · exact hb.elim
  split at hb
  rotate_left
  · exact hb.elim
  split at hb
  rotate_left
  · exact hb.elim
  split at hb
  rotate_left
  · exact hb.elim
  split at hb
  rotate_left
  · exact hb.elim
  split at hb
  rotate_left
  · exact hb.elim
  split at hb
  rotate_left
  · exact hb.elim
  split at hb
  rotate_left
  · exact hb.elim
  split at hb
  rotate_left
  · exact hb.elim
  split at hb
  rotate_left
  · exact hb.elim
  split at hb
  rotate_left
  · exact hb.elim
  split at hb
  rotate_left
  · exact hb.elim
  split at hb
  rotate_left
  · exact hb.elim
  split at hb
  rotate_left
  · exact hb.elim
  split at hb
  rotate_left
  · exact hb.elim
  split at hb
  rotate_left
  · exact hb.elim
  split at hb
  rotate_left
  · exact hb.elim
  split at hb
  rotate_left
  · exact hb.elim
  split at hb
  rotate_left
  · exact hb.elim
  exact Good.of_sub hb.2 (H _ _ _ _ _ _ _ _ _ _ _ _ _ _ _ _ _ hb.1)
theorem wz_good {A : SV → SMem → Prop} {off : Nat} {num : Nat} {cs : Array Value} {ty : TypeId} {Q : Int → Int → Int → Int → Int → Nat → Nat → Int → Int → Int → Int → Int → Int → Int → Int → Int → Array Value → Array Value → Prop} {fs : List SFr} {m : SMem} (H : ∀ most f n i was m1 k nx g0 g1 g2 g3 g4 g5 g6 g7 row bs, Q most f n i was m1 k nx g0 g1 g2 g3 g4 g5 g6 g7 row bs → Good Try.prog A 1 (wz_F off num cs ty most f n i was m1 k nx g0 g1 g2 g3 g4 g5 g6 g7 row bs) (wz_M off num cs ty most f n i was m1 k nx g0 g1 g2 g3 g4 g5 g6 g7 row bs)) (hb : wz_n off num cs ty Q fs m) : Good Try.prog A 1 fs m := by
  unfold wz_n at hb
  split at hb
  rotate_left
  · exact hb.elim
  split at hb
  rotate_left
  · exact hb.elim
  split at hb
  rotate_left
  · exact hb.elim
  split at hb
  rotate_left
  · exact hb.elim
  split at hb
  rotate_left
  · exact hb.elim
  split at hb
  rotate_left
  · exact hb.elim
  split at hb
  rotate_left
  · exact hb.elim
  split at hb
  rotate_left
  · exact hb.elim
  split at hb
  rotate_left
  · exact hb.elim
  split at hb
  rotate_left
  · exact hb.elim
  split at hb
  rotate_left
  · exact hb.elim
  split at hb
  rotate_left
  · exact hb.elim
  split at hb
  rotate_left
  · exact hb.elim
  split at hb
  rotate_left
  · exact hb.elim
  split at hb
  rotate_left
  · exact hb.elim
  split at hb
  rotate_left
  · exact hb.elim
  split at hb
  rotate_left
  · exact hb.elim
  split at hb
  rotate_left
  · exact hb.elim
  split at hb
  rotate_left
  · exact hb.elim
  split at hb
  rotate_left
  · exact hb.elim
  split at hb
  rotate_left
  · exact hb.elim
  split at hb
  rotate_left
  · exact hb.elim
  exact Good.of_sub hb.2 (H _ _ _ _ _ _ _ _ _ _ _ _ _ _ _ _ _ _ hb.1)
theorem sz_go {A : SV → SMem → Prop} {off : Nat} {num : Nat} {cs : Array Value} {ty : TypeId} {Qqz : Int → Int → Int → Int → Nat → Nat → Int → Int → Int → Int → Int → Int → Int → Int → Int → Array Value → Array Value → Prop} {fs : List SFr} {m : SMem} (hqz : ∀ most' f' n' i' m1' k' nx' g0' g1' g2' g3' g4' g5' g6' g7' row' bs', Qqz most' f' n' i' m1' k' nx' g0' g1' g2' g3' g4' g5' g6' g7' row' bs' → Good Try.prog A 1 (qz_F off num cs ty most' f' n' i' m1' k' nx' g0' g1' g2' g3' g4' g5' g6' g7' row' bs') (qz_M off num cs ty most' f' n' i' m1' k' nx' g0' g1' g2' g3' g4' g5' g6' g7' row' bs')) (hb : sz_x off num cs ty Qqz fs m) : Good Try.prog A 1 fs m := by
  unfold sz_x at hb
  exact qz_good hqz hb
theorem tz0_go {A : SV → SMem → Prop} {off : Nat} {num : Nat} {cs : Array Value} {ty : TypeId} {most : Int} {f : Int} {n : Int} {i : Int} {m1 : Nat} {k : Nat} {nx : Int} {g0 : Int} {g1 : Int} {g2 : Int} {g3 : Int} {g4 : Int} {g5 : Int} {g6 : Int} {g7 : Int} {row : Array Value} {bs : Array Value} {Qwz : Int → Int → Int → Int → Int → Nat → Nat → Int → Int → Int → Int → Int → Int → Int → Int → Int → Array Value → Array Value → Prop} {fs : List SFr} {m : SMem} (hwz : ∀ most' f' n' i' was' m1' k' nx' g0' g1' g2' g3' g4' g5' g6' g7' row' bs', Qwz most' f' n' i' was' m1' k' nx' g0' g1' g2' g3' g4' g5' g6' g7' row' bs' → Good Try.prog A 1 (wz_F off num cs ty most' f' n' i' was' m1' k' nx' g0' g1' g2' g3' g4' g5' g6' g7' row' bs') (wz_M off num cs ty most' f' n' i' was' m1' k' nx' g0' g1' g2' g3' g4' g5' g6' g7' row' bs')) (hb : tz0_x off num cs ty most f n i m1 k nx g0 g1 g2 g3 g4 g5 g6 g7 row bs Qwz fs m) : Good Try.prog A 1 fs m := by
  unfold tz0_x at hb
  exact wz_good hwz hb
theorem tz2_go {A : SV → SMem → Prop} {off : Nat} {num : Nat} {cs : Array Value} {ty : TypeId} {most : Int} {f : Int} {n : Int} {i : Int} {m1 : Nat} {k : Nat} {nx : Int} {g0 : Int} {g1 : Int} {g2 : Int} {g3 : Int} {g4 : Int} {g5 : Int} {g6 : Int} {g7 : Int} {row : Array Value} {bs : Array Value} {Qwz : Int → Int → Int → Int → Int → Nat → Nat → Int → Int → Int → Int → Int → Int → Int → Int → Int → Array Value → Array Value → Prop} {fs : List SFr} {m : SMem} (hwz : ∀ most' f' n' i' was' m1' k' nx' g0' g1' g2' g3' g4' g5' g6' g7' row' bs', Qwz most' f' n' i' was' m1' k' nx' g0' g1' g2' g3' g4' g5' g6' g7' row' bs' → Good Try.prog A 1 (wz_F off num cs ty most' f' n' i' was' m1' k' nx' g0' g1' g2' g3' g4' g5' g6' g7' row' bs') (wz_M off num cs ty most' f' n' i' was' m1' k' nx' g0' g1' g2' g3' g4' g5' g6' g7' row' bs')) (hb : tz2_x off num cs ty most f n i m1 k nx g0 g1 g2 g3 g4 g5 g6 g7 row bs Qwz fs m) : Good Try.prog A 1 fs m := by
  unfold tz2_x at hb
  exact wz_good hwz hb
theorem tz3_go {A : SV → SMem → Prop} {off : Nat} {num : Nat} {cs : Array Value} {ty : TypeId} {most : Int} {f : Int} {n : Int} {i : Int} {m1 : Nat} {k : Nat} {nx : Int} {g0 : Int} {g1 : Int} {g2 : Int} {g3 : Int} {g4 : Int} {g5 : Int} {g6 : Int} {g7 : Int} {row : Array Value} {bs : Array Value} {Qwz : Int → Int → Int → Int → Int → Nat → Nat → Int → Int → Int → Int → Int → Int → Int → Int → Int → Array Value → Array Value → Prop} {fs : List SFr} {m : SMem} (hwz : ∀ most' f' n' i' was' m1' k' nx' g0' g1' g2' g3' g4' g5' g6' g7' row' bs', Qwz most' f' n' i' was' m1' k' nx' g0' g1' g2' g3' g4' g5' g6' g7' row' bs' → Good Try.prog A 1 (wz_F off num cs ty most' f' n' i' was' m1' k' nx' g0' g1' g2' g3' g4' g5' g6' g7' row' bs') (wz_M off num cs ty most' f' n' i' was' m1' k' nx' g0' g1' g2' g3' g4' g5' g6' g7' row' bs')) (hb : tz3_x off num cs ty most f n i m1 k nx g0 g1 g2 g3 g4 g5 g6 g7 row bs Qwz fs m) : Good Try.prog A 1 fs m := by
  unfold tz3_x at hb
  exact wz_good hwz hb
theorem tz4_go {A : SV → SMem → Prop} {off : Nat} {num : Nat} {cs : Array Value} {ty : TypeId} {most : Int} {f : Int} {n : Int} {i : Int} {m1 : Nat} {k : Nat} {nx : Int} {g0 : Int} {g1 : Int} {g2 : Int} {g3 : Int} {g4 : Int} {g5 : Int} {g6 : Int} {g7 : Int} {row : Array Value} {bs : Array Value} {Qwz : Int → Int → Int → Int → Int → Nat → Nat → Int → Int → Int → Int → Int → Int → Int → Int → Int → Array Value → Array Value → Prop} {fs : List SFr} {m : SMem} (hwz : ∀ most' f' n' i' was' m1' k' nx' g0' g1' g2' g3' g4' g5' g6' g7' row' bs', Qwz most' f' n' i' was' m1' k' nx' g0' g1' g2' g3' g4' g5' g6' g7' row' bs' → Good Try.prog A 1 (wz_F off num cs ty most' f' n' i' was' m1' k' nx' g0' g1' g2' g3' g4' g5' g6' g7' row' bs') (wz_M off num cs ty most' f' n' i' was' m1' k' nx' g0' g1' g2' g3' g4' g5' g6' g7' row' bs')) (hb : tz4_x off num cs ty most f n i m1 k nx g0 g1 g2 g3 g4 g5 g6 g7 row bs Qwz fs m) : Good Try.prog A 1 fs m := by
  unfold tz4_x at hb
  exact wz_good hwz hb
theorem tz5_go {A : SV → SMem → Prop} {off : Nat} {num : Nat} {cs : Array Value} {ty : TypeId} {most : Int} {f : Int} {n : Int} {i : Int} {m1 : Nat} {k : Nat} {nx : Int} {g0 : Int} {g1 : Int} {g2 : Int} {g3 : Int} {g4 : Int} {g5 : Int} {g6 : Int} {g7 : Int} {row : Array Value} {bs : Array Value} {Qwz : Int → Int → Int → Int → Int → Nat → Nat → Int → Int → Int → Int → Int → Int → Int → Int → Int → Array Value → Array Value → Prop} {fs : List SFr} {m : SMem} (hwz : ∀ most' f' n' i' was' m1' k' nx' g0' g1' g2' g3' g4' g5' g6' g7' row' bs', Qwz most' f' n' i' was' m1' k' nx' g0' g1' g2' g3' g4' g5' g6' g7' row' bs' → Good Try.prog A 1 (wz_F off num cs ty most' f' n' i' was' m1' k' nx' g0' g1' g2' g3' g4' g5' g6' g7' row' bs') (wz_M off num cs ty most' f' n' i' was' m1' k' nx' g0' g1' g2' g3' g4' g5' g6' g7' row' bs')) (hb : tz5_x off num cs ty most f n i m1 k nx g0 g1 g2 g3 g4 g5 g6 g7 row bs Qwz fs m) : Good Try.prog A 1 fs m := by
  unfold tz5_x at hb
  exact wz_good hwz hb
theorem tz6_go {A : SV → SMem → Prop} {off : Nat} {num : Nat} {cs : Array Value} {ty : TypeId} {most : Int} {f : Int} {n : Int} {i : Int} {m1 : Nat} {k : Nat} {nx : Int} {g0 : Int} {g1 : Int} {g2 : Int} {g3 : Int} {g4 : Int} {g5 : Int} {g6 : Int} {g7 : Int} {row : Array Value} {bs : Array Value} {Qwz : Int → Int → Int → Int → Int → Nat → Nat → Int → Int → Int → Int → Int → Int → Int → Int → Int → Array Value → Array Value → Prop} {fs : List SFr} {m : SMem} (hwz : ∀ most' f' n' i' was' m1' k' nx' g0' g1' g2' g3' g4' g5' g6' g7' row' bs', Qwz most' f' n' i' was' m1' k' nx' g0' g1' g2' g3' g4' g5' g6' g7' row' bs' → Good Try.prog A 1 (wz_F off num cs ty most' f' n' i' was' m1' k' nx' g0' g1' g2' g3' g4' g5' g6' g7' row' bs') (wz_M off num cs ty most' f' n' i' was' m1' k' nx' g0' g1' g2' g3' g4' g5' g6' g7' row' bs')) (hb : tz6_x off num cs ty most f n i m1 k nx g0 g1 g2 g3 g4 g5 g6 g7 row bs Qwz fs m) : Good Try.prog A 1 fs m := by
  unfold tz6_x at hb
  exact wz_good hwz hb
theorem tz7_go {A : SV → SMem → Prop} {off : Nat} {num : Nat} {cs : Array Value} {ty : TypeId} {most : Int} {f : Int} {n : Int} {i : Int} {m1 : Nat} {k : Nat} {nx : Int} {g0 : Int} {g1 : Int} {g2 : Int} {g3 : Int} {g4 : Int} {g5 : Int} {g6 : Int} {g7 : Int} {row : Array Value} {bs : Array Value} {Qwz : Int → Int → Int → Int → Int → Nat → Nat → Int → Int → Int → Int → Int → Int → Int → Int → Int → Array Value → Array Value → Prop} {fs : List SFr} {m : SMem} (hwz : ∀ most' f' n' i' was' m1' k' nx' g0' g1' g2' g3' g4' g5' g6' g7' row' bs', Qwz most' f' n' i' was' m1' k' nx' g0' g1' g2' g3' g4' g5' g6' g7' row' bs' → Good Try.prog A 1 (wz_F off num cs ty most' f' n' i' was' m1' k' nx' g0' g1' g2' g3' g4' g5' g6' g7' row' bs') (wz_M off num cs ty most' f' n' i' was' m1' k' nx' g0' g1' g2' g3' g4' g5' g6' g7' row' bs')) (hb : tz7_x off num cs ty most f n i m1 k nx g0 g1 g2 g3 g4 g5 g6 g7 row bs Qwz fs m) : Good Try.prog A 1 fs m := by
  unfold tz7_x at hb
  exact wz_good hwz hb
theorem tz8_go {A : SV → SMem → Prop} {off : Nat} {num : Nat} {cs : Array Value} {ty : TypeId} {most : Int} {f : Int} {n : Int} {i : Int} {m1 : Nat} {k : Nat} {nx : Int} {g0 : Int} {g1 : Int} {g2 : Int} {g3 : Int} {g4 : Int} {g5 : Int} {g6 : Int} {g7 : Int} {row : Array Value} {bs : Array Value} {Qwz : Int → Int → Int → Int → Int → Nat → Nat → Int → Int → Int → Int → Int → Int → Int → Int → Int → Array Value → Array Value → Prop} {fs : List SFr} {m : SMem} (hwz : ∀ most' f' n' i' was' m1' k' nx' g0' g1' g2' g3' g4' g5' g6' g7' row' bs', Qwz most' f' n' i' was' m1' k' nx' g0' g1' g2' g3' g4' g5' g6' g7' row' bs' → Good Try.prog A 1 (wz_F off num cs ty most' f' n' i' was' m1' k' nx' g0' g1' g2' g3' g4' g5' g6' g7' row' bs') (wz_M off num cs ty most' f' n' i' was' m1' k' nx' g0' g1' g2' g3' g4' g5' g6' g7' row' bs')) (hb : tz8_x off num cs ty most f n i m1 k nx g0 g1 g2 g3 g4 g5 g6 g7 row bs Qwz fs m) : Good Try.prog A 1 fs m := by
  unfold tz8_x at hb
  exact wz_good hwz hb
theorem bz_go {A : SV → SMem → Prop} {off : Nat} {num : Nat} {cs : Array Value} {ty : TypeId} {most : Int} {f : Int} {n : Int} {i : Int} {was : Int} {m1 : Nat} {k : Nat} {nx : Int} {g0 : Int} {g1 : Int} {g2 : Int} {g3 : Int} {g4 : Int} {g5 : Int} {g6 : Int} {g7 : Int} {row : Array Value} {bs : Array Value} {Qqz : Int → Int → Int → Int → Nat → Nat → Int → Int → Int → Int → Int → Int → Int → Int → Int → Array Value → Array Value → Prop} {fs : List SFr} {m : SMem} (hqz : ∀ most' f' n' i' m1' k' nx' g0' g1' g2' g3' g4' g5' g6' g7' row' bs', Qqz most' f' n' i' m1' k' nx' g0' g1' g2' g3' g4' g5' g6' g7' row' bs' → Good Try.prog A 1 (qz_F off num cs ty most' f' n' i' m1' k' nx' g0' g1' g2' g3' g4' g5' g6' g7' row' bs') (qz_M off num cs ty most' f' n' i' m1' k' nx' g0' g1' g2' g3' g4' g5' g6' g7' row' bs')) (hb : bz_x off num cs ty most f n i was m1 k nx g0 g1 g2 g3 g4 g5 g6 g7 row bs Qqz fs m) : Good Try.prog A 1 fs m := by
  unfold bz_x at hb
  exact qz_good hqz hb
end Go.Proofs.Ytpohnmafnpnmeaa
