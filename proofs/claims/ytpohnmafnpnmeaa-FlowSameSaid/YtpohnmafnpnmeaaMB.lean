/- Of flow: what is met is what is reached. No condition. -/
import Derived.Test.YtpohnmafnpnmeaaMA
import Derived.Test.YtpohnmafnpnmeaaK24
import Derived.Test.YtpohnmafnpnmeaaK23
import Derived.Test.YtpohnmafnpnmeaaK15b
set_option linter.unusedVariables false
set_option linter.unusedSimpArgs false
namespace Go.Proofs.Ytpohnmafnpnmeaa
set_option maxRecDepth 100000
inductive Rch (nx : Nat → List Nat) (s : Int) (a : Nat) : Nat → Prop
  | refl : (a : Int) ≠ s → Rch nx s a a
  | step {b c : Nat} : Rch nx s a b → c ∈ nx b → (c : Int) ≠ s → Rch nx s a c
section
variable {nx : Nat → List Nat} {s : Int}
theorem Rch.head {a b c : Nat} (ha : (a : Int) ≠ s) (hb : b ∈ nx a) (h : Rch nx s b c) : Rch nx s a c := by
  induction h with
  | refl h => exact .step (.refl ha) hb h
  | step _ h1 h2 ih => exact .step ih h1 h2
theorem Rch.le {n a b : Nat} (hx : ∀ i, i ≤ n → ∀ j ∈ nx i, j ≤ n) (ha : a ≤ n) (h : Rch nx s a b) : b ≤ n := by
  induction h with
  | refl => exact ha
  | step _ h1 _ ih => exact hx _ ih _ h1
variable {n : Nat} (hx : ∀ i, i ≤ n → ∀ j ∈ nx i, j ≤ n) (hn : n < 128)
include hx hn
theorem meetN_sound : ∀ (k i : Nat) (ws : Array Value), i ≤ n → IsW ws → ∀ j, bitW (meetN nx s k i ws) j = true → bitW ws j = true ∨ Rch nx s i j
  | 0, _, _, _, _, _, hj => .inl hj
  | k + 1, i, ws, hi, h, j, hj => by
    rw [meetN_succ] at hj
    split at hj
    · exact .inl hj
    rename_i hs
    split at hj
    · exact .inl hj
    have ha := h.add (i := i) (by omega)
    have go : ∀ (l : List Nat) (w : Array Value), (∀ j ∈ l, j ≤ n) → IsW w → bitW (l.foldl (fun w b => meetN nx s k b w) w) j = true → bitW w j = true ∨ ∃ b ∈ l, Rch nx s b j := by
      intro l
      induction l with
      | nil => intro w _ _ h; exact .inl h
      | cons b l ih =>
        intro w hl h1 h2
        have hb := hl b (List.mem_cons_self ..)
        rcases ih _ (fun j hj => hl j (List.mem_cons_of_mem _ hj)) (meetN_keep hx hn k b w hb h1).1 h2 with h3 | ⟨c, hc, h3⟩
        · rcases meetN_sound k b w hb h1 j h3 with h4 | h4
          · exact .inl h4
          · exact .inr ⟨b, List.mem_cons_self .., h4⟩
        · exact .inr ⟨c, List.mem_cons_of_mem _ hc, h3⟩
    rcases go _ _ (hx i hi) ha hj with h1 | ⟨b, hb, h1⟩
    · rw [bitW_add h (by omega), Bool.or_eq_true, decide_eq_true_eq] at h1
      rcases h1 with rfl | h1
      · exact .inr (.refl hs)
      · exact .inl h1
    · exact .inr (Rch.head hs hb h1)
theorem meetN_full : ∀ (k i : Nat) (ws : Array Value), i ≤ n → IsW ws → unmet ws (n + 1) < k → ((i : Int) ≠ s → bitW (meetN nx s k i ws) i = true) ∧
    ∀ j c, j ≤ n → bitW (meetN nx s k i ws) j = true → bitW ws j = false → c ∈ nx j → (c : Int) ≠ s → bitW (meetN nx s k i ws) c = true
  | 0, _, _, _, _, hk => absurd hk (Nat.not_lt_zero _)
  | k + 1, i, ws, hi, h, hk => by
    rw [meetN_succ]
    split
    · rename_i hs
      exact ⟨fun h => absurd hs h, fun j c _ h1 h2 => by rw [h1] at h2; cases h2⟩
    rename_i hs
    split
    · rename_i hb
      exact ⟨fun _ => hb, fun j c _ h1 h2 => by rw [h1] at h2; cases h2⟩
    rename_i hb
    have hb : bitW ws i = false := by simpa using hb
    have ha := h.add (i := i) (by omega)
    have hbit : ∀ j, bitW ws j = true → bitW (addW ws i) j = true := fun j hj => by rw [bitW_add h (by omega), hj, Bool.or_true]
    have hun : unmet (addW ws i) (n + 1) < k := by
      have := unmet_lt hbit hb (by rw [bitW_add h (by omega)]; simp) (k := n + 1) (by omega)
      omega
    have keep : ∀ (l : List Nat) (w : Array Value), (∀ j ∈ l, j ≤ n) → IsW w → IsW (l.foldl (fun w b => meetN nx s k b w) w) ∧ ∀ j, bitW w j = true → bitW (l.foldl (fun w b => meetN nx s k b w) w) j = true := by
      intro l
      induction l with
      | nil => intro w _ h1; exact ⟨h1, fun _ h => h⟩
      | cons b l ih =>
        intro w hl h1
        obtain ⟨k1, k2⟩ := meetN_keep (s := s) hx hn k b w (hl b (List.mem_cons_self ..)) h1
        obtain ⟨k3, k4⟩ := ih _ (fun j hj => hl j (List.mem_cons_of_mem _ hj)) k1
        exact ⟨k3, fun j hj => k4 j (k2 j hj)⟩
    have go : ∀ (l : List Nat) (w : Array Value), (∀ j ∈ l, j ≤ n) → IsW w → unmet w (n + 1) < k → (∀ b ∈ l, (b : Int) ≠ s → bitW (l.foldl (fun w b => meetN nx s k b w) w) b = true) ∧
        ∀ j c, j ≤ n → bitW (l.foldl (fun w b => meetN nx s k b w) w) j = true → bitW w j = false → c ∈ nx j → (c : Int) ≠ s → bitW (l.foldl (fun w b => meetN nx s k b w) w) c = true := by
      intro l
      induction l with
      | nil =>
        intro w _ _ _
        exact ⟨fun _ h => (by cases h), fun j c _ h1 h2 => by
          have h1 : bitW w j = true := h1
          rw [h1] at h2; cases h2⟩
      | cons b l ih =>
        intro w hl h1 h2
        have hb := hl b (List.mem_cons_self ..)
        have hl' : ∀ j ∈ l, j ≤ n := fun j hj => hl j (List.mem_cons_of_mem _ hj)
        obtain ⟨k1, k2⟩ := meetN_keep (s := s) hx hn k b w hb h1
        obtain ⟨f1, f2⟩ := meetN_full k b w hb h1 h2
        obtain ⟨g1, g2⟩ := ih _ hl' k1 (Nat.lt_of_le_of_lt (unmet_mono k2 (n + 1)) h2)
        obtain ⟨_, k4⟩ := keep l (meetN nx s k b w) hl' k1
        refine ⟨fun x hx hxs => ?_, fun j c hj h3 h4 hc hcs => ?_⟩
        · rcases List.mem_cons.1 hx with rfl | hx
          · exact k4 _ (f1 hxs)
          · exact g1 x hx hxs
        · cases h5 : bitW (meetN nx s k b w) j with
          | true => exact k4 _ (f2 j c hj h5 h4 hc hcs)
          | false => exact g2 j c hj h3 h5 hc hcs
    obtain ⟨g1, g2⟩ := go _ _ (hx i hi) ha hun
    obtain ⟨_, k4⟩ := keep _ _ (hx i hi) ha
    refine ⟨fun _ => k4 i (by rw [bitW_add h (by omega)]; simp), fun j c hj h1 h2 hc hcs => ?_⟩
    cases h3 : bitW (addW ws i) j with
    | false => exact g2 j c hj h1 h3 hc hcs
    | true =>
      rw [bitW_add h (by omega), h2, Bool.or_false, decide_eq_true_eq] at h3
      subst h3
      exact g1 c hc hcs
theorem meetN_iff {k i : Nat} {ws : Array Value} (hi : i ≤ n) (h : IsW ws) (h0 : ∀ j, bitW ws j = false) (hk : n + 1 < k) (j : Nat) : bitW (meetN nx s k i ws) j = true ↔ Rch nx s i j := by
  refine ⟨fun hj => ?_, fun hj => ?_⟩
  · rcases meetN_sound hx hn k i ws hi h j hj with h1 | h1
    · rw [h0] at h1; cases h1
    · exact h1
  · obtain ⟨f1, f2⟩ := meetN_full (s := s) hx hn k i ws hi h (Nat.lt_of_le_of_lt (unmet_le ws (n + 1)) hk)
    induction hj with
    | refl h => exact f1 h
    | step hb h1 h2 ih => exact f2 _ _ (hb.le hx hi) ih (h0 _) h1 h2
end
def noW : Array Value := #[.int .u64 0, .int .u64 0]
theorem noW_ok : IsW noW := ⟨rfl, fun j hj => by match j, hj with | 0, _ => rfl | 1, _ => rfl, fun j hj => ⟨0, by omega, by match j, hj with | 0, _ => rfl | 1, _ => rfl⟩⟩
theorem noW_bit (j : Nat) : bitW noW j = false := by
  unfold bitW
  have e : intAt noW (j / 64) = 0 := by
    match j / 64 with
    | 0 => rfl
    | 1 => rfl
    | k + 2 => rfl
  rw [e]; exact Nat.zero_testBit _
def frW (cs : Array Value) (off n : Nat) (a s : Int) : Array Value := mtK 66 cs off n s a noW
theorem frW_iff {cs : Array Value} {off n : Nat} {i : Nat} {s : Int} (hI : InsOk cs off n) (hM : mayV cs off n = true) (hi : i ≤ n) (j : Nat) : bitW (frW cs off n i s) j = true ↔ Rch (toL cs off n) s i j := by
  have n64 := (mayV_iff.1 hM).1
  exact meetN_iff (toL_le hI hM) (by omega) hi noW_ok noW_bit (by omega) j
theorem frW_ok {cs : Array Value} {off n : Nat} {i : Nat} {s : Int} (hI : InsOk cs off n) (hM : mayV cs off n = true) (hi : i ≤ n) : IsW (frW cs off n i s) :=
  (meetN_keep (toL_le hI hM) (by have := (mayV_iff.1 hM).1; omega) 66 i noW hi noW_ok).1
theorem from_good {cs : Array Value} {off n : Nat} {a s : Int} (ty : TypeId) (hI : InsOk cs off n) (hM : mayV cs off n = true) (h0 : 0 ≤ a) (hn : a ≤ n) :
    Good Try.prog (fun s0 m' => s0 = agg (frW cs off n a s) ∧ m' = mkM 1 [(0, ⟨.raw cs, ty, false⟩)]) 1 (fromC off n a s) (mkM 1 [(0, ⟨.raw cs, ty, false⟩)]) := by
  refine Good.ret [] (run_vc (EMt_ok 66) 4000 (from_vc (mtK 66) (mtP 66) cs ty off n a s (frW cs off n a s)) ?_ (fun _ _ h => h) (fun _ _ h => h.elim))
  have hP : mtP 66 cs off n s a noW := ⟨hI, hM, noW_ok, ⟨h0, hn⟩, by have := unmet_le noW (n + 1); have := (mayV_iff.1 hM).1; omega⟩
  have hz : (mtK 66 cs off n s a noW).size = 2 := by
    obtain ⟨i, rfl⟩ : ∃ i : Nat, a = (i : Int) := ⟨a.toNat, by omega⟩
    exact (frW_ok (s := s) hI hM (i := i) (by omega)).size
  exact ⟨⟨hP, trivial⟩, ⟨hz, trivial⟩, ⟨hz, hz, trivial⟩, ⟨hz, trivial⟩, rfl, rfl, rfl, trivial⟩
end Go.Proofs.Ytpohnmafnpnmeaa
/- Of code: there and back again. No condition. -/
namespace Go.Proofs.Ytpohnmafnpnmeaa
set_option linter.unusedSectionVars false
theorem encB_size (cs : Array Value) (off n : Nat) : (encB cs off n).size = 6 * n := by
  unfold encB
  rw [strOf_size, encL_len]; omega
theorem encB_at {cs : Array Value} {off n i t : Nat} {x : Int} (hi : i < n) (ht : t < 6) (hx : (six (ins cs off i))[t]? = some (u8V x)) (hr : 0 ≤ x ∧ x ≤ 255) : byteAt (encB cs off n) (6 * i + t) = x := by
  unfold encB
  rw [byteAt_strOf]
  have h := parts_at (f := fun i => six (ins cs off i)) (c := 6) (fun _ => rfl) hi ht
  have e : (encL cs off n)[6 * i + t]? = some (u8V x) := by
    rw [show 6 * i + t = i * 6 + t by omega, ← hx]
    exact h
  rw [e]
  show ((UInt8.ofNat x.toNat).toNat : Int) = x
  rw [UInt8.toNat_ofNat']
  omega
theorem six_at {cs : Array Value} {off n i : Nat} (hi : i < n) (hr : (ins cs off i).In) : insD (encB cs off n) i = ins cs off i := by
  obtain ⟨r1, r2, r3, r4, r5⟩ := hr
  obtain ⟨e1, e2⟩ := lohi_eq r5
  refine Ins.ext' (encB_at (t := 0) hi (by decide) rfl r1) (encB_at (t := 1) hi (by decide) rfl r2) (encB_at (t := 2) hi (by decide) rfl r3) (encB_at (t := 3) hi (by decide) rfl r4) ?_
  show word _ _ = _
  rw [encB_at (t := 4) (x := lo (ins cs off i).n) hi (by decide) rfl (by omega), encB_at (t := 5) (x := hiB (ins cs off i).n) hi (by decide) rfl (by omega), word_eq (by omega) (by omega)]
  omega
theorem dec_ins {s : ByteArray} {k i : Nat} (hi : i < k) : ins (decL s k).toArray 0 i = insD s i := (ins_dec s hi).1
theorem mayV_congr {cs ds : Array Value} {off off' n : Nat} (h : ∀ i, i < n → ins cs off i = ins ds off' i) : mayV cs off n = mayV ds off' n := by
  rw [Bool.eq_iff_iff, mayV_iff, mayV_iff]
  exact ⟨fun ⟨a, b⟩ => ⟨a, fun i hi => by rw [← h i hi]; exact b i hi⟩, fun ⟨a, b⟩ => ⟨a, fun i hi => by rw [h i hi]; exact b i hi⟩⟩
section
variable {cs : Array Value} {off n : Nat} (hI : InsOk cs off n)
include hI
theorem enc_dec {i : Nat} (hi : i < n) : ins (decL (encB cs off n) n).toArray 0 i = ins cs off i := by
  rw [dec_ins hi, six_at hi (hI.2 i hi).2]
omit hI in
theorem enc_div : (encB cs off n).size / 6 = n := by rw [encB_size]; omega
theorem enc_decOk (hm : mayV cs off n = true) : decOk (encB cs off n) = true := by
  unfold decOk
  have h := (mayV_iff.1 hm).1
  rw [enc_div, decide_eq_true (by rw [encB_size]; omega), Bool.true_and, ← hm]
  exact mayV_congr fun i hi => enc_dec hI hi
end
end Go.Proofs.Ytpohnmafnpnmeaa
/- Of flow: rows, as contracts read them. No condition. -/
namespace Go.Proofs.Ytpohnmafnpnmeaa
set_option linter.unusedSectionVars false
set_option maxRecDepth 100000
noncomputable section
def rowR (m : SMem) (i : Nat) : Option (Array Value) := match getB m.bl i with
  | some ⟨.pop cs, _, _⟩ => some cs
  | _ => none
end
theorem rowR_of {m : SMem} {i : Nat} {cs : Array Value} (h : rowR m i = some cs) : ∃ ty wr, getB m.bl i = some ⟨.pop cs, ty, wr⟩ := by
  unfold rowR at h
  split at h
  · rename_i e; cases h; exact ⟨_, _, e⟩
  · cases h
end Go.Proofs.Ytpohnmafnpnmeaa
/- Of flow: what is promised so far. No condition. -/
namespace Go.Proofs.Ytpohnmafnpnmeaa
set_option maxRecDepth 100000
noncomputable section
def rawI (m : SMem) (i : Nat) : Option (Array Value) := match getB m.bl i with
  | some ⟨.raw cs, _, _⟩ => some cs
  | _ => none
def frT (m : SMem) : List SV → Option Tree
  | [.s (.c (.f (.slice i o n _))), .s (.c (.f (.int .i64 a))), .s (.c (.f (.int .i64 s)))] => match rawI m i with
    | some cs => some (needs [InsOk cs o.den n.den, mayV cs o.den n.den = true, 0 ≤ a.den, a.den ≤ (n.den : Int)] (.ret (agg (frW cs o.den n.den a.den s.den)) m))
    | none => none
  | _ => none
def conA (g : FuncId) (l : List SV) (m : SMem) : Option Tree := match g, l with
  | 6, [] => some (needs [] (.ret (sB (.l true)) m))
  | 29, [x] => mayT m x
  | 19, [x] => encT m x
  | 35, [x] => decT m x
  | 32, l => frT m l
  | _, _ => none
def EAL : Env := ⟨Try.prog, fnOf, conA, fun _ _ _ => false⟩
end
theorem fn35 : E0.fn 32 = some Try.f32 := by kernel_rfl
theorem body35 : Try.f32.body = some (Try.f32.body.getD .skip) := by kernel_rfl
theorem rawI_of {m : SMem} {i : Nat} {cs : Array Value} (h : rawI m i = some cs) : ∃ ty wr, getB m.bl i = some ⟨.raw cs, ty, wr⟩ := by
  unfold rawI at h
  split at h
  · rename_i e; cases h; exact ⟨_, _, e⟩
  · cases h
theorem Con.rawN {g : FuncId} {fn : Func} {c : Code} {m : SMem} {i : Nat} {o n : SN} {cap : SK} {cs : Array Value} {q : List Prop} {s0 : SV} {A : SV → SMem → Prop} {l l' : List SV} (h1 : E0.fn g = some fn) (h2 : fn.body = some c) (hr : rawI m i = some cs)
    (hl : ∀ R R' vs, All2 (SV.ok R) l vs → All2 (SV.ok R') l' vs)
    (good : ∀ ty, (∀ p ∈ q, p) → Good Try.prog A 1 [callFr g fn.ntmps (prS o.den n.den :: l') c] (mkM 1 [(0, ⟨.raw cs, ty, false⟩)])) (hs : ∀ s m' R R' v, A s m' → s.ok R' v → s0.ok R v) :
    Con E0 g (.s (.c (.f (.slice i o n cap))) :: l) m (needs q (.ret s0 m)) := by
  obtain ⟨ty, wr, hb⟩ := rawI_of hr
  refine Con.ro E0_ok (l' := prS o.den n.den :: l') (ms := mkM 1 [(0, ⟨.raw cs, ty, false⟩)]) (A := A) h1 h2 rfl (fun _ => i) ?_ ?_ (good ty) hs
  · intro j b hj
    obtain ⟨rfl, rfl⟩ := prM_get (v := true) hj
    exact ⟨Nat.zero_lt_one, rfl, _, hb, rfl, fun R cs' h => h⟩
  · intro R vs ha
    match vs, ha with
    | x :: vs, ha =>
      obtain ⟨⟨gl, cp, e1, e2, e3, e4⟩, ha⟩ := ha
      exact ⟨⟨gl, cp, by unfold pull; exact e1, e2, trivial, e4⟩, hl _ _ _ ha⟩
theorem ints_ok {a s : SI} : ∀ (R R' : Ren) (vs : List Value), All2 (SV.ok R) [i64 a, i64 s] vs → All2 (SV.ok R') [i64 (.o a.den), i64 (.o s.den)] vs := by
  intro R R' vs h
  match vs, h with
  | [x, y], h => exact h
theorem frT_ok {m : SMem} {l : List SV} {t : Tree} (h : frT m l = some t) : Con E0 32 l m t := by
  unfold frT at h
  split at h
  · rename_i i o n cap a s
    split at h
    · rename_i cs e
      cases h
      refine Con.rawN fn35 body35 e (l' := [i64 (.o a.den), i64 (.o s.den)]) (A := fun s0 _ => s0 = agg (frW cs o.den n.den a.den s.den)) ints_ok (fun ty hq => ?_) (fun s m' R R' v h hv => ?_)
      · exact (from_good ty (hq _ (by simp)) (hq _ (by simp)) (hq _ (by simp)) (hq _ (by simp))).mono fun _ _ h => h.1
      · rw [h] at hv
        exact hv
    · cases h
  · cases h
theorem conA_ok (g : FuncId) (l : List SV) (m : SMem) (t : Tree) (h : conA g l m = some t) : Con E0 g l m t := by
  unfold conA at h
  split at h
  · cases h; exact wakes_con m
  · exact mayT_ok h
  · exact encT_ok h
  · exact decT_ok h
  · exact frT_ok h
  · cases h
theorem EAL_ok : EnvOk EAL := EnvOk.with E0_ok _ _ conA_ok
end Go.Proofs.Ytpohnmafnpnmeaa
/- Of flow: behind, and the reference's Edge: their states. No condition. -/
namespace Go.Proofs.Ytpohnmafnpnmeaa
noncomputable section
def rawM (cs : Array Value) (ty : TypeId) : SMem := mkM 1 [(0, ⟨.raw cs, ty, false⟩)]
def beC (off n : Nat) (a : Int) : List SFr := [callFr 34 Try.f34.ntmps [prS off n, i64 (.o a)] (Try.f34.body.getD .skip)]
end
end Go.Proofs.Ytpohnmafnpnmeaa
/- Of flow: behind, has, and the reference's Edge, as propositions. No condition. -/
namespace Go.Proofs.Ytpohnmafnpnmeaa
set_option maxRecDepth 100000
theorem be_vc (cs : Array Value) (ty : TypeId) (off n : Nat) (a : Int) (rs : Array Value) : (run EAL 4000 1 (beC off n a) (rawM cs ty)).vc (retOk 1 [] (agg rs) (rawM cs ty)) (fun _ _ => False) =
    (((decide (a < (0 : Int)) == false) = true → (decide (a ≥ (↑n : Int)) = true → rs = #[Value.int IntKind.u64 (0 : Int), Value.int IntKind.u64 (0 : Int)] ∧ ty = ty ∧ cs = cs ∧ True) ∧ (decide (a ≥ (↑n : Int)) = false → (((0 : Int) ≤ a ∧ a < (↑n : Int)) ∧ True) ∧ (IsInt IntKind.u16 cs (off + Int.toNat a * 5 + 4) ∧ True) ∧ (((0 : Int) ≤ a ∧ a < (↑n : Int)) ∧ True) ∧ (IsInt IntKind.u8 cs (off + Int.toNat a * 5) ∧ True) ∧ ((intAt cs (off + Int.toNat a * 5) == (0 : Int)) = true → rs = #[Value.int IntKind.u64 (0 : Int), Value.int IntKind.u64 (0 : Int)] ∧ ty = ty ∧ cs = cs ∧ True) ∧ ((intAt cs (off + Int.toNat a * 5) == (0 : Int)) = false → ((intAt cs (off + Int.toNat a * 5) == (5 : Int)) = true → (InsOk cs off n ∧ mayV cs off n = true ∧ (0 : Int) ≤ IntKind.wrap IntKind.i64 (intAt cs (off + Int.toNat a * 5 + 4)) ∧ IntKind.wrap IntKind.i64 (intAt cs (off + Int.toNat a * 5 + 4)) ≤ (↑n : Int) ∧ True) ∧ (IsInt IntKind.u64 (frW cs off n (IntKind.wrap IntKind.i64 (intAt cs (off + Int.toNat a * 5 + 4))) (-1 : Int)) (0 : Nat) ∧ True) ∧ (IsInt IntKind.u64 (frW cs off n (IntKind.wrap IntKind.i64 (intAt cs (off + Int.toNat a * 5 + 4))) (-1 : Int)) (1 : Nat) ∧ True) ∧ rs = #[Value.int IntKind.u64 (ari BinOp.or IntKind.u64 (0 : Int) (intAt (frW cs off n (IntKind.wrap IntKind.i64 (intAt cs (off + Int.toNat a * 5 + 4))) (-1 : Int)) (0 : Nat))), Value.int IntKind.u64 (ari BinOp.or IntKind.u64 (0 : Int) (intAt (frW cs off n (IntKind.wrap IntKind.i64 (intAt cs (off + Int.toNat a * 5 + 4))) (-1 : Int)) (1 : Nat)))] ∧ ty = ty ∧ cs = cs ∧ True) ∧ ((intAt cs (off + Int.toNat a * 5) == (5 : Int)) = false → ((intAt cs (off + Int.toNat a * 5) == (6 : Int)) = true → (((if ari BinOp.add IntKind.i64 a (1 : Int) > IntKind.wrap IntKind.i64 (intAt cs (off + Int.toNat a * 5 + 4)) then ari BinOp.add IntKind.i64 a (1 : Int) else IntKind.wrap IntKind.i64 (intAt cs (off + Int.toNat a * 5 + 4))) == if ari BinOp.add IntKind.i64 a (1 : Int) < IntKind.wrap IntKind.i64 (intAt cs (off + Int.toNat a * 5 + 4)) then ari BinOp.add IntKind.i64 a (1 : Int) else IntKind.wrap IntKind.i64 (intAt cs (off + Int.toNat a * 5 + 4))) = true → (InsOk cs off n ∧ mayV cs off n = true ∧ ((0 : Int) ≤ if ari BinOp.add IntKind.i64 a (1 : Int) < IntKind.wrap IntKind.i64 (intAt cs (off + Int.toNat a * 5 + 4)) then ari BinOp.add IntKind.i64 a (1 : Int) else IntKind.wrap IntKind.i64 (intAt cs (off + Int.toNat a * 5 + 4))) ∧ (if ari BinOp.add IntKind.i64 a (1 : Int) < IntKind.wrap IntKind.i64 (intAt cs (off + Int.toNat a * 5 + 4)) then ari BinOp.add IntKind.i64 a (1 : Int) else IntKind.wrap IntKind.i64 (intAt cs (off + Int.toNat a * 5 + 4))) ≤ (↑n : Int) ∧ True) ∧ (IsInt IntKind.u64 (frW cs off n (if ari BinOp.add IntKind.i64 a (1 : Int) < IntKind.wrap IntKind.i64 (intAt cs (off + Int.toNat a * 5 + 4)) then ari BinOp.add IntKind.i64 a (1 : Int) else IntKind.wrap IntKind.i64 (intAt cs (off + Int.toNat a * 5 + 4))) (-1 : Int)) (0 : Nat) ∧ True) ∧ (IsInt IntKind.u64 (frW cs off n (if ari BinOp.add IntKind.i64 a (1 : Int) < IntKind.wrap IntKind.i64 (intAt cs (off + Int.toNat a * 5 + 4)) then ari BinOp.add IntKind.i64 a (1 : Int) else IntKind.wrap IntKind.i64 (intAt cs (off + Int.toNat a * 5 + 4))) (-1 : Int)) (1 : Nat) ∧ True) ∧ rs = #[Value.int IntKind.u64 (ari BinOp.or IntKind.u64 (0 : Int) (intAt (frW cs off n (if ari BinOp.add IntKind.i64 a (1 : Int) < IntKind.wrap IntKind.i64 (intAt cs (off + Int.toNat a * 5 + 4)) then ari BinOp.add IntKind.i64 a (1 : Int) else IntKind.wrap IntKind.i64 (intAt cs (off + Int.toNat a * 5 + 4))) (-1 : Int)) (0 : Nat))), Value.int IntKind.u64 (ari BinOp.or IntKind.u64 (0 : Int) (intAt (frW cs off n (if ari BinOp.add IntKind.i64 a (1 : Int) < IntKind.wrap IntKind.i64 (intAt cs (off + Int.toNat a * 5 + 4)) then ari BinOp.add IntKind.i64 a (1 : Int) else IntKind.wrap IntKind.i64 (intAt cs (off + Int.toNat a * 5 + 4))) (-1 : Int)) (1 : Nat)))] ∧ ty = ty ∧ cs = cs ∧ True) ∧ (((if ari BinOp.add IntKind.i64 a (1 : Int) > IntKind.wrap IntKind.i64 (intAt cs (off + Int.toNat a * 5 + 4)) then ari BinOp.add IntKind.i64 a (1 : Int) else IntKind.wrap IntKind.i64 (intAt cs (off + Int.toNat a * 5 + 4))) == if ari BinOp.add IntKind.i64 a (1 : Int) < IntKind.wrap IntKind.i64 (intAt cs (off + Int.toNat a * 5 + 4)) then ari BinOp.add IntKind.i64 a (1 : Int) else IntKind.wrap IntKind.i64 (intAt cs (off + Int.toNat a * 5 + 4))) = false → (InsOk cs off n ∧ mayV cs off n = true ∧ ((0 : Int) ≤ if ari BinOp.add IntKind.i64 a (1 : Int) < IntKind.wrap IntKind.i64 (intAt cs (off + Int.toNat a * 5 + 4)) then ari BinOp.add IntKind.i64 a (1 : Int) else IntKind.wrap IntKind.i64 (intAt cs (off + Int.toNat a * 5 + 4))) ∧ (if ari BinOp.add IntKind.i64 a (1 : Int) < IntKind.wrap IntKind.i64 (intAt cs (off + Int.toNat a * 5 + 4)) then ari BinOp.add IntKind.i64 a (1 : Int) else IntKind.wrap IntKind.i64 (intAt cs (off + Int.toNat a * 5 + 4))) ≤ (↑n : Int) ∧ True) ∧ (IsInt IntKind.u64 (frW cs off n (if ari BinOp.add IntKind.i64 a (1 : Int) < IntKind.wrap IntKind.i64 (intAt cs (off + Int.toNat a * 5 + 4)) then ari BinOp.add IntKind.i64 a (1 : Int) else IntKind.wrap IntKind.i64 (intAt cs (off + Int.toNat a * 5 + 4))) (-1 : Int)) (0 : Nat) ∧ True) ∧ (IsInt IntKind.u64 (frW cs off n (if ari BinOp.add IntKind.i64 a (1 : Int) < IntKind.wrap IntKind.i64 (intAt cs (off + Int.toNat a * 5 + 4)) then ari BinOp.add IntKind.i64 a (1 : Int) else IntKind.wrap IntKind.i64 (intAt cs (off + Int.toNat a * 5 + 4))) (-1 : Int)) (1 : Nat) ∧ True) ∧ (InsOk cs off n ∧ mayV cs off n = true ∧ ((0 : Int) ≤ if ari BinOp.add IntKind.i64 a (1 : Int) > IntKind.wrap IntKind.i64 (intAt cs (off + Int.toNat a * 5 + 4)) then ari BinOp.add IntKind.i64 a (1 : Int) else IntKind.wrap IntKind.i64 (intAt cs (off + Int.toNat a * 5 + 4))) ∧ (if ari BinOp.add IntKind.i64 a (1 : Int) > IntKind.wrap IntKind.i64 (intAt cs (off + Int.toNat a * 5 + 4)) then ari BinOp.add IntKind.i64 a (1 : Int) else IntKind.wrap IntKind.i64 (intAt cs (off + Int.toNat a * 5 + 4))) ≤ (↑n : Int) ∧ True) ∧ (IsInt IntKind.u64 (frW cs off n (if ari BinOp.add IntKind.i64 a (1 : Int) > IntKind.wrap IntKind.i64 (intAt cs (off + Int.toNat a * 5 + 4)) then ari BinOp.add IntKind.i64 a (1 : Int) else IntKind.wrap IntKind.i64 (intAt cs (off + Int.toNat a * 5 + 4))) (-1 : Int)) (0 : Nat) ∧ True) ∧ (IsInt IntKind.u64 (frW cs off n (if ari BinOp.add IntKind.i64 a (1 : Int) > IntKind.wrap IntKind.i64 (intAt cs (off + Int.toNat a * 5 + 4)) then ari BinOp.add IntKind.i64 a (1 : Int) else IntKind.wrap IntKind.i64 (intAt cs (off + Int.toNat a * 5 + 4))) (-1 : Int)) (1 : Nat) ∧ True) ∧ rs = #[Value.int IntKind.u64 (ari BinOp.or IntKind.u64 (ari BinOp.or IntKind.u64 (0 : Int) (intAt (frW cs off n (if ari BinOp.add IntKind.i64 a (1 : Int) < IntKind.wrap IntKind.i64 (intAt cs (off + Int.toNat a * 5 + 4)) then ari BinOp.add IntKind.i64 a (1 : Int) else IntKind.wrap IntKind.i64 (intAt cs (off + Int.toNat a * 5 + 4))) (-1 : Int)) (0 : Nat))) (intAt (frW cs off n (if ari BinOp.add IntKind.i64 a (1 : Int) > IntKind.wrap IntKind.i64 (intAt cs (off + Int.toNat a * 5 + 4)) then ari BinOp.add IntKind.i64 a (1 : Int) else IntKind.wrap IntKind.i64 (intAt cs (off + Int.toNat a * 5 + 4))) (-1 : Int)) (0 : Nat))), Value.int IntKind.u64 (ari BinOp.or IntKind.u64 (ari BinOp.or IntKind.u64 (0 : Int) (intAt (frW cs off n (if ari BinOp.add IntKind.i64 a (1 : Int) < IntKind.wrap IntKind.i64 (intAt cs (off + Int.toNat a * 5 + 4)) then ari BinOp.add IntKind.i64 a (1 : Int) else IntKind.wrap IntKind.i64 (intAt cs (off + Int.toNat a * 5 + 4))) (-1 : Int)) (1 : Nat))) (intAt (frW cs off n (if ari BinOp.add IntKind.i64 a (1 : Int) > IntKind.wrap IntKind.i64 (intAt cs (off + Int.toNat a * 5 + 4)) then ari BinOp.add IntKind.i64 a (1 : Int) else IntKind.wrap IntKind.i64 (intAt cs (off + Int.toNat a * 5 + 4))) (-1 : Int)) (1 : Nat)))] ∧ ty = ty ∧ cs = cs ∧ True)) ∧ ((intAt cs (off + Int.toNat a * 5) == (6 : Int)) = false → (InsOk cs off n ∧ mayV cs off n = true ∧ (0 : Int) ≤ ari BinOp.add IntKind.i64 a (1 : Int) ∧ ari BinOp.add IntKind.i64 a (1 : Int) ≤ (↑n : Int) ∧ True) ∧ (IsInt IntKind.u64 (frW cs off n (ari BinOp.add IntKind.i64 a (1 : Int)) (-1 : Int)) (0 : Nat) ∧ True) ∧ (IsInt IntKind.u64 (frW cs off n (ari BinOp.add IntKind.i64 a (1 : Int)) (-1 : Int)) (1 : Nat) ∧ True) ∧ rs = #[Value.int IntKind.u64 (ari BinOp.or IntKind.u64 (0 : Int) (intAt (frW cs off n (ari BinOp.add IntKind.i64 a (1 : Int)) (-1 : Int)) (0 : Nat))), Value.int IntKind.u64 (ari BinOp.or IntKind.u64 (0 : Int) (intAt (frW cs off n (ari BinOp.add IntKind.i64 a (1 : Int)) (-1 : Int)) (1 : Nat)))] ∧ ty = ty ∧ cs = cs ∧ True))))) ∧ ((decide (a < (0 : Int)) == false) = false → rs = #[Value.int IntKind.u64 (0 : Int), Value.int IntKind.u64 (0 : Int)] ∧ ty = ty ∧ cs = cs ∧ True)) := by kernel_rfl
end Go.Proofs.Ytpohnmafnpnmeaa
/- Of flow: behind, has and the reference's Edge. No condition. -/
namespace Go.Proofs.Ytpohnmafnpnmeaa
set_option maxRecDepth 100000
theorem or64 {w v : Nat} (hw : w < 2 ^ 64) (hv : v < 2 ^ 64) : ari BinOp.or IntKind.u64 (w : Int) (v : Int) = ((w ||| v : Nat) : Int) := by
  rw [ari_or]
  have e1 : ∀ x : Nat, BitVec.ofInt IntKind.u64.bits (x : Int) = BitVec.ofNat 64 x := fun x => BitVec.ofInt_natCast 64 x
  rw [e1, e1]
  have e3 : (BitVec.ofNat 64 w ||| BitVec.ofNat 64 v).toNat = w ||| v := by
    rw [BitVec.toNat_or, BitVec.toNat_ofNat, BitVec.toNat_ofNat, Nat.mod_eq_of_lt hw, Nat.mod_eq_of_lt hv]
  have e4 : ((BitVec.ofNat 64 w ||| BitVec.ofNat 64 v).toNat : Int) = ((w ||| v : Nat) : Int) := by rw [e3]
  exact (congrArg IntKind.u64.wrap e4).trans (u64_nat (Nat.or_lt_two_pow hw hv))
def orW (x y : Array Value) : Array Value := #[.int .u64 (ari BinOp.or IntKind.u64 (intAt x 0) (intAt y 0)), .int .u64 (ari BinOp.or IntKind.u64 (intAt x 1) (intAt y 1))]
theorem orW_at {x y : Array Value} (hx : IsW x) (hy : IsW y) {p : Nat} (hp : p < 2) : ∃ w v : Nat, w < 2 ^ 64 ∧ v < 2 ^ 64 ∧ intAt x p = w ∧ intAt y p = v ∧ (orW x y)[p]? = some (.int .u64 ((w ||| v : Nat) : Int)) := by
  obtain ⟨w, hw, ew⟩ := hx.lt p hp
  obtain ⟨v, hv, ev⟩ := hy.lt p hp
  refine ⟨w, v, hw, hv, ew, ev, ?_⟩
  have e := or64 hw hv
  rw [← ew, ← ev] at e
  rw [← e]
  match p, hp with
  | 0, _ => rfl
  | 1, _ => rfl
theorem orW_ok {x y : Array Value} (hx : IsW x) (hy : IsW y) : IsW (orW x y) := by
  refine ⟨rfl, fun j hj => ?_, fun j hj => ?_⟩
  · obtain ⟨w, v, h1, h2, h3, h4, h5⟩ := orW_at hx hy hj
    unfold IsInt; rw [intAt_of h5]; exact h5
  · obtain ⟨w, v, h1, h2, h3, h4, h5⟩ := orW_at hx hy hj
    exact ⟨w ||| v, Nat.or_lt_two_pow h1 h2, intAt_of h5⟩
theorem orW_bit {x y : Array Value} (hx : IsW x) (hy : IsW y) {i : Nat} (hi : i < 128) : bitW (orW x y) i = (bitW x i || bitW y i) := by
  obtain ⟨w, v, h1, h2, h3, h4, h5⟩ := orW_at hx hy (p := i / 64) (by omega)
  unfold bitW
  rw [intAt_of h5, h3, h4, Int.toNat_natCast, Int.toNat_natCast, Int.toNat_natCast, Nat.testBit_or]
theorem toL_eq {cs : Array Value} {off n i : Nat} (d : ¬ n ≤ i) : toL cs off n i = if intAt cs (off + i * 5) = 0 then [] else if intAt cs (off + i * 5) = 5 then [(intAt cs (off + i * 5 + 4)).toNat] else if intAt cs (off + i * 5) = 6 then
    if (intAt cs (off + i * 5 + 4)).toNat = i + 1 then [i + 1] else [min (i + 1) (intAt cs (off + i * 5 + 4)).toNat, max (i + 1) (intAt cs (off + i * 5 + 4)).toNat] else [i + 1] := by unfold toL; rw [if_neg d]; rfl
def behW (cs : Array Value) (off n i : Nat) : Array Value := (toL cs off n i).foldl (fun w (b : Nat) => orW w (frW cs off n (b : Int) (-1))) noW
section
variable {cs : Array Value} {off n : Nat} (hI : InsOk cs off n) (hM : mayV cs off n = true)
include hI hM
theorem beh_fold {j : Nat} (hj : j ≤ n) : ∀ (l : List Nat) (w : Array Value), (∀ b ∈ l, b ≤ n) → IsW w → IsW (l.foldl (fun w (b : Nat) => orW w (frW cs off n (b : Int) (-1))) w) ∧
    (bitW (l.foldl (fun w (b : Nat) => orW w (frW cs off n (b : Int) (-1))) w) j = true ↔ bitW w j = true ∨ ∃ b ∈ l, Rch (toL cs off n) (-1) b j) := by
  have n64 := (mayV_iff.1 hM).1
  intro l
  induction l with
  | nil => intro w _ h; exact ⟨h, ⟨fun h => .inl h, fun h => by rcases h with h | ⟨_, h, _⟩; exact h; cases h⟩⟩
  | cons b l ih =>
    intro w hl h
    have hb := hl b (List.mem_cons_self ..)
    have hf := frW_ok (s := -1) hI hM hb
    obtain ⟨k1, k2⟩ := ih (orW w (frW cs off n (b : Int) (-1))) (fun j hj => hl j (List.mem_cons_of_mem _ hj)) (orW_ok h hf)
    refine ⟨k1, k2.trans ?_⟩
    rw [orW_bit h hf (by omega), Bool.or_eq_true, frW_iff hI hM hb]
    constructor
    · rintro ((h1 | h1) | ⟨c, hc, h1⟩)
      · exact .inl h1
      · exact .inr ⟨b, List.mem_cons_self .., h1⟩
      · exact .inr ⟨c, List.mem_cons_of_mem _ hc, h1⟩
    · rintro (h1 | ⟨c, hc, h1⟩)
      · exact .inl (.inl h1)
      · rcases List.mem_cons.1 hc with rfl | hc
        · exact .inl (.inr h1)
        · exact .inr ⟨c, hc, h1⟩
theorem behW_ok {i : Nat} (hi : i ≤ n) : IsW (behW cs off n i) := (beh_fold hI hM (Nat.zero_le n) _ _ (toL_le hI hM i hi) noW_ok).1
theorem be_good {i : Nat} (ty : TypeId) (hi : i ≤ n) : Good Try.prog (fun s0 m' => s0 = agg (behW cs off n i) ∧ m' = rawM cs ty) 1 (beC off n i) (rawM cs ty) := by
  refine Good.ret [] (run_vc EAL_ok 4000 (be_vc cs ty off n i (behW cs off n i)) ?_ (fun _ _ h => h) (fun _ _ h => h.elim))
  obtain ⟨n64, hA⟩ := mayV_iff.1 hM
  have e0 : decide ((i : Int) < 0) = false := decide_eq_false (by omega)
  by_cases d3 : n ≤ i
  · have e3 : decide ((i : Int) ≥ (n : Int)) = true := decide_eq_true (by omega)
    have et : behW cs off n i = noW := by unfold behW toL; rw [if_pos d3]; rfl
    simp only [e0, e3, et, beqT, beqF, Bool.not_true, Bool.not_false, Bool.true_eq_false, Bool.false_eq_true, false_implies, true_implies, true_and, and_true]
    rfl
  have hlt : i < n := by omega
  have e3 : decide ((i : Int) ≥ (n : Int)) = false := decide_eq_false (by omega)
  obtain ⟨⟨i1, i2, i3, i4, i5⟩, r1, r2, r3, r4, r5⟩ := hI.2 i hlt
  obtain ⟨_, _, _, _, k5⟩ := Ins.okN_iff.1 (hA i hlt)
  have et : toL cs off n i = if intAt cs (off + i * 5) = 0 then [] else if intAt cs (off + i * 5) = 5 then [(intAt cs (off + i * 5 + 4)).toNat] else if intAt cs (off + i * 5) = 6 then
    if (intAt cs (off + i * 5 + 4)).toNat = i + 1 then [i + 1] else [min (i + 1) (intAt cs (off + i * 5 + 4)).toNat, max (i + 1) (intAt cs (off + i * 5 + 4)).toNat] else [i + 1] := by unfold toL; rw [if_neg d3]; rfl
  simp only [ins] at r1 r5 k5
  have eA : ari BinOp.add IntKind.i64 (i : Int) 1 = ((i + 1 : Nat) : Int) := by rw [ari_add, i64_nat (by omega)]
  have eN : IntKind.i64.wrap (intAt cs (off + i * 5 + 4)) = ((intAt cs (off + i * 5 + 4)).toNat : Int) := by rw [Go.IntWalk.i64_in _ (by omega)]; omega
  have w6 : (0 : Int) ≤ (i : Int) ∧ (i : Int) < (n : Int) := by omega
  have hw : ∀ b : Nat, b ≤ n → ∀ p, p < 2 → IsInt IntKind.u64 (frW cs off n (b : Int) (-1)) p := fun b hb p hp => (frW_ok hI hM hb).int p hp
  have hc : ∀ b : Nat, b ≤ n → (0 : Int) ≤ (b : Int) ∧ (b : Int) ≤ (n : Int) := fun b hb => ⟨by omega, by omega⟩
  simp only [Int.toNat_natCast]
  rw [eA, eN]
  have ebe : behW cs off n i = (toL cs off n i).foldl (fun w (b : Nat) => orW w (frW cs off n (b : Int) (-1))) noW := rfl
  generalize hnn : (intAt cs (off + i * 5 + 4)).toNat = nn at et ⊢
  generalize ho : intAt cs (off + i * 5) = o at et r1 k5 ⊢
  by_cases o0 : o = 0
  · have f0 : (o == 0) = true := by rw [o0]; rfl
    rw [if_pos o0] at et
    rw [et] at ebe
    simp only [e0, e3, f0, ebe, w6, i1, i5, List.foldl_nil, beqT, beqF, Bool.not_true, Bool.not_false, Bool.true_eq_false, Bool.false_eq_true, false_implies, true_implies, true_and, and_true]
    rfl
  have f0 : (o == 0) = false := by rw [beq_eq_false_iff_ne]; exact o0
  rw [if_neg o0] at et
  by_cases o5 : o = 5
  · have f5 : (o == 5) = true := by rw [o5]; rfl
    rw [if_pos o5] at et
    rw [et] at ebe
    have h1 := hc nn (by omega)
    simp only [e0, e3, f0, f5, ebe, w6, i1, i5, hI, hM, h1, hw nn (by omega) 0 (by omega), hw nn (by omega) 1 (by omega), List.foldl_nil, List.foldl_cons, beqT, beqF, Bool.not_true, Bool.not_false, Bool.true_eq_false, Bool.false_eq_true, false_implies, true_implies, true_and, and_true]
    rfl
  have f5 : (o == 5) = false := by rw [beq_eq_false_iff_ne]; exact o5
  rw [if_neg o5] at et
  by_cases o6 : o = 6
  · have f6 : (o == 6) = true := by rw [o6]; rfl
    rw [if_pos o6] at et
    have eMin : (if ((i + 1 : Nat) : Int) < (nn : Int) then ((i + 1 : Nat) : Int) else (nn : Int)) = ((min (i + 1) nn : Nat) : Int) := by split <;> omega
    have eMax : (if ((i + 1 : Nat) : Int) > (nn : Int) then ((i + 1 : Nat) : Int) else (nn : Int)) = ((max (i + 1) nn : Nat) : Int) := by split <;> omega
    rw [eMin, eMax]
    have h1 := hc (min (i + 1) nn) (by omega)
    have h2 := hc (max (i + 1) nn) (by omega)
    have g1 := hw (min (i + 1) nn) (by omega) 0 (by omega)
    have g2 := hw (min (i + 1) nn) (by omega) 1 (by omega)
    have g3 := hw (max (i + 1) nn) (by omega) 0 (by omega)
    have g4 := hw (max (i + 1) nn) (by omega) 1 (by omega)
    by_cases d7 : nn = i + 1
    · have f7 : (((max (i + 1) nn : Nat) : Int) == ((min (i + 1) nn : Nat) : Int)) = true := by rw [beq_iff_eq]; omega
      rw [if_pos d7] at et
      have em : min (i + 1) nn = i + 1 := by omega
      rw [et, ← em] at ebe
      simp only [e0, e3, f0, f5, f6, f7, ebe, w6, i1, i5, hI, hM, h1, g1, g2, List.foldl_nil, List.foldl_cons, beqT, beqF, Bool.not_true, Bool.not_false, Bool.true_eq_false, Bool.false_eq_true, false_implies, true_implies, true_and, and_true]
      rfl
    · have f7 : (((max (i + 1) nn : Nat) : Int) == ((min (i + 1) nn : Nat) : Int)) = false := by rw [beq_eq_false_iff_ne]; omega
      rw [if_neg d7] at et
      rw [et] at ebe
      simp only [e0, e3, f0, f5, f6, f7, ebe, w6, i1, i5, hI, hM, h1, h2, g1, g2, g3, g4, List.foldl_nil, List.foldl_cons, beqT, beqF, Bool.not_true, Bool.not_false, Bool.true_eq_false, Bool.false_eq_true, false_implies, true_implies, true_and, and_true]
      rfl
  have f6 : (o == 6) = false := by rw [beq_eq_false_iff_ne]; exact o6
  rw [if_neg o6] at et
  rw [et] at ebe
  have h1 := hc (i + 1) (by omega)
  simp only [e0, e3, f0, f5, f6, ebe, w6, i1, i5, hI, hM, h1, hw (i + 1) (by omega) 0 (by omega), hw (i + 1) (by omega) 1 (by omega), List.foldl_nil, List.foldl_cons, beqT, beqF, Bool.not_true, Bool.not_false, Bool.true_eq_false, Bool.false_eq_true, false_implies, true_implies, true_and, and_true]
  rfl
end
end Go.Proofs.Ytpohnmafnpnmeaa
/- Of flow: what is promised, with behind and Edge. No condition. -/
namespace Go.Proofs.Ytpohnmafnpnmeaa
set_option maxRecDepth 100000
noncomputable section
def beT (m : SMem) : List SV → Option Tree
  | [.s (.c (.f (.slice i o n _))), .s (.c (.f (.int .i64 a)))] => match rawI m i with
    | some cs => some (needs [InsOk cs o.den n.den, mayV cs o.den n.den = true, 0 ≤ a.den, a.den ≤ (n.den : Int)] (.ret (agg (behW cs o.den n.den a.den.toNat)) m))
    | none => none
  | _ => none
def conB (g : FuncId) (l : List SV) (m : SMem) : Option Tree := match g, l with
  | 34, l => beT m l
  | g, l => conA g l m
end
theorem fn32 : E0.fn 34 = some Try.f34 := by kernel_rfl
theorem body32 : Try.f34.body = some (Try.f34.body.getD .skip) := by kernel_rfl
theorem int_ok {a : SI} : ∀ (R R' : Ren) (vs : List Value), All2 (SV.ok R) [i64 a] vs → All2 (SV.ok R') [i64 (.o a.den)] vs := by
  intro R R' vs h
  match vs, h with
  | [x], h => exact h
theorem beT_ok {m : SMem} {l : List SV} {t : Tree} (h : beT m l = some t) : Con E0 34 l m t := by
  unfold beT at h
  split at h
  · rename_i i o n cap a
    split at h
    · rename_i cs e
      cases h
      refine Con.rawN fn32 body32 e (l' := [i64 (.o a.den)]) (A := fun s0 _ => s0 = agg (behW cs o.den n.den a.den.toNat)) int_ok (fun ty hq => ?_) (fun s m' R R' v h hv => ?_)
      · have h3 : 0 ≤ a.den := hq _ (by simp)
        have h4 : a.den ≤ (n.den : Int) := hq _ (by simp)
        have h := be_good (cs := cs) (off := o.den) (n := n.den) (i := a.den.toNat) (hq _ (by simp)) (hq _ (by simp)) ty (by omega)
        rw [show ((a.den.toNat : Nat) : Int) = a.den by omega] at h
        exact h.mono fun _ _ h => h.1
      · rw [h] at hv
        exact hv
    · cases h
  · cases h
theorem conB_ok (g : FuncId) (l : List SV) (m : SMem) (t : Tree) (h : conB g l m = some t) : Con E0 g l m t := by
  unfold conB at h
  split at h
  · exact beT_ok h
  · exact conA_ok _ _ _ _ h
end Go.Proofs.Ytpohnmafnpnmeaa
/- Of flow: functions that make a row; rows of truths. No condition. -/
namespace Go.Proofs.Ytpohnmafnpnmeaa
set_option linter.unusedSectionVars false
set_option maxRecDepth 100000
theorem Con.made {g : FuncId} {fn : Func} {c : Code} {m : SMem} {i : Nat} {o n : SN} {cap : SK} {v : Bool} {cs rs : Array Value} {ty ty' : TypeId} {wr : Bool} {q : List Prop} {S : Nat → SV} {l l' : List SV} (h1 : E0.fn g = some fn) (h2 : fn.body = some c) (hb : getB m.bl i = some ⟨prA v cs, ty, wr⟩)
    (hl : ∀ R R' vs, All2 (SV.ok R) l vs → All2 (SV.ok R') l' vs)
    (good : (∀ p ∈ q, p) → Good Try.prog (fun s m' => s = S 1 ∧ m' = ⟨2, Tr.nil.set 1 (some ⟨.pop rs, ty', true⟩), []⟩) 1 [callFr g fn.ntmps (prS o.den n.den :: l') c] (prM v cs ty))
    (hS : ∀ f : Nat → Nat, (S 1).re f = S (f 1)) :
    Con E0 g (.s (.c (.f (.slice i o n cap))) :: l) m (needs q (.ret (S m.next) (m.new (.pop rs) ty'))) := by
  intro A hs
  obtain ⟨hq, hA⟩ := Tree.sat_needs hs
  refine ⟨fn, h1, by rw [h2]; rfl, fun n0 F w0 w R args ha hR => ?_⟩
  obtain ⟨x, ds, fz, k1, _⟩ := hR.blk _ _ hb
  have hlt := hR.nx _ _ k1
  have hl' : All2 (SV.ok (pull (fun _ => i) 1 R)) (prS o.den n.den :: l') args.toList := by
    revert ha
    generalize args.toList = vs
    intro ha
    match vs, ha with
    | x :: vs, ha =>
      obtain ⟨⟨gl, cp, e1, e2, e3, e4⟩, ha⟩ := ha
      exact ⟨⟨gl, cp, by unfold pull; exact e1, e2, trivial, e4⟩, hl _ _ _ ha⟩
  refine (frame (ms := prM v cs ty) (ms' := ⟨2, Tr.nil.set 1 (some ⟨.pop rs, ty', true⟩), []⟩) (E0_ok.fns g _ h1).1 h2 (good hq) rfl (ι := fun _ => i) ?_ (fun _ _ => hlt) ?_ ?_ ?_ (show 1 ≤ 2 by decide) hl' hR).mono ?_
  · intro a b h1 h2 _
    have h1 : a < 1 := h1
    have h2 : b < 1 := h2
    omega
  · intro j b hj
    obtain ⟨rfl, rfl⟩ := prM_get hj
    refine ⟨Nat.zero_lt_one, _, hb, rfl, fun h => (by cases h), fun R cs' h => ?_⟩
    cases v <;> exact h
  · intro j b hj hw
    obtain ⟨rfl, rfl⟩ := prM_get hj
    cases hw
  · intro j b hj h1
    have h1 : j < 1 := h1
    have e : j = 0 := by omega
    subst e
    have hj : (Option.none : Option SBlk) = some b := hj
    cases hj
  · rintro u w' ⟨R', k1, k2, k3⟩
    rw [hS] at k3
    exact ⟨_, _, R', hA, k1, k2, k3⟩
def boL (f : Nat → Bool) (n : Nat) : Array Value := ((List.range n).map fun i => Value.bool (f i)).toArray
theorem boL_size (f : Nat → Bool) (n : Nat) : (boL f n).size = n := by unfold boL; simp
theorem boL_more {f : Nat → Bool} {i : Nat} {b : Bool} (h : b = f i) : boL f i ++ #[Value.bool b] = boL f (i + 1) := by
  unfold boL; rw [List.range_succ, List.map_append, h]; simp
theorem boL_get (f : Nat → Bool) {n i : Nat} (h : i < n) : (boL f n)[0 + i * 1]? = some (.bool (f i)) := by
  unfold boL; simp [h]
theorem nil_args : ∀ (R R' : Ren) (vs : List Value), All2 (SV.ok R) [] vs → All2 (SV.ok R') [] vs := by
  intro R R' vs h
  match vs, h with
  | [], _ => trivial
theorem i64_add1 {k : Nat} (h : k < 1000) : ari BinOp.add IntKind.i64 (k : Int) 1 = ((k + 1 : Nat) : Int) := by rw [ari_add, i64_nat (by omega)]
noncomputable def slA (k : Nat) : SV := .s (.c (.f (.slice 2 (.l 0) (.o k) (.full 1))))
end Go.Proofs.Ytpohnmafnpnmeaa
/- Of flow: Reached and Loops: their states. No condition. -/
namespace Go.Proofs.Ytpohnmafnpnmeaa
set_option linter.unusedVariables false
noncomputable def boE (ok : Bool) (k : Nat) (rs : Array Value) (s : SV) (m : SMem) : Prop := match s with
  | .tup [.c (.f (.lit (.slice none 0 0))), .c (.f (.int .i64 e))] => ok = false ∧ e.den = 3
  | .tup [.c (.f (.slice sid _ _ _)), .c (.f (.int .i64 _))] => ok = true ∧ retOk 1 [(1, sid)] (.tup [.c (.f (.slice 1 (.l 0) (.o k) .any)), .c (.f (.int .i64 (.l 0)))]) ⟨2, Tr.nil.set 1 (some ⟨.pop rs, 4, true⟩), []⟩ s m
  | _ => False
noncomputable def fn28V : SV := .s (.c (.fn (.func 22) [] []))
noncomputable def fn31V : SV := .s (.c (.fn (.func 33) [] [.ptr 1 (.l 0)]))
noncomputable def EE : Env := ⟨Try.prog, fnOf, conB, haltAt [21006]⟩
noncomputable def eA_d0 : List SIt := sekF Try.f21 6
noncomputable def eA_d1 : List SIt := sekI Try.f8 1 [1, 2, 3, 4, 5]
noncomputable def eA_F (off : Nat) (num : Nat) (cs : Array Value) (ty : TypeId) (ok : Bool) (kF : Nat) (rF : Array Value) (b : Int) (i : Int) (ws : Array Value) : List SFr := [frOf 21 Try.f21 [(0, prS off num), (1, fn28V), (6, ptr 1 (.l 0)), (7, nilV), (16, i64 (.o b)), (17, i64 (.o i))] eA_d0, frOf 8 Try.f8 [(0, prS off num)] eA_d1]
noncomputable def eA_M (off : Nat) (num : Nat) (cs : Array Value) (ty : TypeId) (ok : Bool) (kF : Nat) (rF : Array Value) (b : Int) (i : Int) (ws : Array Value) : SMem := mkM 2 [(0, ⟨.raw cs, ty, false⟩), (1, ⟨.op ws, 68, true⟩)]
noncomputable def eA_n (off : Nat) (num : Nat) (cs : Array Value) (ty : TypeId) (ok : Bool) (kF : Nat) (rF : Array Value) (Q : Int → Int → Array Value → Prop) (fs : List SFr) (m : SMem) : Prop := (match frNth fs 0 with | some f0 => (match rdI f0 16 with | some b => (match rdI f0 17 with | some i => (match rdP f0 6 with | some p1 => (match rdA m p1 with | some ws => Q b i ws ∧ subOk 1 [(1, p1)] (eA_F off num cs ty ok kF rF b i ws) (eA_M off num cs ty ok kF rF b i ws) fs m | none => False) | none => False) | none => False) | none => False) | none => False)
noncomputable def eB_d0 : List SIt := sekF Try.f21 6
noncomputable def eB_d1 : List SIt := sekI Try.f8 1 [1, 2, 3, 4, 5]
noncomputable def eB_F (off : Nat) (num : Nat) (cs : Array Value) (ty : TypeId) (ok : Bool) (kF : Nat) (rF : Array Value) (b : Int) (i : Int) (k : Nat) (ws : Array Value) (rs : Array Value) : List SFr := [frOf 21 Try.f21 [(0, prS off num), (1, fn28V), (6, ptr 1 (.l 0)), (7, slA k), (16, i64 (.o b)), (17, i64 (.o i))] eB_d0, frOf 8 Try.f8 [(0, prS off num)] eB_d1]
noncomputable def eB_M (off : Nat) (num : Nat) (cs : Array Value) (ty : TypeId) (ok : Bool) (kF : Nat) (rF : Array Value) (b : Int) (i : Int) (k : Nat) (ws : Array Value) (rs : Array Value) : SMem := mkM 3 [(0, ⟨.raw cs, ty, false⟩), (1, ⟨.op ws, 68, true⟩), (2, ⟨.pop rs, 4, true⟩)]
noncomputable def eB_n (off : Nat) (num : Nat) (cs : Array Value) (ty : TypeId) (ok : Bool) (kF : Nat) (rF : Array Value) (Q : Int → Int → Nat → Array Value → Array Value → Prop) (fs : List SFr) (m : SMem) : Prop := (match frNth fs 0 with | some f0 => (match rdI f0 16 with | some b => (match rdI f0 17 with | some i => (match rdP f0 6 with | some p1 => (match rdSI f0 7 with | some p2 => (match rdSN f0 7 with | some k => (match rdA m p1 with | some ws => (match rdA m p2 with | some rs => Q b i k ws rs ∧ subOk 1 [(1, p1), (2, p2)] (eB_F off num cs ty ok kF rF b i k ws rs) (eB_M off num cs ty ok kF rF b i k ws rs) fs m | none => False) | none => False) | none => False) | none => False) | none => False) | none => False) | none => False) | none => False)
noncomputable def sE_t (off : Nat) (num : Nat) (cs : Array Value) (ty : TypeId) (ok : Bool) (kF : Nat) (rF : Array Value) : Tree := run EE 8000 1 [callFr 8 Try.f8.ntmps [prS off num] (Try.f8.body.getD .skip)] (rawM cs ty)
noncomputable def sE_x (off : Nat) (num : Nat) (cs : Array Value) (ty : TypeId) (ok : Bool) (kF : Nat) (rF : Array Value) (QeA : Int → Int → Array Value → Prop) (fs : List SFr) (m : SMem) : Prop := eA_n off num cs ty ok kF rF QeA fs m
noncomputable def xA_t (off : Nat) (num : Nat) (cs : Array Value) (ty : TypeId) (ok : Bool) (kF : Nat) (rF : Array Value) (b : Int) (i : Int) (ws : Array Value) : Tree := stepT EE.go (run EE 1000) 1 (eA_F off num cs ty ok kF rF b i ws) (eA_M off num cs ty ok kF rF b i ws)
noncomputable def xA_x (off : Nat) (num : Nat) (cs : Array Value) (ty : TypeId) (ok : Bool) (kF : Nat) (rF : Array Value) (b : Int) (i : Int) (ws : Array Value) (QeB : Int → Int → Nat → Array Value → Array Value → Prop) (fs : List SFr) (m : SMem) : Prop := eB_n off num cs ty ok kF rF QeB fs m
noncomputable def xB_t (off : Nat) (num : Nat) (cs : Array Value) (ty : TypeId) (ok : Bool) (kF : Nat) (rF : Array Value) (b : Int) (i : Int) (k : Nat) (ws : Array Value) (rs : Array Value) : Tree := stepT EE.go (run EE 1000) 1 (eB_F off num cs ty ok kF rF b i k ws rs) (eB_M off num cs ty ok kF rF b i k ws rs)
noncomputable def xB_x (off : Nat) (num : Nat) (cs : Array Value) (ty : TypeId) (ok : Bool) (kF : Nat) (rF : Array Value) (b : Int) (i : Int) (k : Nat) (ws : Array Value) (rs : Array Value) (QeB : Int → Int → Nat → Array Value → Array Value → Prop) (fs : List SFr) (m : SMem) : Prop := eB_n off num cs ty ok kF rF QeB fs m
theorem eA_d0_ok (r : Nat → Option Nat) : TodoOk r eA_d0 eA_d0 := TodoOk.it (by kernel_rfl)
theorem eA_d1_ok (r : Nat → Option Nat) : TodoOk r eA_d1 eA_d1 := TodoOk.it (by kernel_rfl)
theorem eA_good {A : SV → SMem → Prop} {off : Nat} {num : Nat} {cs : Array Value} {ty : TypeId} {ok : Bool} {kF : Nat} {rF : Array Value} {Q : Int → Int → Array Value → Prop} {fs : List SFr} {m : SMem} (H : ∀ b i ws, Q b i ws → Good Try.prog A 1 (eA_F off num cs ty ok kF rF b i ws) (eA_M off num cs ty ok kF rF b i ws)) (hb : eA_n off num cs ty ok kF rF Q fs m) : Good Try.prog A 1 fs m := by
  unfold eA_n at hb
  split at hb
  rotate_left
  · exact hb.elim
  split at hb
  rotate_left
  · exact hb.elim
  split at hb
  rotate_left
  · exact hb.elim
  split at hb
  rotate_left
  · exact hb.elim
  split at hb
  rotate_left
  · exact hb.elim
  exact Good.of_sub hb.2 (H _ _ _ hb.1)
theorem eB_good {A : SV → SMem → Prop} {off : Nat} {num : Nat} {cs : Array Value} {ty : TypeId} {ok : Bool} {kF : Nat} {rF : Array Value} {Q : Int → Int → Nat → Array Value → Array Value → Prop} {fs : List SFr} {m : SMem} (H : ∀ b i k ws rs, Q b i k ws rs → Good Try.prog A 1 (eB_F off num cs ty ok kF rF b i k ws rs) (eB_M off num cs ty ok kF rF b i k ws rs)) (hb : eB_n off num cs ty ok kF rF Q fs m) : Good Try.prog A 1 fs m := by
  unfold eB_n at hb
  split at hb
  rotate_left
  · exact hb.elim
  split at hb
  rotate_left
  · exact hb.elim
  split at hb
  rotate_left
  · exact hb.elim
  split at hb
  rotate_left
  · exact hb.elim
  split at hb
  rotate_left
  · exact hb.elim
  split at hb
  rotate_left
  · exact hb.elim
  split at hb
  rotate_left
  · exact hb.elim
  split at hb
  rotate_left
  · exact hb.elim
  exact Good.of_sub hb.2 (H _ _ _ _ _ hb.1)
theorem sE_go {A : SV → SMem → Prop} {off : Nat} {num : Nat} {cs : Array Value} {ty : TypeId} {ok : Bool} {kF : Nat} {rF : Array Value} {QeA : Int → Int → Array Value → Prop} {fs : List SFr} {m : SMem} (heA : ∀ b' i' ws', QeA b' i' ws' → Good Try.prog A 1 (eA_F off num cs ty ok kF rF b' i' ws') (eA_M off num cs ty ok kF rF b' i' ws')) (hb : sE_x off num cs ty ok kF rF QeA fs m) : Good Try.prog A 1 fs m := by
  unfold sE_x at hb
  exact eA_good heA hb
theorem xA_go {A : SV → SMem → Prop} {off : Nat} {num : Nat} {cs : Array Value} {ty : TypeId} {ok : Bool} {kF : Nat} {rF : Array Value} {b : Int} {i : Int} {ws : Array Value} {QeB : Int → Int → Nat → Array Value → Array Value → Prop} {fs : List SFr} {m : SMem} (heB : ∀ b' i' k' ws' rs', QeB b' i' k' ws' rs' → Good Try.prog A 1 (eB_F off num cs ty ok kF rF b' i' k' ws' rs') (eB_M off num cs ty ok kF rF b' i' k' ws' rs')) (hb : xA_x off num cs ty ok kF rF b i ws QeB fs m) : Good Try.prog A 1 fs m := by
  unfold xA_x at hb
  exact eB_good heB hb
theorem xB_go {A : SV → SMem → Prop} {off : Nat} {num : Nat} {cs : Array Value} {ty : TypeId} {ok : Bool} {kF : Nat} {rF : Array Value} {b : Int} {i : Int} {k : Nat} {ws : Array Value} {rs : Array Value} {QeB : Int → Int → Nat → Array Value → Array Value → Prop} {fs : List SFr} {m : SMem} (heB : ∀ b' i' k' ws' rs', QeB b' i' k' ws' rs' → Good Try.prog A 1 (eB_F off num cs ty ok kF rF b' i' k' ws' rs') (eB_M off num cs ty ok kF rF b' i' k' ws' rs')) (hb : xB_x off num cs ty ok kF rF b i k ws rs QeB fs m) : Good Try.prog A 1 fs m := by
  unfold xB_x at hb
  exact eB_good heB hb
end Go.Proofs.Ytpohnmafnpnmeaa
/- Of flow: Reached and Loops: their states. -/
namespace Go.Proofs.Ytpohnmafnpnmeaa
set_option maxRecDepth 100000
theorem sE_vc (off : Nat) (num : Nat) (cs : Array Value) (ty : TypeId) (ok : Bool) (kF : Nat) (rF : Array Value) (QeA : Int → Int → Array Value → Prop) : (sE_t off num cs ty ok kF rF).vc ((boE ok kF rF)) (sE_x off num cs ty ok kF rF QeA) =
    ((InsOk cs off num ∧ True) ∧ ((!mayV cs off num) = true → ok = false ∧ (3 : Int) = (3 : Int)) ∧ ((!mayV cs off num) = false → (InsOk cs off num ∧ mayV cs off num = true ∧ (0 : Int) ≤ (0 : Int) ∧ (0 : Int) ≤ (↑num : Int) ∧ True) ∧ (Array.size (frW cs off num (0 : Int) (-1 : Int)) = (2 : Nat) ∧ Array.size (frW cs off num (0 : Int) (-1 : Int)) = (2 : Nat) ∧ True) ∧ QeA (ari BinOp.add IntKind.i64 (↑num : Int) (1 : Int)) (0 : Int) (frW cs off num (0 : Int) (-1 : Int)) ∧ CallKind.normal = CallKind.normal ∧ TodoOk (ren 1 [(1, 1)]) eA_d0 eA_d0 ∧ off = off ∧ num = num ∧ Fn.func (22 : Nat) = Fn.func (22 : Nat) ∧ Value.slice none (0 : Nat) (0 : Nat) = Value.slice none (0 : Nat) (0 : Nat) ∧ (0 : Int) = (0 : Int) ∧ ari BinOp.add IntKind.i64 (↑num : Int) (1 : Int) = ari BinOp.add IntKind.i64 (↑num : Int) (1 : Int) ∧ CallKind.normal = CallKind.normal ∧ TodoOk (ren 1 [(1, 1)]) eA_d1 eA_d1 ∧ off = off ∧ num = num ∧ ty = ty ∧ cs = cs ∧ (68 : TypeId) = (68 : Nat) ∧ frW cs off num (0 : Int) (-1 : Int) = frW cs off num (0 : Int) (-1 : Int) ∧ True)) := by kernel_rfl
theorem xA_vc (off : Nat) (num : Nat) (cs : Array Value) (ty : TypeId) (ok : Bool) (kF : Nat) (rF : Array Value) (b : Int) (i : Int) (ws : Array Value) (QeB : Int → Int → Nat → Array Value → Array Value → Prop) : (xA_t off num cs ty ok kF rF b i ws).vc ((boE ok kF rF)) (xA_x off num cs ty ok kF rF b i ws QeB) =
    ((decide (i < b) = true → (Array.size ws = (2 : Nat) ∧ True) ∧ (Array.size ws = (2 : Nat) ∧ True) ∧ (((0 : Int) ≤ ari BinOp.quo IntKind.i64 i (64 : Int) ∧ ari BinOp.quo IntKind.i64 i (64 : Int) < (2 : Int)) ∧ True) ∧ (IsInt IntKind.u64 ws ((0 : Nat) + Int.toNat (ari BinOp.quo IntKind.i64 i (64 : Int)) * 1) ∧ True) ∧ ((0 : Int) ≤ ari BinOp.rem IntKind.i64 i (64 : Int) ∧ True) ∧ QeB b (ari BinOp.add IntKind.i64 i (1 : Int)) (1 : Nat) ws #[Value.bool (ari BinOp.and IntKind.u64 (ari BinOp.shr IntKind.u64 (intAt ws ((0 : Nat) + Int.toNat (ari BinOp.quo IntKind.i64 i (64 : Int)) * 1)) (ari BinOp.rem IntKind.i64 i (64 : Int))) (1 : Int) == (1 : Int))] ∧ CallKind.normal = CallKind.normal ∧ TodoOk (ren 1 [(1, 1), (2, 5)]) eA_d0 eA_d0 ∧ off = off ∧ num = num ∧ Fn.func (22 : Nat) = Fn.func (22 : Nat) ∧ (1 : Nat) = (1 : Nat) ∧ ari BinOp.add IntKind.i64 i (1 : Int) = ari BinOp.add IntKind.i64 i (1 : Int) ∧ b = b ∧ CallKind.normal = CallKind.normal ∧ TodoOk (ren 1 [(1, 1), (2, 5)]) eA_d1 eA_d1 ∧ off = off ∧ num = num ∧ ty = ty ∧ cs = cs ∧ (68 : TypeId) = (68 : TypeId) ∧ ws = ws ∧ (4 : TypeId) = (4 : Nat) ∧ #[Value.bool (ari BinOp.and IntKind.u64 (ari BinOp.shr IntKind.u64 (intAt ws ((0 : Nat) + Int.toNat (ari BinOp.quo IntKind.i64 i (64 : Int)) * 1)) (ari BinOp.rem IntKind.i64 i (64 : Int))) (1 : Int) == (1 : Int))] = #[Value.bool (ari BinOp.and IntKind.u64 (ari BinOp.shr IntKind.u64 (intAt ws ((0 : Nat) + Int.toNat (ari BinOp.quo IntKind.i64 i (64 : Int)) * 1)) (ari BinOp.rem IntKind.i64 i (64 : Int))) (1 : Int) == (1 : Int))] ∧ True) ∧ (decide (i < b) = false → ok = false ∧ (0 : Int) = (3 : Int))) := by kernel_rfl
theorem xB_vc (off : Nat) (num : Nat) (cs : Array Value) (ty : TypeId) (ok : Bool) (kF : Nat) (rF : Array Value) (b : Int) (i : Int) (k : Nat) (ws : Array Value) (rs : Array Value) (QeB : Int → Int → Nat → Array Value → Array Value → Prop) : (xB_t off num cs ty ok kF rF b i k ws rs).vc ((boE ok kF rF)) (xB_x off num cs ty ok kF rF b i k ws rs QeB) =
    ((decide (i < b) = true → (Array.size ws = (2 : Nat) ∧ True) ∧ (Array.size ws = (2 : Nat) ∧ True) ∧ (((0 : Int) ≤ ari BinOp.quo IntKind.i64 i (64 : Int) ∧ ari BinOp.quo IntKind.i64 i (64 : Int) < (2 : Int)) ∧ True) ∧ (IsInt IntKind.u64 ws ((0 : Nat) + Int.toNat (ari BinOp.quo IntKind.i64 i (64 : Int)) * 1) ∧ True) ∧ ((0 : Int) ≤ ari BinOp.rem IntKind.i64 i (64 : Int) ∧ True) ∧ (((k + 1) * 1 ≤ (140737488355328 : Nat) ∧ k + 1 ≤ (140737488355328 : Nat)) ∧ k * 1 = Array.size rs ∧ True) ∧ QeB b (ari BinOp.add IntKind.i64 i (1 : Int)) (k + 1) ws (rs ++ #[Value.bool (ari BinOp.and IntKind.u64 (ari BinOp.shr IntKind.u64 (intAt ws ((0 : Nat) + Int.toNat (ari BinOp.quo IntKind.i64 i (64 : Int)) * 1)) (ari BinOp.rem IntKind.i64 i (64 : Int))) (1 : Int) == (1 : Int))]) ∧ CallKind.normal = CallKind.normal ∧ TodoOk (ren 1 [(1, 1), (2, 6)]) eA_d0 eA_d0 ∧ off = off ∧ num = num ∧ Fn.func (22 : Nat) = Fn.func (22 : Nat) ∧ k + 1 = k + 1 ∧ ari BinOp.add IntKind.i64 i (1 : Int) = ari BinOp.add IntKind.i64 i (1 : Int) ∧ b = b ∧ CallKind.normal = CallKind.normal ∧ TodoOk (ren 1 [(1, 1), (2, 6)]) eA_d1 eA_d1 ∧ off = off ∧ num = num ∧ ty = ty ∧ cs = cs ∧ (68 : TypeId) = (68 : TypeId) ∧ ws = ws ∧ (4 : TypeId) = (4 : Nat) ∧ rs ++ #[Value.bool (ari BinOp.and IntKind.u64 (ari BinOp.shr IntKind.u64 (intAt ws ((0 : Nat) + Int.toNat (ari BinOp.quo IntKind.i64 i (64 : Int)) * 1)) (ari BinOp.rem IntKind.i64 i (64 : Int))) (1 : Int) == (1 : Int))] = rs ++ #[Value.bool (ari BinOp.and IntKind.u64 (ari BinOp.shr IntKind.u64 (intAt ws ((0 : Nat) + Int.toNat (ari BinOp.quo IntKind.i64 i (64 : Int)) * 1)) (ari BinOp.rem IntKind.i64 i (64 : Int))) (1 : Int) == (1 : Int))] ∧ True) ∧ (decide (i < b) = false → ok = true ∧ kF = k ∧ (4 : TypeId) = (4 : TypeId) ∧ rF = rs ∧ True)) := by kernel_rfl
end Go.Proofs.Ytpohnmafnpnmeaa
/- Of flow: Reached. No condition. -/
namespace Go.Proofs.Ytpohnmafnpnmeaa
set_option linter.unusedSectionVars false
set_option maxRecDepth 100000
theorem EE_ok : EnvOk EE := EnvOk.with E0_ok _ _ conB_ok
def metW (cs : Array Value) (off num : Nat) : Array Value := frW cs off num (0 : Int) (-1)
def metB (cs : Array Value) (off num i : Nat) : Bool := bitW (metW cs off num) i
section
variable (off num : Nat) (cs : Array Value) (ty : TypeId) (hI : InsOk cs off num) (hM : mayV cs off num = true)
include hI hM
theorem eB_round : ∀ (K i : Nat), num + 1 - i < K → 1 ≤ i → i ≤ num + 1 → Good Try.prog (boE true (num + 1) (boL (metB cs off num) (num + 1))) 1 (eB_F off num cs ty true (num + 1) (boL (metB cs off num) (num + 1)) (num + 1 : Nat) i i (metW cs off num) (boL (metB cs off num) i)) (eB_M off num cs ty true (num + 1) (boL (metB cs off num) (num + 1)) (num + 1 : Nat) i i (metW cs off num) (boL (metB cs off num) i)) := by
  have n64 := (mayV_iff.1 hM).1
  have hW : IsW (metW cs off num) := frW_ok (i := 0) hI hM (Nat.zero_le _)
  intro K
  induction K with
  | zero => intro i h; omega
  | succ K ih =>
    intro i hK h1 hi
    refine past_vc EE_ok 1000 (xB_vc off num cs ty true (num + 1) (boL (metB cs off num) (num + 1)) (num + 1 : Nat) i i (metW cs off num) (boL (metB cs off num) i)
      (fun b' i' k' ws' rs' => b' = (num + 1 : Nat) ∧ i' = (i + 1 : Nat) ∧ k' = i + 1 ∧ ws' = metW cs off num ∧ rs' = boL (metB cs off num) (i + 1) ∧ i ≤ num)) ?_ (fun _ _ h => h)
      (fun fs m hb => xB_go (fun b' i' k' ws' rs' h => ?_) hb)
    · have hm := boL_more (f := metB cs off num) (i := i) (b := bitW (metW cs off num) i) rfl
      rw [i64_add1 (show i < 1000 by omega), bitW_has hW (by omega), hm, quo64 (by omega), rem64, Int.toNat_natCast]
      by_cases d : i ≤ num
      · have e1 : decide ((i : Int) < ((num + 1 : Nat) : Int)) = true := decide_eq_true (by omega)
        have w1 := hW.size
        have w2 : (0 : Int) ≤ ((i / 64 : Nat) : Int) ∧ ((i / 64 : Nat) : Int) < 2 := by omega
        have w3 : IsInt IntKind.u64 (metW cs off num) (0 + i / 64 * 1) := by rw [Nat.zero_add, Nat.mul_one]; exact hW.int _ (by omega)
        have w4 : (0 : Int) ≤ ((i % 64 : Nat) : Int) := by omega
        have c1 : (i + 1) * 1 ≤ 140737488355328 ∧ i + 1 ≤ 140737488355328 := by omega
        have c2 : i * 1 = (boL (metB cs off num) i).size := by rw [boL_size]; omega
        simp only [e1, w1, w3, w4, c1, d, Bool.true_eq_false, Bool.false_eq_true, false_implies, true_implies, true_and, and_true, eA_d0_ok, eA_d1_ok]
        exact ⟨w2, c2⟩
      · have e1 : decide ((i : Int) < ((num + 1 : Nat) : Int)) = false := decide_eq_false (by omega)
        have ei : i = num + 1 := by omega
        simp only [e1, Bool.true_eq_false, Bool.false_eq_true, false_implies, true_implies, true_and, and_true]
        rw [ei]; exact ⟨rfl, rfl⟩
    · obtain ⟨rfl, rfl, rfl, rfl, rfl, h⟩ := h
      exact ih (i + 1) (by omega) (by omega) (by omega)
theorem reach_yes : Good Try.prog (boE true (num + 1) (boL (metB cs off num) (num + 1))) 1 [callFr 8 Try.f8.ntmps [prS off num] (Try.f8.body.getD .skip)] (rawM cs ty) := by
  have n64 := (mayV_iff.1 hM).1
  have hW : IsW (metW cs off num) := frW_ok (i := 0) hI hM (Nat.zero_le _)
  refine run_vc EE_ok 8000 (sE_vc off num cs ty true (num + 1) (boL (metB cs off num) (num + 1)) (fun b' i' ws' => b' = (num + 1 : Nat) ∧ i' = (0 : Nat) ∧ ws' = metW cs off num)) ?_ (fun _ _ h => h)
    (fun fs m hb => sE_go (fun b' i' ws' h => ?_) hb)
  · have z1 : (frW cs off num (0 : Int) (-1)).size = 2 := hW.size
    have z2 : (0 : Int) ≤ (num : Int) := by omega
    rw [i64_add1 (show num < 1000 by omega)]
    simp only [hI, hM, z1, z2, Bool.not_true, Bool.true_eq_false, Bool.false_eq_true, false_implies, true_implies, true_and, and_true, eA_d0_ok, eA_d1_ok]
    exact ⟨Int.le_refl _, rfl, rfl⟩
  · obtain ⟨rfl, rfl, rfl⟩ := h
    refine past_vc EE_ok 1000 (xA_vc off num cs ty true (num + 1) (boL (metB cs off num) (num + 1)) (num + 1 : Nat) (0 : Nat) (metW cs off num)
      (fun b' i' k' ws' rs' => b' = (num + 1 : Nat) ∧ i' = (1 : Nat) ∧ k' = 1 ∧ ws' = metW cs off num ∧ rs' = boL (metB cs off num) 1)) ?_ (fun _ _ h => h)
      (fun fs m hb => xA_go (fun b' i' k' ws' rs' h => ?_) hb)
    · have hm : #[Value.bool (bitW (metW cs off num) 0)] = boL (metB cs off num) 1 := boL_more (f := metB cs off num) (i := 0) (b := bitW (metW cs off num) 0) rfl
      rw [i64_add1 (show 0 < 1000 by omega), bitW_has hW (by omega), hm, quo64 (by omega), rem64, Int.toNat_natCast]
      have e1 : decide (((0 : Nat) : Int) < ((num + 1 : Nat) : Int)) = true := decide_eq_true (by omega)
      have w1 := hW.size
      have w2 : (0 : Int) ≤ ((0 / 64 : Nat) : Int) ∧ ((0 / 64 : Nat) : Int) < 2 := by omega
      have w3 : IsInt IntKind.u64 (metW cs off num) (0 + 0 / 64 * 1) := hW.int 0 (by omega)
      have w4 : (0 : Int) ≤ ((0 % 64 : Nat) : Int) := by omega
      simp only [e1, w1, w3, w4, Nat.zero_add, Bool.true_eq_false, Bool.false_eq_true, false_implies, true_implies, true_and, and_true, eA_d0_ok, eA_d1_ok]
      exact w2.2
    · obtain ⟨rfl, rfl, rfl, rfl, rfl⟩ := h
      exact eB_round off num cs ty hI hM (num + 2) 1 (by omega) (by omega) (by omega)
end
theorem reach_no (off num : Nat) (cs : Array Value) (ty : TypeId) (hI : InsOk cs off num) (hM : mayV cs off num = false) : Good Try.prog (boE false 0 #[]) 1 [callFr 8 Try.f8.ntmps [prS off num] (Try.f8.body.getD .skip)] (rawM cs ty) := by
  refine run_vc EE_ok 8000 (sE_vc off num cs ty false 0 #[] (fun _ _ _ => False)) ?_ (fun _ _ h => h) (fun fs m hb => sE_go (fun _ _ _ h => h.elim) hb)
  simp only [hI, hM, Bool.not_false, Bool.true_eq_false, Bool.false_eq_true, false_implies, true_implies, true_and, and_true]
end Go.Proofs.Ytpohnmafnpnmeaa
/- Of flow: Loops: its states. No condition. -/
namespace Go.Proofs.Ytpohnmafnpnmeaa
set_option linter.unusedVariables false
noncomputable def slC (k : Nat) : SV := .s (.c (.f (.slice 3 (.l 0) (.o k) (.full 1))))
noncomputable def EG : Env := ⟨Try.prog, fnOf, conB, haltAt [21006]⟩
noncomputable def gA_d0 : List SIt := sekF Try.f21 6
noncomputable def gA_d1 : List SIt := sekI Try.f18 1 [2, 3, 4, 5, 6]
noncomputable def gA_F (off : Nat) (num : Nat) (cs : Array Value) (ty : TypeId) (ok : Bool) (kF : Nat) (rF : Array Value) (b : Int) (i : Int) (ws : Array Value) : List SFr := [frOf 21 Try.f21 [(0, prS off num), (1, fn31V), (6, ptr 2 (.l 0)), (7, nilV), (16, i64 (.o b)), (17, i64 (.o i))] gA_d0, frOf 18 Try.f18 [(1, ptr 1 (.l 0))] gA_d1]
noncomputable def gA_M (off : Nat) (num : Nat) (cs : Array Value) (ty : TypeId) (ok : Bool) (kF : Nat) (rF : Array Value) (b : Int) (i : Int) (ws : Array Value) : SMem := mkM 3 [(0, ⟨.raw cs, ty, false⟩), (1, ⟨.ls [prS' off num], 22, true⟩), (2, ⟨.op ws, 68, true⟩)]
noncomputable def gA_n (off : Nat) (num : Nat) (cs : Array Value) (ty : TypeId) (ok : Bool) (kF : Nat) (rF : Array Value) (Q : Int → Int → Array Value → Prop) (fs : List SFr) (m : SMem) : Prop := (match frNth fs 0 with | some f0 => (match frNth fs 1 with | some f1 => (match rdI f0 16 with | some b => (match rdI f0 17 with | some i => (match rdP f1 1 with | some p1 => (match rdP f0 6 with | some p2 => (match rdA m p2 with | some ws => Q b i ws ∧ subOk 1 [(1, p1), (2, p2)] (gA_F off num cs ty ok kF rF b i ws) (gA_M off num cs ty ok kF rF b i ws) fs m | none => False) | none => False) | none => False) | none => False) | none => False) | none => False) | none => False)
noncomputable def gB_d0 : List SIt := sekF Try.f21 6
noncomputable def gB_d1 : List SIt := sekI Try.f18 1 [2, 3, 4, 5, 6]
noncomputable def gB_F (off : Nat) (num : Nat) (cs : Array Value) (ty : TypeId) (ok : Bool) (kF : Nat) (rF : Array Value) (b : Int) (i : Int) (k : Nat) (ws : Array Value) (rs : Array Value) : List SFr := [frOf 21 Try.f21 [(0, prS off num), (1, fn31V), (6, ptr 2 (.l 0)), (7, slC k), (16, i64 (.o b)), (17, i64 (.o i))] gB_d0, frOf 18 Try.f18 [(1, ptr 1 (.l 0))] gB_d1]
noncomputable def gB_M (off : Nat) (num : Nat) (cs : Array Value) (ty : TypeId) (ok : Bool) (kF : Nat) (rF : Array Value) (b : Int) (i : Int) (k : Nat) (ws : Array Value) (rs : Array Value) : SMem := mkM 4 [(0, ⟨.raw cs, ty, false⟩), (1, ⟨.ls [prS' off num], 22, true⟩), (2, ⟨.op ws, 68, true⟩), (3, ⟨.pop rs, 4, true⟩)]
noncomputable def gB_n (off : Nat) (num : Nat) (cs : Array Value) (ty : TypeId) (ok : Bool) (kF : Nat) (rF : Array Value) (Q : Int → Int → Nat → Array Value → Array Value → Prop) (fs : List SFr) (m : SMem) : Prop := (match frNth fs 0 with | some f0 => (match frNth fs 1 with | some f1 => (match rdI f0 16 with | some b => (match rdI f0 17 with | some i => (match rdP f1 1 with | some p1 => (match rdP f0 6 with | some p2 => (match rdSI f0 7 with | some p3 => (match rdSN f0 7 with | some k => (match rdA m p2 with | some ws => (match rdA m p3 with | some rs => Q b i k ws rs ∧ subOk 1 [(1, p1), (2, p2), (3, p3)] (gB_F off num cs ty ok kF rF b i k ws rs) (gB_M off num cs ty ok kF rF b i k ws rs) fs m | none => False) | none => False) | none => False) | none => False) | none => False) | none => False) | none => False) | none => False) | none => False) | none => False)
noncomputable def sG_t (off : Nat) (num : Nat) (cs : Array Value) (ty : TypeId) (ok : Bool) (kF : Nat) (rF : Array Value) : Tree := run EG 8000 1 [callFr 18 Try.f18.ntmps [prS off num] (Try.f18.body.getD .skip)] (rawM cs ty)
noncomputable def sG_x (off : Nat) (num : Nat) (cs : Array Value) (ty : TypeId) (ok : Bool) (kF : Nat) (rF : Array Value) (QgA : Int → Int → Array Value → Prop) (fs : List SFr) (m : SMem) : Prop := gA_n off num cs ty ok kF rF QgA fs m
noncomputable def yA_t (off : Nat) (num : Nat) (cs : Array Value) (ty : TypeId) (ok : Bool) (kF : Nat) (rF : Array Value) (b : Int) (i : Int) (ws : Array Value) : Tree := stepT EG.go (run EG 1000) 1 (gA_F off num cs ty ok kF rF b i ws) (gA_M off num cs ty ok kF rF b i ws)
noncomputable def yA_x (off : Nat) (num : Nat) (cs : Array Value) (ty : TypeId) (ok : Bool) (kF : Nat) (rF : Array Value) (b : Int) (i : Int) (ws : Array Value) (QgB : Int → Int → Nat → Array Value → Array Value → Prop) (fs : List SFr) (m : SMem) : Prop := gB_n off num cs ty ok kF rF QgB fs m
noncomputable def yB_t (off : Nat) (num : Nat) (cs : Array Value) (ty : TypeId) (ok : Bool) (kF : Nat) (rF : Array Value) (b : Int) (i : Int) (k : Nat) (ws : Array Value) (rs : Array Value) : Tree := stepT EG.go (run EG 1000) 1 (gB_F off num cs ty ok kF rF b i k ws rs) (gB_M off num cs ty ok kF rF b i k ws rs)
noncomputable def yB_x (off : Nat) (num : Nat) (cs : Array Value) (ty : TypeId) (ok : Bool) (kF : Nat) (rF : Array Value) (b : Int) (i : Int) (k : Nat) (ws : Array Value) (rs : Array Value) (QgB : Int → Int → Nat → Array Value → Array Value → Prop) (fs : List SFr) (m : SMem) : Prop := gB_n off num cs ty ok kF rF QgB fs m
theorem gA_d0_ok (r : Nat → Option Nat) : TodoOk r gA_d0 gA_d0 := TodoOk.it (by kernel_rfl)
theorem gA_d1_ok (r : Nat → Option Nat) : TodoOk r gA_d1 gA_d1 := TodoOk.it (by kernel_rfl)
theorem gA_good {A : SV → SMem → Prop} {off : Nat} {num : Nat} {cs : Array Value} {ty : TypeId} {ok : Bool} {kF : Nat} {rF : Array Value} {Q : Int → Int → Array Value → Prop} {fs : List SFr} {m : SMem} (H : ∀ b i ws, Q b i ws → Good Try.prog A 1 (gA_F off num cs ty ok kF rF b i ws) (gA_M off num cs ty ok kF rF b i ws)) (hb : gA_n off num cs ty ok kF rF Q fs m) : Good Try.prog A 1 fs m := by
  unfold gA_n at hb
  split at hb
  rotate_left
  · exact hb.elim
  split at hb
  rotate_left
  · exact hb.elim
  split at hb
  rotate_left
  · exact hb.elim
  split at hb
  rotate_left
  · exact hb.elim
  split at hb
  rotate_left
  · exact hb.elim
  split at hb
  rotate_left
  · exact hb.elim
  split at hb
  rotate_left
  · exact hb.elim
  exact Good.of_sub hb.2 (H _ _ _ hb.1)
theorem gB_good {A : SV → SMem → Prop} {off : Nat} {num : Nat} {cs : Array Value} {ty : TypeId} {ok : Bool} {kF : Nat} {rF : Array Value} {Q : Int → Int → Nat → Array Value → Array Value → Prop} {fs : List SFr} {m : SMem} (H : ∀ b i k ws rs, Q b i k ws rs → Good Try.prog A 1 (gB_F off num cs ty ok kF rF b i k ws rs) (gB_M off num cs ty ok kF rF b i k ws rs)) (hb : gB_n off num cs ty ok kF rF Q fs m) : Good Try.prog A 1 fs m := by
  unfold gB_n at hb
  split at hb
  rotate_left
  · exact hb.elim
  split at hb
  rotate_left
  · exact hb.elim
  split at hb
  rotate_left
  · exact hb.elim
  split at hb
  rotate_left
  · exact hb.elim
  split at hb
  rotate_left
  · exact hb.elim
  split at hb
  rotate_left
  · exact hb.elim
  split at hb
  rotate_left
  · exact hb.elim
  split at hb
  rotate_left
  · exact hb.elim
  split at hb
  rotate_left
  · exact hb.elim
  split at hb
  rotate_left
  · exact hb.elim
  exact Good.of_sub hb.2 (H _ _ _ _ _ hb.1)
theorem sG_go {A : SV → SMem → Prop} {off : Nat} {num : Nat} {cs : Array Value} {ty : TypeId} {ok : Bool} {kF : Nat} {rF : Array Value} {QgA : Int → Int → Array Value → Prop} {fs : List SFr} {m : SMem} (hgA : ∀ b' i' ws', QgA b' i' ws' → Good Try.prog A 1 (gA_F off num cs ty ok kF rF b' i' ws') (gA_M off num cs ty ok kF rF b' i' ws')) (hb : sG_x off num cs ty ok kF rF QgA fs m) : Good Try.prog A 1 fs m := by
  unfold sG_x at hb
  exact gA_good hgA hb
theorem yA_go {A : SV → SMem → Prop} {off : Nat} {num : Nat} {cs : Array Value} {ty : TypeId} {ok : Bool} {kF : Nat} {rF : Array Value} {b : Int} {i : Int} {ws : Array Value} {QgB : Int → Int → Nat → Array Value → Array Value → Prop} {fs : List SFr} {m : SMem} (hgB : ∀ b' i' k' ws' rs', QgB b' i' k' ws' rs' → Good Try.prog A 1 (gB_F off num cs ty ok kF rF b' i' k' ws' rs') (gB_M off num cs ty ok kF rF b' i' k' ws' rs')) (hb : yA_x off num cs ty ok kF rF b i ws QgB fs m) : Good Try.prog A 1 fs m := by
  unfold yA_x at hb
  exact gB_good hgB hb
theorem yB_go {A : SV → SMem → Prop} {off : Nat} {num : Nat} {cs : Array Value} {ty : TypeId} {ok : Bool} {kF : Nat} {rF : Array Value} {b : Int} {i : Int} {k : Nat} {ws : Array Value} {rs : Array Value} {QgB : Int → Int → Nat → Array Value → Array Value → Prop} {fs : List SFr} {m : SMem} (hgB : ∀ b' i' k' ws' rs', QgB b' i' k' ws' rs' → Good Try.prog A 1 (gB_F off num cs ty ok kF rF b' i' k' ws' rs') (gB_M off num cs ty ok kF rF b' i' k' ws' rs')) (hb : yB_x off num cs ty ok kF rF b i k ws rs QgB fs m) : Good Try.prog A 1 fs m := by
  unfold yB_x at hb
  exact gB_good hgB hb
end Go.Proofs.Ytpohnmafnpnmeaa
/- Of flow: Loops: its states. -/
namespace Go.Proofs.Ytpohnmafnpnmeaa
set_option maxRecDepth 100000
theorem sG_vc (off : Nat) (num : Nat) (cs : Array Value) (ty : TypeId) (ok : Bool) (kF : Nat) (rF : Array Value) (QgA : Int → Int → Array Value → Prop) : (sG_t off num cs ty ok kF rF).vc ((boE ok kF rF)) (sG_x off num cs ty ok kF rF QgA) =
    ((InsOk cs off num ∧ True) ∧ ((!mayV cs off num) = true → ok = false ∧ (3 : Int) = (3 : Int)) ∧ ((!mayV cs off num) = false → (InsOk cs off num ∧ mayV cs off num = true ∧ (0 : Int) ≤ (0 : Int) ∧ (0 : Int) ≤ (↑num : Int) ∧ True) ∧ (Array.size (frW cs off num (0 : Int) (-1 : Int)) = (2 : Nat) ∧ Array.size (frW cs off num (0 : Int) (-1 : Int)) = (2 : Nat) ∧ True) ∧ QgA (ari BinOp.add IntKind.i64 (↑num : Int) (1 : Int)) (0 : Int) (frW cs off num (0 : Int) (-1 : Int)) ∧ CallKind.normal = CallKind.normal ∧ TodoOk (ren 1 [(1, 1), (2, 2)]) gA_d0 gA_d0 ∧ off = off ∧ num = num ∧ Fn.func (33 : Nat) = Fn.func (33 : Nat) ∧ Value.slice none (0 : Nat) (0 : Nat) = Value.slice none (0 : Nat) (0 : Nat) ∧ (0 : Int) = (0 : Int) ∧ ari BinOp.add IntKind.i64 (↑num : Int) (1 : Int) = ari BinOp.add IntKind.i64 (↑num : Int) (1 : Int) ∧ CallKind.normal = CallKind.normal ∧ TodoOk (ren 1 [(1, 1), (2, 2)]) gA_d1 gA_d1 ∧ ty = ty ∧ cs = cs ∧ (22 : TypeId) = (22 : Nat) ∧ off = off ∧ num = num ∧ (68 : TypeId) = (68 : Nat) ∧ frW cs off num (0 : Int) (-1 : Int) = frW cs off num (0 : Int) (-1 : Int) ∧ True)) := by kernel_rfl
theorem yA_vc (off : Nat) (num : Nat) (cs : Array Value) (ty : TypeId) (ok : Bool) (kF : Nat) (rF : Array Value) (b : Int) (i : Int) (ws : Array Value) (QgB : Int → Int → Nat → Array Value → Array Value → Prop) : (yA_t off num cs ty ok kF rF b i ws).vc ((boE ok kF rF)) (yA_x off num cs ty ok kF rF b i ws QgB) =
    ((decide (i < b) = true → (Array.size ws = (2 : Nat) ∧ True) ∧ (Array.size ws = (2 : Nat) ∧ True) ∧ (((0 : Int) ≤ ari BinOp.quo IntKind.i64 i (64 : Int) ∧ ari BinOp.quo IntKind.i64 i (64 : Int) < (2 : Int)) ∧ True) ∧ (IsInt IntKind.u64 ws ((0 : Nat) + Int.toNat (ari BinOp.quo IntKind.i64 i (64 : Int)) * 1) ∧ True) ∧ ((0 : Int) ≤ ari BinOp.rem IntKind.i64 i (64 : Int) ∧ True) ∧ (((ari BinOp.and IntKind.u64 (ari BinOp.shr IntKind.u64 (intAt ws ((0 : Nat) + Int.toNat (ari BinOp.quo IntKind.i64 i (64 : Int)) * 1)) (ari BinOp.rem IntKind.i64 i (64 : Int))) (1 : Int) == (1 : Int)) == true) = true → (InsOk cs off num ∧ mayV cs off num = true ∧ (0 : Int) ≤ i ∧ i ≤ (↑num : Int) ∧ True) ∧ (((0 : Int) ≤ ari BinOp.quo IntKind.i64 i (64 : Int) ∧ ari BinOp.quo IntKind.i64 i (64 : Int) < (2 : Int)) ∧ True) ∧ (IsInt IntKind.u64 (behW cs off num (Int.toNat i)) ((0 : Nat) + Int.toNat (ari BinOp.quo IntKind.i64 i (64 : Int)) * 1) ∧ True) ∧ ((0 : Int) ≤ ari BinOp.rem IntKind.i64 i (64 : Int) ∧ True) ∧ QgB b (ari BinOp.add IntKind.i64 i (1 : Int)) (1 : Nat) ws #[Value.bool (ari BinOp.and IntKind.u64 (ari BinOp.shr IntKind.u64 (intAt (behW cs off num (Int.toNat i)) ((0 : Nat) + Int.toNat (ari BinOp.quo IntKind.i64 i (64 : Int)) * 1)) (ari BinOp.rem IntKind.i64 i (64 : Int))) (1 : Int) == (1 : Int))] ∧ CallKind.normal = CallKind.normal ∧ TodoOk (ren 1 [(1, 1), (2, 2), (3, 7)]) gA_d0 gA_d0 ∧ off = off ∧ num = num ∧ Fn.func (33 : Nat) = Fn.func (33 : Nat) ∧ (1 : Nat) = (1 : Nat) ∧ ari BinOp.add IntKind.i64 i (1 : Int) = ari BinOp.add IntKind.i64 i (1 : Int) ∧ b = b ∧ CallKind.normal = CallKind.normal ∧ TodoOk (ren 1 [(1, 1), (2, 2), (3, 7)]) gA_d1 gA_d1 ∧ ty = ty ∧ cs = cs ∧ (22 : TypeId) = (22 : TypeId) ∧ off = off ∧ num = num ∧ (4 : TypeId) = (4 : Nat) ∧ #[Value.bool (ari BinOp.and IntKind.u64 (ari BinOp.shr IntKind.u64 (intAt (behW cs off num (Int.toNat i)) ((0 : Nat) + Int.toNat (ari BinOp.quo IntKind.i64 i (64 : Int)) * 1)) (ari BinOp.rem IntKind.i64 i (64 : Int))) (1 : Int) == (1 : Int))] = #[Value.bool (ari BinOp.and IntKind.u64 (ari BinOp.shr IntKind.u64 (intAt (behW cs off num (Int.toNat i)) ((0 : Nat) + Int.toNat (ari BinOp.quo IntKind.i64 i (64 : Int)) * 1)) (ari BinOp.rem IntKind.i64 i (64 : Int))) (1 : Int) == (1 : Int))] ∧ (68 : TypeId) = (68 : TypeId) ∧ ws = ws ∧ True) ∧ (((ari BinOp.and IntKind.u64 (ari BinOp.shr IntKind.u64 (intAt ws ((0 : Nat) + Int.toNat (ari BinOp.quo IntKind.i64 i (64 : Int)) * 1)) (ari BinOp.rem IntKind.i64 i (64 : Int))) (1 : Int) == (1 : Int)) == true) = false → QgB b (ari BinOp.add IntKind.i64 i (1 : Int)) (1 : Nat) ws #[Value.bool false] ∧ CallKind.normal = CallKind.normal ∧ TodoOk (ren 1 [(1, 1), (2, 2), (3, 6)]) gA_d0 gA_d0 ∧ off = off ∧ num = num ∧ Fn.func (33 : Nat) = Fn.func (33 : Nat) ∧ (1 : Nat) = (1 : Nat) ∧ ari BinOp.add IntKind.i64 i (1 : Int) = ari BinOp.add IntKind.i64 i (1 : Int) ∧ b = b ∧ CallKind.normal = CallKind.normal ∧ TodoOk (ren 1 [(1, 1), (2, 2), (3, 6)]) gA_d1 gA_d1 ∧ ty = ty ∧ cs = cs ∧ (22 : TypeId) = (22 : TypeId) ∧ off = off ∧ num = num ∧ (4 : TypeId) = (4 : Nat) ∧ #[Value.bool false] = #[Value.bool false] ∧ (68 : TypeId) = (68 : TypeId) ∧ ws = ws ∧ True)) ∧ (decide (i < b) = false → ok = false ∧ (0 : Int) = (3 : Int))) := by kernel_rfl
theorem yB_vc (off : Nat) (num : Nat) (cs : Array Value) (ty : TypeId) (ok : Bool) (kF : Nat) (rF : Array Value) (b : Int) (i : Int) (k : Nat) (ws : Array Value) (rs : Array Value) (QgB : Int → Int → Nat → Array Value → Array Value → Prop) : (yB_t off num cs ty ok kF rF b i k ws rs).vc ((boE ok kF rF)) (yB_x off num cs ty ok kF rF b i k ws rs QgB) =
    ((decide (i < b) = true → (Array.size ws = (2 : Nat) ∧ True) ∧ (Array.size ws = (2 : Nat) ∧ True) ∧ (((0 : Int) ≤ ari BinOp.quo IntKind.i64 i (64 : Int) ∧ ari BinOp.quo IntKind.i64 i (64 : Int) < (2 : Int)) ∧ True) ∧ (IsInt IntKind.u64 ws ((0 : Nat) + Int.toNat (ari BinOp.quo IntKind.i64 i (64 : Int)) * 1) ∧ True) ∧ ((0 : Int) ≤ ari BinOp.rem IntKind.i64 i (64 : Int) ∧ True) ∧ (((ari BinOp.and IntKind.u64 (ari BinOp.shr IntKind.u64 (intAt ws ((0 : Nat) + Int.toNat (ari BinOp.quo IntKind.i64 i (64 : Int)) * 1)) (ari BinOp.rem IntKind.i64 i (64 : Int))) (1 : Int) == (1 : Int)) == true) = true → (InsOk cs off num ∧ mayV cs off num = true ∧ (0 : Int) ≤ i ∧ i ≤ (↑num : Int) ∧ True) ∧ (((0 : Int) ≤ ari BinOp.quo IntKind.i64 i (64 : Int) ∧ ari BinOp.quo IntKind.i64 i (64 : Int) < (2 : Int)) ∧ True) ∧ (IsInt IntKind.u64 (behW cs off num (Int.toNat i)) ((0 : Nat) + Int.toNat (ari BinOp.quo IntKind.i64 i (64 : Int)) * 1) ∧ True) ∧ ((0 : Int) ≤ ari BinOp.rem IntKind.i64 i (64 : Int) ∧ True) ∧ (((k + 1) * 1 ≤ (140737488355328 : Nat) ∧ k + 1 ≤ (140737488355328 : Nat)) ∧ k * 1 = Array.size rs ∧ True) ∧ QgB b (ari BinOp.add IntKind.i64 i (1 : Int)) (k + 1) ws (rs ++ #[Value.bool (ari BinOp.and IntKind.u64 (ari BinOp.shr IntKind.u64 (intAt (behW cs off num (Int.toNat i)) ((0 : Nat) + Int.toNat (ari BinOp.quo IntKind.i64 i (64 : Int)) * 1)) (ari BinOp.rem IntKind.i64 i (64 : Int))) (1 : Int) == (1 : Int))]) ∧ CallKind.normal = CallKind.normal ∧ TodoOk (ren 1 [(1, 1), (2, 2), (3, 8)]) gA_d0 gA_d0 ∧ off = off ∧ num = num ∧ Fn.func (33 : Nat) = Fn.func (33 : Nat) ∧ k + 1 = k + 1 ∧ ari BinOp.add IntKind.i64 i (1 : Int) = ari BinOp.add IntKind.i64 i (1 : Int) ∧ b = b ∧ CallKind.normal = CallKind.normal ∧ TodoOk (ren 1 [(1, 1), (2, 2), (3, 8)]) gA_d1 gA_d1 ∧ ty = ty ∧ cs = cs ∧ (22 : TypeId) = (22 : TypeId) ∧ off = off ∧ num = num ∧ (4 : TypeId) = (4 : Nat) ∧ rs ++ #[Value.bool (ari BinOp.and IntKind.u64 (ari BinOp.shr IntKind.u64 (intAt (behW cs off num (Int.toNat i)) ((0 : Nat) + Int.toNat (ari BinOp.quo IntKind.i64 i (64 : Int)) * 1)) (ari BinOp.rem IntKind.i64 i (64 : Int))) (1 : Int) == (1 : Int))] = rs ++ #[Value.bool (ari BinOp.and IntKind.u64 (ari BinOp.shr IntKind.u64 (intAt (behW cs off num (Int.toNat i)) ((0 : Nat) + Int.toNat (ari BinOp.quo IntKind.i64 i (64 : Int)) * 1)) (ari BinOp.rem IntKind.i64 i (64 : Int))) (1 : Int) == (1 : Int))] ∧ (68 : TypeId) = (68 : TypeId) ∧ ws = ws ∧ True) ∧ (((ari BinOp.and IntKind.u64 (ari BinOp.shr IntKind.u64 (intAt ws ((0 : Nat) + Int.toNat (ari BinOp.quo IntKind.i64 i (64 : Int)) * 1)) (ari BinOp.rem IntKind.i64 i (64 : Int))) (1 : Int) == (1 : Int)) == true) = false → (((k + 1) * 1 ≤ (140737488355328 : Nat) ∧ k + 1 ≤ (140737488355328 : Nat)) ∧ k * 1 = Array.size rs ∧ True) ∧ QgB b (ari BinOp.add IntKind.i64 i (1 : Int)) (k + 1) ws (rs ++ #[Value.bool false]) ∧ CallKind.normal = CallKind.normal ∧ TodoOk (ren 1 [(1, 1), (2, 2), (3, 7)]) gA_d0 gA_d0 ∧ off = off ∧ num = num ∧ Fn.func (33 : Nat) = Fn.func (33 : Nat) ∧ k + 1 = k + 1 ∧ ari BinOp.add IntKind.i64 i (1 : Int) = ari BinOp.add IntKind.i64 i (1 : Int) ∧ b = b ∧ CallKind.normal = CallKind.normal ∧ TodoOk (ren 1 [(1, 1), (2, 2), (3, 7)]) gA_d1 gA_d1 ∧ ty = ty ∧ cs = cs ∧ (22 : TypeId) = (22 : TypeId) ∧ off = off ∧ num = num ∧ (4 : TypeId) = (4 : Nat) ∧ rs ++ #[Value.bool false] = rs ++ #[Value.bool false] ∧ (68 : TypeId) = (68 : TypeId) ∧ ws = ws ∧ True)) ∧ (decide (i < b) = false → ok = true ∧ kF = k ∧ (4 : TypeId) = (4 : TypeId) ∧ rF = rs ∧ True)) := by kernel_rfl
end Go.Proofs.Ytpohnmafnpnmeaa
/- Of flow: Loops. No condition. -/
namespace Go.Proofs.Ytpohnmafnpnmeaa
set_option linter.unusedSectionVars false
set_option maxRecDepth 100000
theorem EG_ok : EnvOk EG := EnvOk.with E0_ok _ _ conB_ok
def cycB (cs : Array Value) (off num i : Nat) : Bool := metB cs off num i && bitW (behW cs off num i) i
section
variable (off num : Nat) (cs : Array Value) (ty : TypeId) (hI : InsOk cs off num) (hM : mayV cs off num = true)
include hI hM
theorem gB_round : ∀ (K i : Nat), num + 1 - i < K → 1 ≤ i → i ≤ num + 1 → Good Try.prog (boE true (num + 1) (boL (cycB cs off num) (num + 1))) 1 (gB_F off num cs ty true (num + 1) (boL (cycB cs off num) (num + 1)) (num + 1 : Nat) i i (metW cs off num) (boL (cycB cs off num) i)) (gB_M off num cs ty true (num + 1) (boL (cycB cs off num) (num + 1)) (num + 1 : Nat) i i (metW cs off num) (boL (cycB cs off num) i)) := by
  have n64 := (mayV_iff.1 hM).1
  have hW : IsW (metW cs off num) := frW_ok (i := 0) hI hM (Nat.zero_le _)
  intro K
  induction K with
  | zero => intro i h; omega
  | succ K ih =>
    intro i hK h1 hi
    refine past_vc EG_ok 1000 (yB_vc off num cs ty true (num + 1) (boL (cycB cs off num) (num + 1)) (num + 1 : Nat) i i (metW cs off num) (boL (cycB cs off num) i)
      (fun b' i' k' ws' rs' => b' = (num + 1 : Nat) ∧ i' = (i + 1 : Nat) ∧ k' = i + 1 ∧ ws' = metW cs off num ∧ rs' = boL (cycB cs off num) (i + 1) ∧ i ≤ num)) ?_ (fun _ _ h => h)
      (fun fs m hb => yB_go (fun b' i' k' ws' rs' h => ?_) hb)
    · by_cases d : i ≤ num
      · have hV := behW_ok hI hM d
        rw [i64_add1 (show i < 1000 by omega), bitW_has hW (by omega), Int.toNat_natCast, bitW_has hV (by omega), quo64 (by omega), rem64, Int.toNat_natCast]
        have e1 : decide ((i : Int) < ((num + 1 : Nat) : Int)) = true := decide_eq_true (by omega)
        have w1 := hW.size
        have w2 : (0 : Int) ≤ ((i / 64 : Nat) : Int) ∧ ((i / 64 : Nat) : Int) < 2 := by omega
        have w3 : IsInt IntKind.u64 (metW cs off num) (0 + i / 64 * 1) := by rw [Nat.zero_add, Nat.mul_one]; exact hW.int _ (by omega)
        have w5 : IsInt IntKind.u64 (behW cs off num i) (0 + i / 64 * 1) := by rw [Nat.zero_add, Nat.mul_one]; exact hV.int _ (by omega)
        have w4 : (0 : Int) ≤ ((i % 64 : Nat) : Int) := by omega
        have w6 : (0 : Int) ≤ (i : Int) ∧ (i : Int) ≤ (num : Int) := by omega
        have c1 : (i + 1) * 1 ≤ 140737488355328 ∧ i + 1 ≤ 140737488355328 := by omega
        have c2 : i * 1 = (boL (cycB cs off num) i).size := by rw [boL_size]; omega
        cases cm : bitW (metW cs off num) i with
        | true =>
          have hm := boL_more (f := cycB cs off num) (i := i) (b := bitW (behW cs off num i) i) (by unfold cycB metB; rw [cm, Bool.true_and])
          rw [hm]
          simp only [e1, w1, w3, w4, w5, w6, c1, d, hI, hM, beqT, beqF, Bool.not_true, Bool.not_false, Bool.true_eq_false, Bool.false_eq_true, false_implies, true_implies, true_and, and_true, gA_d0_ok, gA_d1_ok]
          exact ⟨w2, w2, c2⟩
        | false =>
          have hm := boL_more (f := cycB cs off num) (i := i) (b := false) (by unfold cycB metB; rw [cm, Bool.false_and])
          rw [hm]
          simp only [e1, w1, w3, w4, w5, w6, c1, d, hI, hM, beqT, beqF, Bool.not_true, Bool.not_false, Bool.true_eq_false, Bool.false_eq_true, false_implies, true_implies, true_and, and_true, gA_d0_ok, gA_d1_ok]
          exact ⟨w2, c2⟩
      · have e1 : decide ((i : Int) < ((num + 1 : Nat) : Int)) = false := decide_eq_false (by omega)
        have ei : i = num + 1 := by omega
        simp only [e1, Bool.true_eq_false, Bool.false_eq_true, false_implies, true_implies, true_and, and_true]
        rw [ei]; exact ⟨rfl, rfl⟩
    · obtain ⟨rfl, rfl, rfl, rfl, rfl, h⟩ := h
      exact ih (i + 1) (by omega) (by omega) (by omega)
theorem cyc_yes : Good Try.prog (boE true (num + 1) (boL (cycB cs off num) (num + 1))) 1 [callFr 18 Try.f18.ntmps [prS off num] (Try.f18.body.getD .skip)] (rawM cs ty) := by
  have n64 := (mayV_iff.1 hM).1
  have hW : IsW (metW cs off num) := frW_ok (i := 0) hI hM (Nat.zero_le _)
  refine run_vc EG_ok 8000 (sG_vc off num cs ty true (num + 1) (boL (cycB cs off num) (num + 1)) (fun b' i' ws' => b' = (num + 1 : Nat) ∧ i' = (0 : Nat) ∧ ws' = metW cs off num)) ?_ (fun _ _ h => h)
    (fun fs m hb => sG_go (fun b' i' ws' h => ?_) hb)
  · have z1 : (frW cs off num (0 : Int) (-1)).size = 2 := hW.size
    have z2 : (0 : Int) ≤ (num : Int) := by omega
    rw [i64_add1 (show num < 1000 by omega)]
    simp only [hI, hM, z1, z2, Bool.not_true, Bool.true_eq_false, Bool.false_eq_true, false_implies, true_implies, true_and, and_true, gA_d0_ok, gA_d1_ok]
    exact ⟨Int.le_refl _, rfl, rfl⟩
  · obtain ⟨rfl, rfl, rfl⟩ := h
    refine past_vc EG_ok 1000 (yA_vc off num cs ty true (num + 1) (boL (cycB cs off num) (num + 1)) (num + 1 : Nat) (0 : Nat) (metW cs off num)
      (fun b' i' k' ws' rs' => b' = (num + 1 : Nat) ∧ i' = (1 : Nat) ∧ k' = 1 ∧ ws' = metW cs off num ∧ rs' = boL (cycB cs off num) 1)) ?_ (fun _ _ h => h)
      (fun fs m hb => yA_go (fun b' i' k' ws' rs' h => ?_) hb)
    · have hV := behW_ok hI hM (Nat.zero_le num)
      rw [i64_add1 (show 0 < 1000 by omega), bitW_has hW (by omega), Int.toNat_natCast, bitW_has hV (by omega), quo64 (by omega), rem64, Int.toNat_natCast]
      have e1 : decide (((0 : Nat) : Int) < ((num + 1 : Nat) : Int)) = true := decide_eq_true (by omega)
      have w1 := hW.size
      have w2 : (0 : Int) ≤ ((0 / 64 : Nat) : Int) ∧ ((0 / 64 : Nat) : Int) < 2 := by omega
      have w3 : IsInt IntKind.u64 (metW cs off num) (0 + 0 / 64 * 1) := hW.int 0 (by omega)
      have w5 : IsInt IntKind.u64 (behW cs off num 0) (0 + 0 / 64 * 1) := hV.int 0 (by omega)
      have w4 : (0 : Int) ≤ ((0 % 64 : Nat) : Int) := by omega
      have w6 : (0 : Int) ≤ ((0 : Nat) : Int) ∧ ((0 : Nat) : Int) ≤ (num : Int) := by omega
      cases cm : bitW (metW cs off num) 0 with
      | true =>
        have hm : #[Value.bool (bitW (behW cs off num 0) 0)] = boL (cycB cs off num) 1 := boL_more (f := cycB cs off num) (i := 0) (b := bitW (behW cs off num 0) 0) (by unfold cycB metB; rw [cm, Bool.true_and])
        rw [hm]
        repeat' first | exact trivial | exact e1 | exact w2 | exact w3 | exact w5 | exact w4 | exact w1 | exact hI | exact hM | exact w6.1 | exact w6.2 | exact w2.1 | exact w2.2 | exact gA_d0_ok _ | exact gA_d1_ok _ | apply And.intro | exact rfl | (intro hh; first | (exact absurd hh (by rw [e1]; decide)) | (exact absurd hh (by decide)) | skip)
      | false =>
        have hm : #[Value.bool false] = boL (cycB cs off num) 1 := boL_more (f := cycB cs off num) (i := 0) (b := false) (by unfold cycB metB; rw [cm, Bool.false_and])
        rw [hm]
        repeat' first | exact trivial | exact e1 | exact w2 | exact w3 | exact w5 | exact w4 | exact w1 | exact hI | exact hM | exact w6.1 | exact w6.2 | exact w2.1 | exact w2.2 | exact gA_d0_ok _ | exact gA_d1_ok _ | apply And.intro | exact rfl | (intro hh; first | (exact absurd hh (by rw [e1]; decide)) | (exact absurd hh (by decide)) | skip)
    · obtain ⟨rfl, rfl, rfl, rfl, rfl⟩ := h
      exact gB_round off num cs ty hI hM (num + 2) 1 (by omega) (by omega) (by omega)
end
theorem cyc_no (off num : Nat) (cs : Array Value) (ty : TypeId) (hI : InsOk cs off num) (hM : mayV cs off num = false) : Good Try.prog (boE false 0 #[]) 1 [callFr 18 Try.f18.ntmps [prS off num] (Try.f18.body.getD .skip)] (rawM cs ty) := by
  refine run_vc EG_ok 8000 (sG_vc off num cs ty false 0 #[] (fun _ _ _ => False)) ?_ (fun _ _ h => h) (fun fs m hb => sG_go (fun _ _ _ h => h.elim) hb)
  simp only [hI, hM, Bool.not_false, Bool.true_eq_false, Bool.false_eq_true, false_implies, true_implies, true_and, and_true]
end Go.Proofs.Ytpohnmafnpnmeaa
/- Of flow: Reached and Loops, as contracts. No condition. -/
namespace Go.Proofs.Ytpohnmafnpnmeaa
set_option linter.unusedSectionVars false
set_option maxRecDepth 100000
theorem Good.boE {k : Nat} {rs : Array Value} {fs : List SFr} {m : SMem} (h : Good Try.prog (boE true k rs) 1 fs m) : Good Try.prog (fun s m' => s = .tup [.c (.f (.slice 1 (.l 0) (.o k) .any)), .c (.f (.int .i64 (.l 0)))] ∧ m' = ⟨2, Tr.nil.set 1 (some ⟨.pop rs, 4, true⟩), []⟩) 1 fs m := by
  refine Good.retX (Good.mono h ?_)
  intro s m h
  unfold Go.Proofs.Ytpohnmafnpnmeaa.boE at h
  split at h
  · cases h.1
  · exact ⟨_, h.2⟩
  · exact h.elim
noncomputable section
def slE (k : Nat) (j : Nat) : SV := .tup [.c (.f (.slice j (.l 0) (.o k) .any)), .c (.f (.int .i64 (.l 0)))]
def nilE : SV := .tup [.c (.f (.lit (.slice none 0 0))), .c (.f (.int .i64 (.l 3)))]
def eachT (f : Array Value → Nat → Nat → Nat → Bool) (m : SMem) : List SV → Option Tree
  | [.s (.c (.f (.slice i o n _)))] => match rawI m i with
    | some cs => some (needs [InsOk cs o.den n.den] (.br (mayV cs o.den n.den) (.ret (slE (n.den + 1) m.next) (m.new (.pop (boL (f cs o.den n.den) (n.den + 1))) 4)) (.ret nilE m)))
    | none => none
  | _ => none
def conE (g : FuncId) (l : List SV) (m : SMem) : Option Tree := match g, l with
  | 8, l => eachT metB m l
  | 18, l => eachT cycB m l
  | g, l => conB g l m
end
theorem fn12 : E0.fn 8 = some Try.f8 := by kernel_rfl
theorem body12 : Try.f8.body = some (Try.f8.body.getD .skip) := by kernel_rfl
theorem fn15 : E0.fn 18 = some Try.f18 := by kernel_rfl
theorem body15 : Try.f18.body = some (Try.f18.body.getD .skip) := by kernel_rfl
theorem nilE_ok {k : Nat} {rs : Array Value} {s : SV} {m' : SMem} {R R' : Ren} {v : Value} (h : boE false k rs s m') (hv : s.ok R' v) : nilE.ok R v := by
  unfold boE at h
  split at h
  · rename_i e
    obtain ⟨vs, rfl, hv⟩ := hv
    refine ⟨vs, rfl, ?_⟩
    revert hv
    generalize vs.toList = l
    intro hv
    match l, hv with
    | [x, y], ⟨h1, h2, _⟩ =>
      refine ⟨h1, ?_, trivial⟩
      have h2 : y = .int .i64 e.den := h2
      rw [h2, h.2]; rfl
  · cases h.1
  · exact h.elim
theorem eachT_ok {f : Array Value → Nat → Nat → Nat → Bool} {g : FuncId} {fn : Func} {c : Code} (h1 : E0.fn g = some fn) (h2 : fn.body = some c)
    (hy : ∀ off num cs ty, InsOk cs off num → mayV cs off num = true → Good Try.prog (boE true (num + 1) (boL (f cs off num) (num + 1))) 1 [callFr g fn.ntmps [prS off num] c] (rawM cs ty))
    (hno : ∀ off num cs ty, InsOk cs off num → mayV cs off num = false → Good Try.prog (boE false 0 #[]) 1 [callFr g fn.ntmps [prS off num] c] (rawM cs ty))
    {m : SMem} {l : List SV} {t : Tree} (h : eachT f m l = some t) : Con E0 g l m t := by
  unfold eachT at h
  split at h
  · rename_i i o n cap
    split at h
    · rename_i cs e
      cases h
      obtain ⟨ty, wr, hb⟩ := rawI_of e
      refine Con.br (fun hm => ?_) (fun hm => ?_)
      · exact Con.made (v := true) (S := slE (n.den + 1)) (l := []) (l' := []) h1 h2 hb nil_args (fun hq => Good.boE (hy o.den n.den cs ty (hq _ (by simp)) hm)) (fun f => rfl)
      · exact Con.rawN h1 h2 e (l := []) (l' := []) (A := boE false 0 #[]) nil_args (fun ty hq => hno o.den n.den cs ty (hq _ (by simp)) hm) (fun _ _ _ _ _ h hv => nilE_ok h hv)
    · cases h
  · cases h
theorem conE_ok (g : FuncId) (l : List SV) (m : SMem) (t : Tree) (h : conE g l m = some t) : Con E0 g l m t := by
  unfold conE at h
  split at h
  · exact eachT_ok fn12 body12 (fun off num cs ty hI hM => reach_yes off num cs ty hI hM) (fun off num cs ty hI hM => reach_no off num cs ty hI hM) h
  · exact eachT_ok fn15 body15 (fun off num cs ty hI hM => cyc_yes off num cs ty hI hM) (fun off num cs ty hI hM => cyc_no off num cs ty hI hM) h
  · exact conB_ok _ _ _ _ h
end Go.Proofs.Ytpohnmafnpnmeaa
/- Of flow: Trim: what a row of chosen places is. No condition. -/
namespace Go.Proofs.Ytpohnmafnpnmeaa
set_option maxRecDepth 100000
def cnt (f : Nat → Bool) : Nat → Nat
  | 0 => 0
  | i + 1 => cnt f i + (if f i = true then 1 else 0)
theorem cnt_yes {f : Nat → Bool} {i : Nat} (h : f i = true) : cnt f (i + 1) = cnt f i + 1 := by show _ + _ = _; rw [if_pos h]
theorem cnt_no {f : Nat → Bool} {i : Nat} (h : f i = false) : cnt f (i + 1) = cnt f i := by show _ + _ = _; rw [if_neg (by rw [h]; decide), Nat.add_zero]
theorem cnt_le (f : Nat → Bool) : ∀ i, cnt f i ≤ i
  | 0 => Nat.le_refl _
  | i + 1 => by have := cnt_le f i; show cnt f i + _ ≤ _; split <;> omega
theorem cnt_mono (f : Nat → Bool) {i j : Nat} (h : i ≤ j) : cnt f i ≤ cnt f j := by
  induction j with
  | zero => obtain rfl : i = 0 := by omega
            exact Nat.le_refl _
  | succ j ih =>
    by_cases e : i = j + 1
    · rw [e]; exact Nat.le_refl _
    · have := ih (by omega); show _ ≤ cnt f j + _; omega
theorem cnt_lt {f : Nat → Bool} {i j : Nat} (h : f i = true) (hj : i < j) : cnt f i < cnt f j := by
  have h1 := cnt_mono f (show i + 1 ≤ j from hj)
  rw [cnt_yes h] at h1; omega
theorem cnt_inj {f : Nat → Bool} {i j : Nat} (hi : f i = true) (hj : f j = true) (h : cnt f i = cnt f j) : i = j := by
  rcases Nat.lt_trichotomy i j with e | e | e
  · have := cnt_lt hi e; omega
  · exact e
  · have := cnt_lt hj e; omega
theorem cnt_sur {f : Nat → Bool} : ∀ {n k : Nat}, k < cnt f n → ∃ i, i < n ∧ f i = true ∧ cnt f i = k
  | 0, k, h => absurd h (Nat.not_lt_zero _)
  | n + 1, k, h => by
    by_cases e : k < cnt f n
    · obtain ⟨i, h1, h2, h3⟩ := cnt_sur e
      exact ⟨i, by omega, h2, h3⟩
    · cases hf : f n with
      | true => rw [cnt_yes hf] at h; exact ⟨n, by omega, hf, by omega⟩
      | false => rw [cnt_no hf] at h; omega
def grow (f : Nat → Bool) (g : Nat → List Value) : Nat → List Value
  | 0 => []
  | i + 1 => if f i = true then grow f g i ++ g i else grow f g i
theorem grow_yes {f : Nat → Bool} {g : Nat → List Value} {i : Nat} (h : f i = true) : grow f g (i + 1) = grow f g i ++ g i := if_pos h
theorem grow_no {f : Nat → Bool} {g : Nat → List Value} {i : Nat} (h : f i = false) : grow f g (i + 1) = grow f g i := if_neg (by rw [h]; decide)
theorem grow_len {f : Nat → Bool} {g : Nat → List Value} (hg : ∀ i, (g i).length = 5) : ∀ n, (grow f g n).length = cnt f n * 5
  | 0 => rfl
  | n + 1 => by
    cases h : f n with
    | true => rw [grow_yes h, cnt_yes h, List.length_append, grow_len hg n, hg]; omega
    | false => rw [grow_no h, cnt_no h, grow_len hg n]
theorem grow_at {f : Nat → Bool} {g : Nat → List Value} (hg : ∀ i, (g i).length = 5) {i t : Nat} (hf : f i = true) (ht : t < 5) : ∀ {n : Nat}, i < n → (grow f g n)[cnt f i * 5 + t]? = (g i)[t]?
  | 0, h => absurd h (Nat.not_lt_zero _)
  | n + 1, h => by
    have hl := grow_len (f := f) hg n
    cases hn : f n with
    | true =>
      rw [grow_yes hn]
      by_cases e : i = n
      · subst e
        rw [List.getElem?_append_right (by omega), hl]
        congr 1; omega
      · have := cnt_lt hf (show i < n by omega)
        rw [List.getElem?_append_left (by omega)]
        exact grow_at hg hf ht (by omega)
    | false =>
      rw [grow_no hn]
      have e : i ≠ n := fun e => by rw [e, hn] at hf; cases hf
      exact grow_at hg hf ht (by omega)
theorem grow_ext {f : Nat → Bool} {g : Nat → List Value} (hg : ∀ i, (g i).length = 5) {n : Nat} {ts : Array Value} (hs : ts.size = cnt f n * 5) (h : ∀ i, i < n → f i = true → ∀ t, t < 5 → ts[cnt f i * 5 + t]? = (g i)[t]?) : ts = (grow f g n).toArray := by
  have hl := grow_len (f := f) hg n
  apply Array.ext
  · rw [hs, List.size_toArray, hl]
  intro p h1 h2
  obtain ⟨i, hi, hf, hc⟩ := cnt_sur (f := f) (n := n) (k := p / 5) (by omega)
  have e : cnt f i * 5 + p % 5 = p := by omega
  have a := h i hi hf (p % 5) (by omega)
  have b := grow_at hg hf (show p % 5 < 5 by omega) hi
  rw [e] at a b
  have : ts[p]? = ((grow f g n).toArray)[p]? := by rw [a, List.getElem?_toArray, b]
  rw [Array.getElem?_eq_getElem h1, Array.getElem?_eq_getElem h2] at this
  exact Option.some.inj this
theorem bo_at (f : Nat → Bool) {n i : Nat} (h : i < n) : IsBool (boL f n) (0 + i * 1) ∧ boolAt (boL f n) (0 + i * 1) = f i := ⟨isBo_of (boL_get f h), boolAt_of (boL_get f h)⟩
end Go.Proofs.Ytpohnmafnpnmeaa
/- Of flow: Longest: its recursion's states. No condition. -/
namespace Go.Proofs.Ytpohnmafnpnmeaa
set_option maxRecDepth 100000
noncomputable section
end
end Go.Proofs.Ytpohnmafnpnmeaa
/- Of flow: Longest: what it does, as propositions. No condition. -/
namespace Go.Proofs.Ytpohnmafnpnmeaa
set_option maxRecDepth 100000
end Go.Proofs.Ytpohnmafnpnmeaa
/- Of flow: the longest way, as mathematics. No condition. -/
namespace Go.Proofs.Ytpohnmafnpnmeaa
set_option linter.unusedSectionVars false
set_option maxRecDepth 100000
section
variable {off n : Nat} {cs : Array Value} (hI : InsOk cs off n) (hM : mayV cs off n = true)
include hI hM
theorem met_iff {i : Nat} : metB cs off n i = true ↔ Rch (toL cs off n) (-1) 0 i := frW_iff (i := 0) (s := -1) hI hM (Nat.zero_le _) i
theorem met_to {i b : Nat} (h : metB cs off n i = true) (hb : b ∈ toL cs off n i) : metB cs off n b = true := by
  rw [met_iff hI hM] at *
  exact .step h hb (by omega)
end
end Go.Proofs.Ytpohnmafnpnmeaa
/- Of flow: Longest: its recursion. No condition. -/
namespace Go.Proofs.Ytpohnmafnpnmeaa
set_option linter.unusedSectionVars false
set_option maxRecDepth 100000
end Go.Proofs.Ytpohnmafnpnmeaa
/- Of flow: Longest: a call of the function that calls itself, out of its states. No condition. -/
namespace Go.Proofs.Ytpohnmafnpnmeaa
set_option maxRecDepth 100000
section
variable (cs : Array Value) (ty : TypeId) (off n : Nat) (w : Array Value)
end
end Go.Proofs.Ytpohnmafnpnmeaa
/- Of flow: what the law of loops calls: their states. No condition. -/
namespace Go.Proofs.Ytpohnmafnpnmeaa
set_option linter.unusedVariables false
end Go.Proofs.Ytpohnmafnpnmeaa
/- Of flow: what the law of loops calls: their states. -/
namespace Go.Proofs.Ytpohnmafnpnmeaa
set_option maxRecDepth 100000
end Go.Proofs.Ytpohnmafnpnmeaa
/- Of flow: what the law of loops calls. No condition. -/
namespace Go.Proofs.Ytpohnmafnpnmeaa
set_option linter.unusedSectionVars false
set_option maxRecDepth 100000
end Go.Proofs.Ytpohnmafnpnmeaa
/- Of flow: Longest: its environment. No condition. -/
namespace Go.Proofs.Ytpohnmafnpnmeaa
set_option linter.unusedSectionVars false
set_option maxRecDepth 100000
noncomputable section
end
end Go.Proofs.Ytpohnmafnpnmeaa
/- Of flow: Longest. -/
namespace Go.Proofs.Ytpohnmafnpnmeaa
set_option maxRecDepth 100000
end Go.Proofs.Ytpohnmafnpnmeaa
/- Of flow: Longest, as a contract; and the reference's. No condition. -/
namespace Go.Proofs.Ytpohnmafnpnmeaa
set_option linter.unusedSectionVars false
set_option maxRecDepth 100000
noncomputable section
end
end Go.Proofs.Ytpohnmafnpnmeaa
/- Of flow: FlowRuns: how a task begins. No condition. -/
namespace Go.Proofs.Ytpohnmafnpnmeaa
set_option maxRecDepth 100000
noncomputable section
def cd (i k : Nat) : SC := .f (.slice i (.l 0) (.o k) .any)
def zRegs : List SC := cI .i64 (.l 0) :: List.replicate 8 (cI .u64 (.l 0))
def bgS (k : Nat) (j : Nat) : SV := .tup [.agg (.ls (cd j k :: zRegs)), .c (.f (.bool (.l true)))]
def bgN : SV := .tup [.agg (.ls (.f (.lit (.slice none 0 0)) :: zRegs)), .c (.f (.bool (.l false)))]
def bgR (k : Nat) (rs : Array Value) (s : SV) (m : SMem) : Prop := match s with
  | .tup [.agg (.ls (.f (.slice sid _ _ _) :: _)), _] => retOk 1 [(1, sid)] (bgS k 1) ⟨2, Tr.nil.set 1 (some ⟨.pop rs, 52, true⟩), []⟩ s m
  | _ => False
def bgO (s : SV) (_ : SMem) : Prop := match SV.same (fun _ => none) bgN s with
  | some q => allP q
  | none => False
def EBg : Env := ⟨Try.prog, fnOf, conA, fun _ _ _ => false⟩
end
end Go.Proofs.Ytpohnmafnpnmeaa
/- Of flow: how a task begins. -/
namespace Go.Proofs.Ytpohnmafnpnmeaa
set_option maxRecDepth 100000
theorem bg_vc (off num : Nat) (cs : Array Value) (ty : TypeId) (k : Nat) (rs : Array Value) : (run EBg 4000 1 [callFr 7 Try.f7.ntmps [prS off num] (Try.f7.body.getD .skip)] (rawM cs ty)).vc (bgR k rs) (fun _ _ => False) =
    ((InsOk cs off num ∧ True) ∧ (mayV cs off num = true → (ByteArray.size (encB cs off num) ≠ (0 : Nat) ∧ ByteArray.size (encB cs off num) < (9223372036854775807 : Nat) ∧ True) ∧ (decOk (encB cs off num) = true → k = sizeD (encB cs off num) ∧ (52 : TypeId) = (52 : TypeId) ∧ rs = rowD (encB cs off num) ∧ True) ∧ (decOk (encB cs off num) = false → False)) ∧ (mayV cs off num = false → False)) := by kernel_rfl
theorem bo_vc (off num : Nat) (cs : Array Value) (ty : TypeId) : (run EBg 4000 1 [callFr 7 Try.f7.ntmps [prS off num] (Try.f7.body.getD .skip)] (rawM cs ty)).vc bgO (fun _ _ => False) =
    ((InsOk cs off num ∧ True) ∧ (mayV cs off num = true → (ByteArray.size (encB cs off num) ≠ (0 : Nat) ∧ ByteArray.size (encB cs off num) < (9223372036854775807 : Nat) ∧ True) ∧ (decOk (encB cs off num) = true → False) ∧ (decOk (encB cs off num) = false → Value.slice none (0 : Nat) (0 : Nat) = Value.slice none (0 : Nat) (0 : Nat) ∧ True)) ∧ (mayV cs off num = false → Value.slice none (0 : Nat) (0 : Nat) = Value.slice none (0 : Nat) (0 : Nat) ∧ True)) := by kernel_rfl
end Go.Proofs.Ytpohnmafnpnmeaa
/- Of flow: how a task begins, as a contract. No condition. -/
namespace Go.Proofs.Ytpohnmafnpnmeaa
set_option linter.unusedSectionVars false
set_option maxRecDepth 100000
theorem EBg_ok : EnvOk EBg := EnvOk.with E0_ok _ _ conA_ok
def cod (cs : Array Value) (off num : Nat) : Array Value := rowD (encB cs off num)
theorem bg_good (off num : Nat) (cs : Array Value) (ty : TypeId) (hI : InsOk cs off num) (hM : mayV cs off num = true) (h0 : num ≠ 0) : Good Try.prog (bgR num (cod cs off num)) 1 [callFr 7 Try.f7.ntmps [prS off num] (Try.f7.body.getD .skip)] (rawM cs ty) := by
  refine run_vc EBg_ok 4000 (bg_vc off num cs ty num (cod cs off num)) ?_ (fun _ _ h => h) (fun _ _ h => h.elim)
  have n64 := (mayV_iff.1 hM).1
  have hd := enc_decOk hI hM
  have hs := encB_size cs off num
  have hk : sizeD (encB cs off num) = num := enc_div
  refine ⟨⟨hI, trivial⟩, fun _ => ⟨⟨by omega, by omega, trivial⟩, fun _ => ⟨hk.symm, rfl, rfl, trivial⟩, fun h => by rw [hd] at h; cases h⟩, fun h => by rw [hM] at h; cases h⟩
theorem bg_bad (off num : Nat) (cs : Array Value) (ty : TypeId) (hI : InsOk cs off num) (hM : mayV cs off num = false) : Good Try.prog bgO 1 [callFr 7 Try.f7.ntmps [prS off num] (Try.f7.body.getD .skip)] (rawM cs ty) := by
  refine run_vc EBg_ok 4000 (bo_vc off num cs ty) ?_ (fun _ _ h => h) (fun _ _ h => h.elim)
  exact ⟨⟨hI, trivial⟩, fun h => (by rw [hM] at h; cases h), fun _ => ⟨rfl, trivial⟩⟩
noncomputable section
def bgT (m : SMem) : List SV → Option Tree
  | [.s (.c (.f (.slice i o n _)))] => match rawI m i with
    | some cs => some (needs [InsOk cs o.den n.den, n.den ≠ 0] (.br (mayV cs o.den n.den) (.ret (bgS n.den m.next) (m.new (.pop (cod cs o.den n.den)) 52)) (.ret bgN m)))
    | none => none
  | _ => none
end
theorem fn7b : E0.fn 7 = some Try.f7 := by kernel_rfl
theorem body7b : Try.f7.body = some (Try.f7.body.getD .skip) := by kernel_rfl
theorem Good.bgR {k : Nat} {rs : Array Value} {fs : List SFr} {m : SMem} (h : Good Try.prog (bgR k rs) 1 fs m) : Good Try.prog (fun s m' => s = bgS k 1 ∧ m' = ⟨2, Tr.nil.set 1 (some ⟨.pop rs, 52, true⟩), []⟩) 1 fs m := by
  refine Good.retX (Good.mono h ?_)
  intro s m h
  unfold Go.Proofs.Ytpohnmafnpnmeaa.bgR at h
  split at h
  · exact ⟨_, h⟩
  · exact h.elim
theorem bgO_ok {s : SV} {m' : SMem} {R R' : Ren} {v : Value} (h : bgO s m') (hv : s.ok R' v) : bgN.ok R v := by
  have h : sameV bgN s := h
  exact sameV_ok h hv
theorem bgT_ok {m : SMem} {l : List SV} {t : Tree} (h : bgT m l = some t) : Con E0 7 l m t := by
  unfold bgT at h
  split at h
  · rename_i i o n cap
    split at h
    · rename_i cs e
      cases h
      obtain ⟨ty, wr, hb⟩ := rawI_of e
      refine Con.br (fun hm => ?_) (fun hm => ?_)
      · exact Con.made (v := true) (S := bgS n.den) (l := []) (l' := []) fn7b body7b hb nil_args (fun hq => Good.bgR (bg_good o.den n.den cs ty (hq _ (by simp)) hm (hq _ (by simp)))) (fun f => rfl)
      · exact Con.rawN fn7b body7b e (l := []) (l' := []) (A := bgO) nil_args (fun ty hq => bg_bad o.den n.den cs ty (hq _ (by simp)) hm) (fun _ _ _ _ _ h hv => bgO_ok h hv)
    · cases h
  · cases h
noncomputable section
end
end Go.Proofs.Ytpohnmafnpnmeaa
/- Of flow: FlowRuns: names of its states. No condition. -/
namespace Go.Proofs.Ytpohnmafnpnmeaa
noncomputable def boS (i n : Nat) : SV := .s (.c (.f (.slice i (.l 0) (.o n) .any)))
end Go.Proofs.Ytpohnmafnpnmeaa
/- Of flow: Trim: its states. No condition. -/
namespace Go.Proofs.Ytpohnmafnpnmeaa
set_option linter.unusedVariables false
noncomputable def tsS (i k : Nat) : SV := .s (.c (.f (.slice i (.l 0) (.o k) (.full 5))))
noncomputable def trE (ok : Bool) (k : Nat) (rs : Array Value) (s : SV) (m : SMem) : Prop := match s with
  | .tup [.c (.f (.slice sid _ _ _)), .c (.f (.int .i64 _))] => retOk 1 [(1, sid)] (.tup [.c (.f (.slice 1 (.l 0) (.o k) .any)), .c (.f (.int .i64 (.l 0)))]) ⟨2, Tr.nil.set 1 (some ⟨.pop rs, 52, true⟩), []⟩ s m
  | _ => False
noncomputable def ET : Env := ⟨Try.prog, fnOf, conE, haltAt [14007, 14014]⟩
noncomputable def tA_d0 : List SIt := sekF Try.f14 7
noncomputable def tA_F (off : Nat) (num : Nat) (cs : Array Value) (ty : TypeId) (kF : Nat) (rF : Array Value) (b : Int) (i : Int) (n : Nat) (bs : Array Value) (ns : Array Value) : List SFr := [frOf 14 Try.f14 [(0, prS off num), (4, boS 1 n), (6, ptr 2 (.l 0)), (7, nilV), (20, i64 (.o b)), (21, i64 (.o i))] tA_d0]
noncomputable def tA_M (off : Nat) (num : Nat) (cs : Array Value) (ty : TypeId) (kF : Nat) (rF : Array Value) (b : Int) (i : Int) (n : Nat) (bs : Array Value) (ns : Array Value) : SMem := mkM 3 [(0, ⟨.raw cs, ty, false⟩), (1, ⟨.pop bs, 4, true⟩), (2, ⟨.op ns, 78, true⟩)]
noncomputable def tA_n (off : Nat) (num : Nat) (cs : Array Value) (ty : TypeId) (kF : Nat) (rF : Array Value) (Q : Int → Int → Nat → Array Value → Array Value → Prop) (fs : List SFr) (m : SMem) : Prop := (match frNth fs 0 with | some f0 => (match rdI f0 20 with | some b => (match rdI f0 21 with | some i => (match rdSI f0 4 with | some p1 => (match rdSN f0 4 with | some n => (match rdP f0 6 with | some p2 => (match rdA m p1 with | some bs => (match rdA m p2 with | some ns => Q b i n bs ns ∧ subOk 1 [(1, p1), (2, p2)] (tA_F off num cs ty kF rF b i n bs ns) (tA_M off num cs ty kF rF b i n bs ns) fs m | none => False) | none => False) | none => False) | none => False) | none => False) | none => False) | none => False) | none => False)
noncomputable def tB_d0 : List SIt := sekF Try.f14 7
noncomputable def tB_F (off : Nat) (num : Nat) (cs : Array Value) (ty : TypeId) (kF : Nat) (rF : Array Value) (b : Int) (i : Int) (n : Nat) (k : Nat) (bs : Array Value) (ns : Array Value) (ts : Array Value) : List SFr := [frOf 14 Try.f14 [(0, prS off num), (4, boS 1 n), (6, ptr 2 (.l 0)), (7, tsS 3 k), (20, i64 (.o b)), (21, i64 (.o i))] tB_d0]
noncomputable def tB_M (off : Nat) (num : Nat) (cs : Array Value) (ty : TypeId) (kF : Nat) (rF : Array Value) (b : Int) (i : Int) (n : Nat) (k : Nat) (bs : Array Value) (ns : Array Value) (ts : Array Value) : SMem := mkM 4 [(0, ⟨.raw cs, ty, false⟩), (1, ⟨.pop bs, 4, true⟩), (2, ⟨.op ns, 78, true⟩), (3, ⟨.pop ts, 52, true⟩)]
noncomputable def tB_n (off : Nat) (num : Nat) (cs : Array Value) (ty : TypeId) (kF : Nat) (rF : Array Value) (Q : Int → Int → Nat → Nat → Array Value → Array Value → Array Value → Prop) (fs : List SFr) (m : SMem) : Prop := (match frNth fs 0 with | some f0 => (match rdI f0 20 with | some b => (match rdI f0 21 with | some i => (match rdSI f0 4 with | some p1 => (match rdSN f0 4 with | some n => (match rdP f0 6 with | some p2 => (match rdSI f0 7 with | some p3 => (match rdSN f0 7 with | some k => (match rdA m p1 with | some bs => (match rdA m p2 with | some ns => (match rdA m p3 with | some ts => Q b i n k bs ns ts ∧ subOk 1 [(1, p1), (2, p2), (3, p3)] (tB_F off num cs ty kF rF b i n k bs ns ts) (tB_M off num cs ty kF rF b i n k bs ns ts) fs m | none => False) | none => False) | none => False) | none => False) | none => False) | none => False) | none => False) | none => False) | none => False) | none => False) | none => False)
noncomputable def tC_d0 : List SIt := sekF Try.f14 14
noncomputable def tC_F (off : Nat) (num : Nat) (cs : Array Value) (ty : TypeId) (kF : Nat) (rF : Array Value) (b : Int) (i : Int) (k : Nat) (ns : Array Value) (ts : Array Value) : List SFr := [frOf 14 Try.f14 [(6, ptr 1 (.l 0)), (7, tsS 2 k), (42, i64 (.o b)), (43, i64 (.o i))] tC_d0]
noncomputable def tC_M (off : Nat) (num : Nat) (cs : Array Value) (ty : TypeId) (kF : Nat) (rF : Array Value) (b : Int) (i : Int) (k : Nat) (ns : Array Value) (ts : Array Value) : SMem := mkM 3 [(0, ⟨.raw cs, ty, false⟩), (1, ⟨.op ns, 78, true⟩), (2, ⟨.pop ts, 52, true⟩)]
noncomputable def tC_n (off : Nat) (num : Nat) (cs : Array Value) (ty : TypeId) (kF : Nat) (rF : Array Value) (Q : Int → Int → Nat → Array Value → Array Value → Prop) (fs : List SFr) (m : SMem) : Prop := (match frNth fs 0 with | some f0 => (match rdI f0 42 with | some b => (match rdI f0 43 with | some i => (match rdP f0 6 with | some p1 => (match rdSI f0 7 with | some p2 => (match rdSN f0 7 with | some k => (match rdA m p1 with | some ns => (match rdA m p2 with | some ts => Q b i k ns ts ∧ subOk 1 [(1, p1), (2, p2)] (tC_F off num cs ty kF rF b i k ns ts) (tC_M off num cs ty kF rF b i k ns ts) fs m | none => False) | none => False) | none => False) | none => False) | none => False) | none => False) | none => False) | none => False)
noncomputable def sT_t (off : Nat) (num : Nat) (cs : Array Value) (ty : TypeId) (kF : Nat) (rF : Array Value) : Tree := run ET 8000 1 [callFr 14 Try.f14.ntmps [prS off num] (Try.f14.body.getD .skip)] (rawM cs ty)
noncomputable def sT_x (off : Nat) (num : Nat) (cs : Array Value) (ty : TypeId) (kF : Nat) (rF : Array Value) (QtA : Int → Int → Nat → Array Value → Array Value → Prop) (fs : List SFr) (m : SMem) : Prop := tA_n off num cs ty kF rF QtA fs m
noncomputable def jTA_t (off : Nat) (num : Nat) (cs : Array Value) (ty : TypeId) (kF : Nat) (rF : Array Value) (b : Int) (i : Int) (n : Nat) (bs : Array Value) (ns : Array Value) : Tree := stepT ET.go (run ET 1000) 1 (tA_F off num cs ty kF rF b i n bs ns) (tA_M off num cs ty kF rF b i n bs ns)
noncomputable def jTA_x (off : Nat) (num : Nat) (cs : Array Value) (ty : TypeId) (kF : Nat) (rF : Array Value) (b : Int) (i : Int) (n : Nat) (bs : Array Value) (ns : Array Value) (QtB : Int → Int → Nat → Nat → Array Value → Array Value → Array Value → Prop) (fs : List SFr) (m : SMem) : Prop := tB_n off num cs ty kF rF QtB fs m
noncomputable def jTB_t (off : Nat) (num : Nat) (cs : Array Value) (ty : TypeId) (kF : Nat) (rF : Array Value) (b : Int) (i : Int) (n : Nat) (k : Nat) (bs : Array Value) (ns : Array Value) (ts : Array Value) : Tree := stepT ET.go (run ET 1000) 1 (tB_F off num cs ty kF rF b i n k bs ns ts) (tB_M off num cs ty kF rF b i n k bs ns ts)
noncomputable def jTB_x (off : Nat) (num : Nat) (cs : Array Value) (ty : TypeId) (kF : Nat) (rF : Array Value) (b : Int) (i : Int) (n : Nat) (k : Nat) (bs : Array Value) (ns : Array Value) (ts : Array Value) (QtB : Int → Int → Nat → Nat → Array Value → Array Value → Array Value → Prop) (QtC : Int → Int → Nat → Array Value → Array Value → Prop) (fs : List SFr) (m : SMem) : Prop := (match Nat.beq (atR fs) 14007 with | true => tB_n off num cs ty kF rF QtB fs m | false => tC_n off num cs ty kF rF QtC fs m)
noncomputable def jTC_t (off : Nat) (num : Nat) (cs : Array Value) (ty : TypeId) (kF : Nat) (rF : Array Value) (b : Int) (i : Int) (k : Nat) (ns : Array Value) (ts : Array Value) : Tree := stepT ET.go (run ET 1000) 1 (tC_F off num cs ty kF rF b i k ns ts) (tC_M off num cs ty kF rF b i k ns ts)
noncomputable def jTC_x (off : Nat) (num : Nat) (cs : Array Value) (ty : TypeId) (kF : Nat) (rF : Array Value) (b : Int) (i : Int) (k : Nat) (ns : Array Value) (ts : Array Value) (QtC : Int → Int → Nat → Array Value → Array Value → Prop) (fs : List SFr) (m : SMem) : Prop := tC_n off num cs ty kF rF QtC fs m
theorem tA_d0_ok (r : Nat → Option Nat) : TodoOk r tA_d0 tA_d0 := TodoOk.it (by kernel_rfl)
theorem tB_d0_ok (r : Nat → Option Nat) : TodoOk r tB_d0 tB_d0 := TodoOk.it (by kernel_rfl)
theorem tC_d0_ok (r : Nat → Option Nat) : TodoOk r tC_d0 tC_d0 := TodoOk.it (by kernel_rfl)
theorem tA_good {A : SV → SMem → Prop} {off : Nat} {num : Nat} {cs : Array Value} {ty : TypeId} {kF : Nat} {rF : Array Value} {Q : Int → Int → Nat → Array Value → Array Value → Prop} {fs : List SFr} {m : SMem} (H : ∀ b i n bs ns, Q b i n bs ns → Good Try.prog A 1 (tA_F off num cs ty kF rF b i n bs ns) (tA_M off num cs ty kF rF b i n bs ns)) (hb : tA_n off num cs ty kF rF Q fs m) : Good Try.prog A 1 fs m := by
  unfold tA_n at hb
  split at hb
  rotate_left
  · exact hb.elim
  split at hb
  rotate_left
  · exact hb.elim
  split at hb
  rotate_left
  · exact hb.elim
  split at hb
  rotate_left
  · exact hb.elim
  split at hb
  rotate_left
  · exact hb.elim
  split at hb
  rotate_left
  · exact hb.elim
  split at hb
  rotate_left
  · exact hb.elim
  split at hb
  rotate_left
  · exact hb.elim
  exact Good.of_sub hb.2 (H _ _ _ _ _ hb.1)
theorem tB_good {A : SV → SMem → Prop} {off : Nat} {num : Nat} {cs : Array Value} {ty : TypeId} {kF : Nat} {rF : Array Value} {Q : Int → Int → Nat → Nat → Array Value → Array Value → Array Value → Prop} {fs : List SFr} {m : SMem} (H : ∀ b i n k bs ns ts, Q b i n k bs ns ts → Good Try.prog A 1 (tB_F off num cs ty kF rF b i n k bs ns ts) (tB_M off num cs ty kF rF b i n k bs ns ts)) (hb : tB_n off num cs ty kF rF Q fs m) : Good Try.prog A 1 fs m := by
  unfold tB_n at hb
  split at hb
  rotate_left
  · exact hb.elim
  split at hb
  rotate_left
  · exact hb.elim
  split at hb
  rotate_left
  · exact hb.elim
  split at hb
  rotate_left
  · exact hb.elim
  split at hb
  rotate_left
  · exact hb.elim
  split at hb
  rotate_left
  · exact hb.elim
  split at hb
  rotate_left
  · exact hb.elim
  split at hb
  rotate_left
  · exact hb.elim
  split at hb
  rotate_left
  · exact hb.elim
  split at hb
  rotate_left
  · exact hb.elim
  split at hb
  rotate_left
  · exact hb.elim
  exact Good.of_sub hb.2 (H _ _ _ _ _ _ _ hb.1)
theorem tC_good {A : SV → SMem → Prop} {off : Nat} {num : Nat} {cs : Array Value} {ty : TypeId} {kF : Nat} {rF : Array Value} {Q : Int → Int → Nat → Array Value → Array Value → Prop} {fs : List SFr} {m : SMem} (H : ∀ b i k ns ts, Q b i k ns ts → Good Try.prog A 1 (tC_F off num cs ty kF rF b i k ns ts) (tC_M off num cs ty kF rF b i k ns ts)) (hb : tC_n off num cs ty kF rF Q fs m) : Good Try.prog A 1 fs m := by
  unfold tC_n at hb
  split at hb
  rotate_left
  · exact hb.elim
  split at hb
  rotate_left
  · exact hb.elim
  split at hb
  rotate_left
  · exact hb.elim
  split at hb
  rotate_left
  · exact hb.elim
  split at hb
  rotate_left
  · exact hb.elim
  split at hb
  rotate_left
  · exact hb.elim
  split at hb
  rotate_left
  · exact hb.elim
  split at hb
  rotate_left
  · exact hb.elim
  exact Good.of_sub hb.2 (H _ _ _ _ _ hb.1)
theorem sT_go {A : SV → SMem → Prop} {off : Nat} {num : Nat} {cs : Array Value} {ty : TypeId} {kF : Nat} {rF : Array Value} {QtA : Int → Int → Nat → Array Value → Array Value → Prop} {fs : List SFr} {m : SMem} (htA : ∀ b' i' n' bs' ns', QtA b' i' n' bs' ns' → Good Try.prog A 1 (tA_F off num cs ty kF rF b' i' n' bs' ns') (tA_M off num cs ty kF rF b' i' n' bs' ns')) (hb : sT_x off num cs ty kF rF QtA fs m) : Good Try.prog A 1 fs m := by
  unfold sT_x at hb
  exact tA_good htA hb
theorem jTA_go {A : SV → SMem → Prop} {off : Nat} {num : Nat} {cs : Array Value} {ty : TypeId} {kF : Nat} {rF : Array Value} {b : Int} {i : Int} {n : Nat} {bs : Array Value} {ns : Array Value} {QtB : Int → Int → Nat → Nat → Array Value → Array Value → Array Value → Prop} {fs : List SFr} {m : SMem} (htB : ∀ b' i' n' k' bs' ns' ts', QtB b' i' n' k' bs' ns' ts' → Good Try.prog A 1 (tB_F off num cs ty kF rF b' i' n' k' bs' ns' ts') (tB_M off num cs ty kF rF b' i' n' k' bs' ns' ts')) (hb : jTA_x off num cs ty kF rF b i n bs ns QtB fs m) : Good Try.prog A 1 fs m := by
  unfold jTA_x at hb
  exact tB_good htB hb
theorem jTB_go {A : SV → SMem → Prop} {off : Nat} {num : Nat} {cs : Array Value} {ty : TypeId} {kF : Nat} {rF : Array Value} {b : Int} {i : Int} {n : Nat} {k : Nat} {bs : Array Value} {ns : Array Value} {ts : Array Value} {QtB : Int → Int → Nat → Nat → Array Value → Array Value → Array Value → Prop} {QtC : Int → Int → Nat → Array Value → Array Value → Prop} {fs : List SFr} {m : SMem} (htB : ∀ b' i' n' k' bs' ns' ts', QtB b' i' n' k' bs' ns' ts' → Good Try.prog A 1 (tB_F off num cs ty kF rF b' i' n' k' bs' ns' ts') (tB_M off num cs ty kF rF b' i' n' k' bs' ns' ts')) (htC : ∀ b' i' k' ns' ts', QtC b' i' k' ns' ts' → Good Try.prog A 1 (tC_F off num cs ty kF rF b' i' k' ns' ts') (tC_M off num cs ty kF rF b' i' k' ns' ts')) (hb : jTB_x off num cs ty kF rF b i n k bs ns ts QtB QtC fs m) : Good Try.prog A 1 fs m := by
  unfold jTB_x at hb
  split at hb
  · exact tB_good htB hb
  exact tC_good htC hb
theorem jTC_go {A : SV → SMem → Prop} {off : Nat} {num : Nat} {cs : Array Value} {ty : TypeId} {kF : Nat} {rF : Array Value} {b : Int} {i : Int} {k : Nat} {ns : Array Value} {ts : Array Value} {QtC : Int → Int → Nat → Array Value → Array Value → Prop} {fs : List SFr} {m : SMem} (htC : ∀ b' i' k' ns' ts', QtC b' i' k' ns' ts' → Good Try.prog A 1 (tC_F off num cs ty kF rF b' i' k' ns' ts') (tC_M off num cs ty kF rF b' i' k' ns' ts')) (hb : jTC_x off num cs ty kF rF b i k ns ts QtC fs m) : Good Try.prog A 1 fs m := by
  unfold jTC_x at hb
  exact tC_good htC hb
end Go.Proofs.Ytpohnmafnpnmeaa
/- Of flow: Trim: its states. -/
namespace Go.Proofs.Ytpohnmafnpnmeaa
set_option maxRecDepth 100000
theorem sT_vc (off : Nat) (num : Nat) (cs : Array Value) (ty : TypeId) (kF : Nat) (rF : Array Value) (QtA : Int → Int → Nat → Array Value → Array Value → Prop) : (sT_t off num cs ty kF rF).vc ((trE true kF rF)) (sT_x off num cs ty kF rF QtA) =
    ((InsOk cs off num ∧ True) ∧ (mayV cs off num = true → QtA (↑num : Int) (0 : Int) (num + 1) (boL (metB cs off num) (num + 1)) #[Value.int IntKind.u16 (0 : Int), Value.int IntKind.u16 (0 : Int), Value.int IntKind.u16 (0 : Int), Value.int IntKind.u16 (0 : Int), Value.int IntKind.u16 (0 : Int), Value.int IntKind.u16 (0 : Int), Value.int IntKind.u16 (0 : Int), Value.int IntKind.u16 (0 : Int), Value.int IntKind.u16 (0 : Int), Value.int IntKind.u16 (0 : Int), Value.int IntKind.u16 (0 : Int), Value.int IntKind.u16 (0 : Int), Value.int IntKind.u16 (0 : Int), Value.int IntKind.u16 (0 : Int), Value.int IntKind.u16 (0 : Int), Value.int IntKind.u16 (0 : Int), Value.int IntKind.u16 (0 : Int), Value.int IntKind.u16 (0 : Int), Value.int IntKind.u16 (0 : Int), Value.int IntKind.u16 (0 : Int), Value.int IntKind.u16 (0 : Int), Value.int IntKind.u16 (0 : Int), Value.int IntKind.u16 (0 : Int), Value.int IntKind.u16 (0 : Int), Value.int IntKind.u16 (0 : Int), Value.int IntKind.u16 (0 : Int), Value.int IntKind.u16 (0 : Int), Value.int IntKind.u16 (0 : Int), Value.int IntKind.u16 (0 : Int), Value.int IntKind.u16 (0 : Int), Value.int IntKind.u16 (0 : Int), Value.int IntKind.u16 (0 : Int), Value.int IntKind.u16 (0 : Int), Value.int IntKind.u16 (0 : Int), Value.int IntKind.u16 (0 : Int), Value.int IntKind.u16 (0 : Int), Value.int IntKind.u16 (0 : Int), Value.int IntKind.u16 (0 : Int), Value.int IntKind.u16 (0 : Int), Value.int IntKind.u16 (0 : Int), Value.int IntKind.u16 (0 : Int), Value.int IntKind.u16 (0 : Int), Value.int IntKind.u16 (0 : Int), Value.int IntKind.u16 (0 : Int), Value.int IntKind.u16 (0 : Int), Value.int IntKind.u16 (0 : Int), Value.int IntKind.u16 (0 : Int), Value.int IntKind.u16 (0 : Int), Value.int IntKind.u16 (0 : Int), Value.int IntKind.u16 (0 : Int), Value.int IntKind.u16 (0 : Int), Value.int IntKind.u16 (0 : Int), Value.int IntKind.u16 (0 : Int), Value.int IntKind.u16 (0 : Int), Value.int IntKind.u16 (0 : Int), Value.int IntKind.u16 (0 : Int), Value.int IntKind.u16 (0 : Int), Value.int IntKind.u16 (0 : Int), Value.int IntKind.u16 (0 : Int), Value.int IntKind.u16 (0 : Int), Value.int IntKind.u16 (0 : Int), Value.int IntKind.u16 (0 : Int), Value.int IntKind.u16 (0 : Int), Value.int IntKind.u16 (0 : Int)] ∧ CallKind.normal = CallKind.normal ∧ TodoOk (ren 1 [(1, 1), (2, 2)]) tA_d0 tA_d0 ∧ off = off ∧ num = num ∧ Value.slice none (0 : Nat) (0 : Nat) = Value.slice none (0 : Nat) (0 : Nat) ∧ (0 : Int) = (0 : Int) ∧ num + 1 = num + 1 ∧ (↑num : Int) = (↑num : Int) ∧ ty = ty ∧ cs = cs ∧ (4 : TypeId) = (4 : TypeId) ∧ boL (metB cs off num) (num + 1) = boL (metB cs off num) (num + 1) ∧ (78 : TypeId) = (78 : Nat) ∧ #[Value.int IntKind.u16 (0 : Int), Value.int IntKind.u16 (0 : Int), Value.int IntKind.u16 (0 : Int), Value.int IntKind.u16 (0 : Int), Value.int IntKind.u16 (0 : Int), Value.int IntKind.u16 (0 : Int), Value.int IntKind.u16 (0 : Int), Value.int IntKind.u16 (0 : Int), Value.int IntKind.u16 (0 : Int), Value.int IntKind.u16 (0 : Int), Value.int IntKind.u16 (0 : Int), Value.int IntKind.u16 (0 : Int), Value.int IntKind.u16 (0 : Int), Value.int IntKind.u16 (0 : Int), Value.int IntKind.u16 (0 : Int), Value.int IntKind.u16 (0 : Int), Value.int IntKind.u16 (0 : Int), Value.int IntKind.u16 (0 : Int), Value.int IntKind.u16 (0 : Int), Value.int IntKind.u16 (0 : Int), Value.int IntKind.u16 (0 : Int), Value.int IntKind.u16 (0 : Int), Value.int IntKind.u16 (0 : Int), Value.int IntKind.u16 (0 : Int), Value.int IntKind.u16 (0 : Int), Value.int IntKind.u16 (0 : Int), Value.int IntKind.u16 (0 : Int), Value.int IntKind.u16 (0 : Int), Value.int IntKind.u16 (0 : Int), Value.int IntKind.u16 (0 : Int), Value.int IntKind.u16 (0 : Int), Value.int IntKind.u16 (0 : Int), Value.int IntKind.u16 (0 : Int), Value.int IntKind.u16 (0 : Int), Value.int IntKind.u16 (0 : Int), Value.int IntKind.u16 (0 : Int), Value.int IntKind.u16 (0 : Int), Value.int IntKind.u16 (0 : Int), Value.int IntKind.u16 (0 : Int), Value.int IntKind.u16 (0 : Int), Value.int IntKind.u16 (0 : Int), Value.int IntKind.u16 (0 : Int), Value.int IntKind.u16 (0 : Int), Value.int IntKind.u16 (0 : Int), Value.int IntKind.u16 (0 : Int), Value.int IntKind.u16 (0 : Int), Value.int IntKind.u16 (0 : Int), Value.int IntKind.u16 (0 : Int), Value.int IntKind.u16 (0 : Int), Value.int IntKind.u16 (0 : Int), Value.int IntKind.u16 (0 : Int), Value.int IntKind.u16 (0 : Int), Value.int IntKind.u16 (0 : Int), Value.int IntKind.u16 (0 : Int), Value.int IntKind.u16 (0 : Int), Value.int IntKind.u16 (0 : Int), Value.int IntKind.u16 (0 : Int), Value.int IntKind.u16 (0 : Int), Value.int IntKind.u16 (0 : Int), Value.int IntKind.u16 (0 : Int), Value.int IntKind.u16 (0 : Int), Value.int IntKind.u16 (0 : Int), Value.int IntKind.u16 (0 : Int), Value.int IntKind.u16 (0 : Int)] = #[Value.int IntKind.u16 (0 : Int), Value.int IntKind.u16 (0 : Int), Value.int IntKind.u16 (0 : Int), Value.int IntKind.u16 (0 : Int), Value.int IntKind.u16 (0 : Int), Value.int IntKind.u16 (0 : Int), Value.int IntKind.u16 (0 : Int), Value.int IntKind.u16 (0 : Int), Value.int IntKind.u16 (0 : Int), Value.int IntKind.u16 (0 : Int), Value.int IntKind.u16 (0 : Int), Value.int IntKind.u16 (0 : Int), Value.int IntKind.u16 (0 : Int), Value.int IntKind.u16 (0 : Int), Value.int IntKind.u16 (0 : Int), Value.int IntKind.u16 (0 : Int), Value.int IntKind.u16 (0 : Int), Value.int IntKind.u16 (0 : Int), Value.int IntKind.u16 (0 : Int), Value.int IntKind.u16 (0 : Int), Value.int IntKind.u16 (0 : Int), Value.int IntKind.u16 (0 : Int), Value.int IntKind.u16 (0 : Int), Value.int IntKind.u16 (0 : Int), Value.int IntKind.u16 (0 : Int), Value.int IntKind.u16 (0 : Int), Value.int IntKind.u16 (0 : Int), Value.int IntKind.u16 (0 : Int), Value.int IntKind.u16 (0 : Int), Value.int IntKind.u16 (0 : Int), Value.int IntKind.u16 (0 : Int), Value.int IntKind.u16 (0 : Int), Value.int IntKind.u16 (0 : Int), Value.int IntKind.u16 (0 : Int), Value.int IntKind.u16 (0 : Int), Value.int IntKind.u16 (0 : Int), Value.int IntKind.u16 (0 : Int), Value.int IntKind.u16 (0 : Int), Value.int IntKind.u16 (0 : Int), Value.int IntKind.u16 (0 : Int), Value.int IntKind.u16 (0 : Int), Value.int IntKind.u16 (0 : Int), Value.int IntKind.u16 (0 : Int), Value.int IntKind.u16 (0 : Int), Value.int IntKind.u16 (0 : Int), Value.int IntKind.u16 (0 : Int), Value.int IntKind.u16 (0 : Int), Value.int IntKind.u16 (0 : Int), Value.int IntKind.u16 (0 : Int), Value.int IntKind.u16 (0 : Int), Value.int IntKind.u16 (0 : Int), Value.int IntKind.u16 (0 : Int), Value.int IntKind.u16 (0 : Int), Value.int IntKind.u16 (0 : Int), Value.int IntKind.u16 (0 : Int), Value.int IntKind.u16 (0 : Int), Value.int IntKind.u16 (0 : Int), Value.int IntKind.u16 (0 : Int), Value.int IntKind.u16 (0 : Int), Value.int IntKind.u16 (0 : Int), Value.int IntKind.u16 (0 : Int), Value.int IntKind.u16 (0 : Int), Value.int IntKind.u16 (0 : Int), Value.int IntKind.u16 (0 : Int)] ∧ True) ∧ (mayV cs off num = false → False)) := by kernel_rfl
theorem jTA_vc (off : Nat) (num : Nat) (cs : Array Value) (ty : TypeId) (kF : Nat) (rF : Array Value) (b : Int) (i : Int) (n : Nat) (bs : Array Value) (ns : Array Value) (QtB : Int → Int → Nat → Nat → Array Value → Array Value → Array Value → Prop) : (jTA_t off num cs ty kF rF b i n bs ns).vc ((trE true kF rF)) (jTA_x off num cs ty kF rF b i n bs ns QtB) =
    ((decide (i < b) = true → (((0 : Int) ≤ i ∧ i < (64 : Int)) ∧ True) ∧ ((0 : Nat) + Int.toNat i * 1 < Array.size ns ∧ True) ∧ (((0 : Int) ≤ i ∧ i < (↑n : Int)) ∧ True) ∧ (IsBool bs ((0 : Nat) + Int.toNat i * 1) ∧ True) ∧ (boolAt bs ((0 : Nat) + Int.toNat i * 1) = true → (((0 : Int) ≤ i ∧ i < (↑num : Int)) ∧ True) ∧ (IsInt IntKind.u8 cs (off + Int.toNat i * 5) ∧ IsInt IntKind.u8 cs (off + Int.toNat i * 5 + 1) ∧ IsInt IntKind.u8 cs (off + Int.toNat i * 5 + 2) ∧ IsInt IntKind.u8 cs (off + Int.toNat i * 5 + 3) ∧ IsInt IntKind.u16 cs (off + Int.toNat i * 5 + 4) ∧ True) ∧ QtB b (ari BinOp.add IntKind.i64 i (1 : Int)) n (1 : Nat) bs (Array.setIfInBounds ns ((0 : Nat) + Int.toNat i * 1) (Value.int IntKind.u16 (0 : Int))) #[Value.int IntKind.u8 (intAt cs (off + Int.toNat i * 5)), Value.int IntKind.u8 (intAt cs (off + Int.toNat i * 5 + 1)), Value.int IntKind.u8 (intAt cs (off + Int.toNat i * 5 + 2)), Value.int IntKind.u8 (intAt cs (off + Int.toNat i * 5 + 3)), Value.int IntKind.u16 (intAt cs (off + Int.toNat i * 5 + 4))] ∧ CallKind.normal = CallKind.normal ∧ TodoOk (ren 1 [(1, 1), (2, 2), (3, 4)]) tA_d0 tA_d0 ∧ off = off ∧ num = num ∧ (1 : Nat) = (1 : Nat) ∧ ari BinOp.add IntKind.i64 i (1 : Int) = ari BinOp.add IntKind.i64 i (1 : Int) ∧ n = n ∧ b = b ∧ ty = ty ∧ cs = cs ∧ (4 : TypeId) = (4 : TypeId) ∧ bs = bs ∧ (52 : TypeId) = (52 : Nat) ∧ #[Value.int IntKind.u8 (intAt cs (off + Int.toNat i * 5)), Value.int IntKind.u8 (intAt cs (off + Int.toNat i * 5 + 1)), Value.int IntKind.u8 (intAt cs (off + Int.toNat i * 5 + 2)), Value.int IntKind.u8 (intAt cs (off + Int.toNat i * 5 + 3)), Value.int IntKind.u16 (intAt cs (off + Int.toNat i * 5 + 4))] = #[Value.int IntKind.u8 (intAt cs (off + Int.toNat i * 5)), Value.int IntKind.u8 (intAt cs (off + Int.toNat i * 5 + 1)), Value.int IntKind.u8 (intAt cs (off + Int.toNat i * 5 + 2)), Value.int IntKind.u8 (intAt cs (off + Int.toNat i * 5 + 3)), Value.int IntKind.u16 (intAt cs (off + Int.toNat i * 5 + 4))] ∧ (78 : TypeId) = (78 : TypeId) ∧ Array.setIfInBounds ns ((0 : Nat) + Int.toNat i * 1) (Value.int IntKind.u16 (0 : Int)) = Array.setIfInBounds ns ((0 : Nat) + Int.toNat i * 1) (Value.int IntKind.u16 (0 : Int)) ∧ True) ∧ (boolAt bs ((0 : Nat) + Int.toNat i * 1) = false → False)) ∧ (decide (i < b) = false → False)) := by kernel_rfl
theorem jTB_vc (off : Nat) (num : Nat) (cs : Array Value) (ty : TypeId) (kF : Nat) (rF : Array Value) (b : Int) (i : Int) (n : Nat) (k : Nat) (bs : Array Value) (ns : Array Value) (ts : Array Value) (QtB : Int → Int → Nat → Nat → Array Value → Array Value → Array Value → Prop) (QtC : Int → Int → Nat → Array Value → Array Value → Prop) : (jTB_t off num cs ty kF rF b i n k bs ns ts).vc ((trE true kF rF)) (jTB_x off num cs ty kF rF b i n k bs ns ts QtB QtC) =
    ((decide (i < b) = true → (((0 : Int) ≤ i ∧ i < (64 : Int)) ∧ True) ∧ ((0 : Nat) + Int.toNat i * 1 < Array.size ns ∧ True) ∧ (((0 : Int) ≤ i ∧ i < (↑n : Int)) ∧ True) ∧ (IsBool bs ((0 : Nat) + Int.toNat i * 1) ∧ True) ∧ (boolAt bs ((0 : Nat) + Int.toNat i * 1) = true → (((0 : Int) ≤ i ∧ i < (↑num : Int)) ∧ True) ∧ (IsInt IntKind.u8 cs (off + Int.toNat i * 5) ∧ IsInt IntKind.u8 cs (off + Int.toNat i * 5 + 1) ∧ IsInt IntKind.u8 cs (off + Int.toNat i * 5 + 2) ∧ IsInt IntKind.u8 cs (off + Int.toNat i * 5 + 3) ∧ IsInt IntKind.u16 cs (off + Int.toNat i * 5 + 4) ∧ True) ∧ (((k + 1) * 6 ≤ (140737488355328 : Nat) ∧ k + 1 ≤ (140737488355328 : Nat)) ∧ k * 5 = Array.size ts ∧ True) ∧ QtB b (ari BinOp.add IntKind.i64 i (1 : Int)) n (k + 1) bs (Array.setIfInBounds ns ((0 : Nat) + Int.toNat i * 1) (Value.int IntKind.u16 (IntKind.wrap IntKind.u16 (↑k : Int)))) (ts ++ #[Value.int IntKind.u8 (intAt cs (off + Int.toNat i * 5)), Value.int IntKind.u8 (intAt cs (off + Int.toNat i * 5 + 1)), Value.int IntKind.u8 (intAt cs (off + Int.toNat i * 5 + 2)), Value.int IntKind.u8 (intAt cs (off + Int.toNat i * 5 + 3)), Value.int IntKind.u16 (intAt cs (off + Int.toNat i * 5 + 4))]) ∧ CallKind.normal = CallKind.normal ∧ TodoOk (ren 1 [(1, 1), (2, 2), (3, 5)]) tA_d0 tA_d0 ∧ off = off ∧ num = num ∧ k + 1 = k + 1 ∧ ari BinOp.add IntKind.i64 i (1 : Int) = ari BinOp.add IntKind.i64 i (1 : Int) ∧ n = n ∧ b = b ∧ ty = ty ∧ cs = cs ∧ (4 : TypeId) = (4 : TypeId) ∧ bs = bs ∧ (52 : TypeId) = (52 : Nat) ∧ ts ++ #[Value.int IntKind.u8 (intAt cs (off + Int.toNat i * 5)), Value.int IntKind.u8 (intAt cs (off + Int.toNat i * 5 + 1)), Value.int IntKind.u8 (intAt cs (off + Int.toNat i * 5 + 2)), Value.int IntKind.u8 (intAt cs (off + Int.toNat i * 5 + 3)), Value.int IntKind.u16 (intAt cs (off + Int.toNat i * 5 + 4))] = ts ++ #[Value.int IntKind.u8 (intAt cs (off + Int.toNat i * 5)), Value.int IntKind.u8 (intAt cs (off + Int.toNat i * 5 + 1)), Value.int IntKind.u8 (intAt cs (off + Int.toNat i * 5 + 2)), Value.int IntKind.u8 (intAt cs (off + Int.toNat i * 5 + 3)), Value.int IntKind.u16 (intAt cs (off + Int.toNat i * 5 + 4))] ∧ (78 : TypeId) = (78 : TypeId) ∧ Array.setIfInBounds ns ((0 : Nat) + Int.toNat i * 1) (Value.int IntKind.u16 (IntKind.wrap IntKind.u16 (↑k : Int))) = Array.setIfInBounds ns ((0 : Nat) + Int.toNat i * 1) (Value.int IntKind.u16 (IntKind.wrap IntKind.u16 (↑k : Int))) ∧ True) ∧ (boolAt bs ((0 : Nat) + Int.toNat i * 1) = false → QtB b (ari BinOp.add IntKind.i64 i (1 : Int)) n k bs (Array.setIfInBounds ns ((0 : Nat) + Int.toNat i * 1) (Value.int IntKind.u16 (IntKind.wrap IntKind.u16 (↑k : Int)))) ts ∧ CallKind.normal = CallKind.normal ∧ TodoOk (ren 1 [(1, 1), (2, 2), (3, 3)]) tA_d0 tA_d0 ∧ off = off ∧ num = num ∧ k = k ∧ ari BinOp.add IntKind.i64 i (1 : Int) = ari BinOp.add IntKind.i64 i (1 : Int) ∧ n = n ∧ b = b ∧ ty = ty ∧ cs = cs ∧ (4 : TypeId) = (4 : TypeId) ∧ bs = bs ∧ (52 : TypeId) = (52 : TypeId) ∧ ts = ts ∧ (78 : TypeId) = (78 : TypeId) ∧ Array.setIfInBounds ns ((0 : Nat) + Int.toNat i * 1) (Value.int IntKind.u16 (IntKind.wrap IntKind.u16 (↑k : Int))) = Array.setIfInBounds ns ((0 : Nat) + Int.toNat i * 1) (Value.int IntKind.u16 (IntKind.wrap IntKind.u16 (↑k : Int))) ∧ True)) ∧ (decide (i < b) = false → QtC (↑k : Int) (0 : Int) k ns ts ∧ CallKind.normal = CallKind.normal ∧ TodoOk (ren 1 [(1, 2), (2, 3)]) tC_d0 tC_d0 ∧ k = k ∧ (0 : Int) = (0 : Int) ∧ (↑k : Int) = (↑k : Int) ∧ ty = ty ∧ cs = cs ∧ (78 : TypeId) = (78 : TypeId) ∧ ns = ns ∧ (52 : TypeId) = (52 : TypeId) ∧ ts = ts ∧ True)) := by kernel_rfl
theorem jTC_vc (off : Nat) (num : Nat) (cs : Array Value) (ty : TypeId) (kF : Nat) (rF : Array Value) (b : Int) (i : Int) (k : Nat) (ns : Array Value) (ts : Array Value) (QtC : Int → Int → Nat → Array Value → Array Value → Prop) : (jTC_t off num cs ty kF rF b i k ns ts).vc ((trE true kF rF)) (jTC_x off num cs ty kF rF b i k ns ts QtC) =
    ((decide (i < b) = true → (((0 : Int) ≤ i ∧ i < (↑k : Int)) ∧ True) ∧ (IsInt IntKind.u8 ts ((0 : Nat) + Int.toNat i * 5) ∧ True) ∧ (((intAt ts ((0 : Nat) + Int.toNat i * 5) == (5 : Int)) == false) = true → (IsInt IntKind.u8 ts ((0 : Nat) + Int.toNat i * 5) ∧ True) ∧ ((intAt ts ((0 : Nat) + Int.toNat i * 5) == (6 : Int)) = true → (IsInt IntKind.u16 ts ((0 : Nat) + Int.toNat i * 5 + 4) ∧ True) ∧ (((0 : Int) ≤ intAt ts ((0 : Nat) + Int.toNat i * 5 + 4) ∧ intAt ts ((0 : Nat) + Int.toNat i * 5 + 4) < (64 : Int)) ∧ True) ∧ (IsInt IntKind.u16 ns ((0 : Nat) + Int.toNat (intAt ts ((0 : Nat) + Int.toNat i * 5 + 4)) * 1) ∧ True) ∧ ((0 : Nat) + Int.toNat i * 5 + 4 < Array.size ts ∧ True) ∧ QtC b (ari BinOp.add IntKind.i64 i (1 : Int)) k ns (Array.setIfInBounds ts ((0 : Nat) + Int.toNat i * 5 + 4) (Value.int IntKind.u16 (intAt ns ((0 : Nat) + Int.toNat (intAt ts ((0 : Nat) + Int.toNat i * 5 + 4)) * 1)))) ∧ CallKind.normal = CallKind.normal ∧ TodoOk (ren 1 [(1, 1), (2, 2)]) tC_d0 tC_d0 ∧ k = k ∧ ari BinOp.add IntKind.i64 i (1 : Int) = ari BinOp.add IntKind.i64 i (1 : Int) ∧ b = b ∧ ty = ty ∧ cs = cs ∧ (78 : TypeId) = (78 : TypeId) ∧ ns = ns ∧ (52 : TypeId) = (52 : TypeId) ∧ Array.setIfInBounds ts ((0 : Nat) + Int.toNat i * 5 + 4) (Value.int IntKind.u16 (intAt ns ((0 : Nat) + Int.toNat (intAt ts ((0 : Nat) + Int.toNat i * 5 + 4)) * 1))) = Array.setIfInBounds ts ((0 : Nat) + Int.toNat i * 5 + 4) (Value.int IntKind.u16 (intAt ns ((0 : Nat) + Int.toNat (intAt ts ((0 : Nat) + Int.toNat i * 5 + 4)) * 1))) ∧ True) ∧ ((intAt ts ((0 : Nat) + Int.toNat i * 5) == (6 : Int)) = false → QtC b (ari BinOp.add IntKind.i64 i (1 : Int)) k ns ts ∧ CallKind.normal = CallKind.normal ∧ TodoOk (ren 1 [(1, 1), (2, 2)]) tC_d0 tC_d0 ∧ k = k ∧ ari BinOp.add IntKind.i64 i (1 : Int) = ari BinOp.add IntKind.i64 i (1 : Int) ∧ b = b ∧ ty = ty ∧ cs = cs ∧ (78 : TypeId) = (78 : TypeId) ∧ ns = ns ∧ (52 : TypeId) = (52 : TypeId) ∧ ts = ts ∧ True)) ∧ (((intAt ts ((0 : Nat) + Int.toNat i * 5) == (5 : Int)) == false) = false → (IsInt IntKind.u16 ts ((0 : Nat) + Int.toNat i * 5 + 4) ∧ True) ∧ (((0 : Int) ≤ intAt ts ((0 : Nat) + Int.toNat i * 5 + 4) ∧ intAt ts ((0 : Nat) + Int.toNat i * 5 + 4) < (64 : Int)) ∧ True) ∧ (IsInt IntKind.u16 ns ((0 : Nat) + Int.toNat (intAt ts ((0 : Nat) + Int.toNat i * 5 + 4)) * 1) ∧ True) ∧ ((0 : Nat) + Int.toNat i * 5 + 4 < Array.size ts ∧ True) ∧ QtC b (ari BinOp.add IntKind.i64 i (1 : Int)) k ns (Array.setIfInBounds ts ((0 : Nat) + Int.toNat i * 5 + 4) (Value.int IntKind.u16 (intAt ns ((0 : Nat) + Int.toNat (intAt ts ((0 : Nat) + Int.toNat i * 5 + 4)) * 1)))) ∧ CallKind.normal = CallKind.normal ∧ TodoOk (ren 1 [(1, 1), (2, 2)]) tC_d0 tC_d0 ∧ k = k ∧ ari BinOp.add IntKind.i64 i (1 : Int) = ari BinOp.add IntKind.i64 i (1 : Int) ∧ b = b ∧ ty = ty ∧ cs = cs ∧ (78 : TypeId) = (78 : TypeId) ∧ ns = ns ∧ (52 : TypeId) = (52 : TypeId) ∧ Array.setIfInBounds ts ((0 : Nat) + Int.toNat i * 5 + 4) (Value.int IntKind.u16 (intAt ns ((0 : Nat) + Int.toNat (intAt ts ((0 : Nat) + Int.toNat i * 5 + 4)) * 1))) = Array.setIfInBounds ts ((0 : Nat) + Int.toNat i * 5 + 4) (Value.int IntKind.u16 (intAt ns ((0 : Nat) + Int.toNat (intAt ts ((0 : Nat) + Int.toNat i * 5 + 4)) * 1))) ∧ True)) ∧ (decide (i < b) = false → kF = k ∧ (52 : TypeId) = (52 : TypeId) ∧ rF = ts ∧ True)) := by kernel_rfl
end Go.Proofs.Ytpohnmafnpnmeaa
/- Of flow: Trim. No condition. -/
namespace Go.Proofs.Ytpohnmafnpnmeaa
set_option linter.unusedSectionVars false
set_option maxRecDepth 100000
theorem ET_ok : EnvOk ET := EnvOk.with E0_ok _ _ conE_ok
def fiveI (x : Ins) : List Value := [.int .u8 x.o, .int .u8 x.a, .int .u8 x.b, .int .u8 x.c, .int .u16 x.n]
def trimI (f : Nat → Bool) (x : Ins) : Ins := if x.o = 5 ∨ x.o = 6 then ⟨x.o, x.a, x.b, x.c, (cnt f x.n.toNat : Int)⟩ else x
def trR (cs : Array Value) (off num : Nat) : Array Value := (grow (metB cs off num) (fun j => fiveI (trimI (metB cs off num) (ins cs off j))) num).toArray
def NsOk (f : Nat → Bool) (ns : Array Value) (i : Nat) : Prop := ns.size = 64 ∧ ∀ j, j < i → ns[j]? = some (.int .u16 (cnt f j : Int))
def MidOk (cs : Array Value) (off num : Nat) (f : Nat → Bool) (i : Nat) (ts : Array Value) : Prop := ts.size = cnt f num * 5 ∧ ∀ j, j < num → f j = true → ∀ t, t < 5 → ts[cnt f j * 5 + t]? = (fiveI (if cnt f j < i then trimI f (ins cs off j) else ins cs off j))[t]?
theorem trimI_in {f : Nat → Bool} {x : Ins} (h : x.In) : (trimI f x).In := by
  unfold trimI
  split
  · obtain ⟨a, b, c, d, e⟩ := h
    have := cnt_le f x.n.toNat
    exact ⟨a, b, c, d, by dsimp only; omega⟩
  · exact h
section
variable (off num : Nat) (cs : Array Value) (ty : TypeId) (hI : InsOk cs off num) (hM : mayV cs off num = true) (h0 : num ≠ 0)
include hI hM h0
theorem met0 : metB cs off num 0 = true := (frW_iff hI hM (Nat.zero_le _) 0).2 (.refl (by decide))
theorem tC_round {ns : Array Value} (hns : NsOk (metB cs off num) ns num) : ∀ (K i : Nat) (ts : Array Value), cnt (metB cs off num) num - i < K → i ≤ cnt (metB cs off num) num → MidOk cs off num (metB cs off num) i ts →
    Good Try.prog (trE true (cnt (metB cs off num) num) (trR cs off num)) 1 (tC_F off num cs ty (cnt (metB cs off num) num) (trR cs off num) (cnt (metB cs off num) num : Nat) i (cnt (metB cs off num) num) ns ts) (tC_M off num cs ty (cnt (metB cs off num) num) (trR cs off num) (cnt (metB cs off num) num : Nat) i (cnt (metB cs off num) num) ns ts) := by
  obtain ⟨n64, hA⟩ := mayV_iff.1 hM
  have hcn := cnt_le (metB cs off num) num
  intro K
  induction K with
  | zero => intro i ts h; omega
  | succ K ih =>
    intro i ts hK hi hm
    generalize hf : metB cs off num = f at *
    refine past_vc ET_ok 1000 (jTC_vc off num cs ty (cnt f num) (trR cs off num) (cnt f num : Nat) i (cnt f num) ns ts (fun b' i' k' ns' ts' => b' = (cnt f num : Nat) ∧ i' = (i + 1 : Nat) ∧ k' = cnt f num ∧ ns' = ns ∧ i < cnt f num ∧ MidOk cs off num f (i + 1) ts')) ?_ (fun _ _ h => h)
      (fun fs m hb => jTC_go (fun b' i' k' ns' ts' h => ?_) hb)
    · rw [i64_add1 (show i < 1000 by omega), Int.toNat_natCast]
      obtain ⟨ms, mc⟩ := hm
      by_cases d : i < cnt f num
      · have e1 : decide ((i : Int) < ((cnt f num : Nat) : Int)) = true := decide_eq_true (by omega)
        obtain ⟨j, hj, hfj, hc⟩ := cnt_sur d
        obtain ⟨_, r1, r2, r3, r4, r5⟩ := hI.2 j hj
        obtain ⟨_, _, _, _, k5⟩ := Ins.okN_iff.1 (hA j hj)
        have mj := mc j hj hfj
        rw [hc, if_neg (by omega)] at mj
        have c0 : ts[0 + i * 5]? = some (.int .u8 (ins cs off j).o) := by rw [Nat.zero_add]; exact mj 0 (by omega)
        have c4 : ts[0 + i * 5 + 4]? = some (.int .u16 (ins cs off j).n) := by rw [Nat.zero_add]; exact mj 4 (by omega)
        have w1 : (0 : Int) ≤ (i : Int) ∧ (i : Int) < ((cnt f num : Nat) : Int) := by omega
        have hsz : 0 + i * 5 + 4 < ts.size := by omega
        have next : ∀ ts' : Array Value, ts'.size = cnt f num * 5 → (∀ t, t < 5 → ts'[i * 5 + t]? = (fiveI (trimI f (ins cs off j)))[t]?) → (∀ p, p / 5 ≠ i → ts'[p]? = ts[p]?) → MidOk cs off num f (i + 1) ts' := by
          intro ts' h1 h2 h3
          refine ⟨h1, fun j' hj' hfj' t ht => ?_⟩
          by_cases e : j' = j
          · subst e
            rw [hc, if_pos (by omega)]
            exact h2 t ht
          · have hne : cnt f j' ≠ i := fun e' => e (cnt_inj hfj' hfj (by omega))
            rw [h3 _ (by omega), mc j' hj' hfj' t ht]
            by_cases e' : cnt f j' < i
            · rw [if_pos e', if_pos (by omega)]
            · rw [if_neg e', if_neg (by omega)]
        rw [intAt_of c0, intAt_of c4]
        by_cases o : (ins cs off j).o = 5 ∨ (ins cs off j).o = 6
        · have hn : (ins cs off j).n < num := by omega
          have hnn : (ins cs off j).n.toNat < num := by omega
          have b4 := hns.2 _ hnn
          have b4' : ns[0 + (ins cs off j).n.toNat * 1]? = some (.int .u16 (cnt f (ins cs off j).n.toNat : Int)) := by rw [Nat.zero_add, Nat.mul_one]; exact b4
          have w2 : (0 : Int) ≤ (ins cs off j).n ∧ (ins cs off j).n < 64 := by omega
          rw [intAt_of b4']
          have hq : MidOk cs off num f (i + 1) (ts.setIfInBounds (0 + i * 5 + 4) (.int .u16 (cnt f (ins cs off j).n.toNat : Int))) := by
            refine next _ (by rw [Array.size_setIfInBounds]; exact ms) (fun t ht => ?_) (fun p hp => set_out (by omega))
            unfold trimI
            rw [if_pos o]
            by_cases e : t = 4
            · subst e
              rw [show i * 5 + 4 = 0 + i * 5 + 4 by omega]
              exact set_in hsz
            · rw [set_out (by omega), mj t ht]
              match t, ht, e with
              | 0, _, _ => rfl
              | 1, _, _ => rfl
              | 2, _, _ => rfl
              | 3, _, _ => rfl
              | k + 4, h, h2 => omega
          rcases o with o | o
          · have f5 : ((ins cs off j).o == 5) = true := by rw [o]; rfl
            simp only [e1, decide_true, f5, w1, w2, d, hsz, hq, isI_of c0, isI_of c4, isI_of b4', beqT, beqF, Bool.not_true, Bool.not_false, Bool.true_eq_false, Bool.false_eq_true, false_implies, true_implies, true_and, and_true, tC_d0_ok]
          · have f5 : ((ins cs off j).o == 5) = false := by rw [o]; rfl
            have f6 : ((ins cs off j).o == 6) = true := by rw [o]; rfl
            simp only [e1, decide_true, f5, f6, w1, w2, d, hsz, hq, isI_of c0, isI_of c4, isI_of b4', beqT, beqF, Bool.not_true, Bool.not_false, Bool.true_eq_false, Bool.false_eq_true, false_implies, true_implies, true_and, and_true, tC_d0_ok]
        · have f5 : ((ins cs off j).o == 5) = false := by rw [beq_eq_false_iff_ne]; omega
          have f6 : ((ins cs off j).o == 6) = false := by rw [beq_eq_false_iff_ne]; omega
          have hq : MidOk cs off num f (i + 1) ts := next ts ms (fun t ht => by unfold trimI; rw [if_neg o]; exact mj t ht) (fun p hp => rfl)
          simp only [e1, decide_true, f5, f6, w1, d, hq, isI_of c0, beqT, beqF, Bool.not_true, Bool.not_false, Bool.true_eq_false, Bool.false_eq_true, false_implies, true_implies, true_and, and_true, tC_d0_ok]
      · have e1 : decide ((i : Int) < ((cnt f num : Nat) : Int)) = false := decide_eq_false (by omega)
        have hts : trR cs off num = ts := by
          unfold trR
          rw [hf]
          refine (grow_ext (fun _ => rfl) ms fun j hj hfj t ht => ?_).symm
          rw [mc j hj hfj t ht, if_pos (by have := cnt_lt hfj hj; omega)]
        simp only [e1, decide_true, Bool.true_eq_false, Bool.false_eq_true, false_implies, true_implies, true_and, and_true]
        exact hts
    · obtain ⟨rfl, rfl, rfl, rfl, h1, h2⟩ := h
      exact ih (i + 1) ts' (by omega) (by omega) h2
end
end Go.Proofs.Ytpohnmafnpnmeaa
/- Of flow: Trim: its first loop, and all of it. No condition. -/
namespace Go.Proofs.Ytpohnmafnpnmeaa
set_option linter.unusedSectionVars false
set_option maxRecDepth 100000
section
variable (off num : Nat) (cs : Array Value) (ty : TypeId) (hI : InsOk cs off num) (hM : mayV cs off num = true) (h0 : num ≠ 0)
include hI hM h0
theorem tB_round : ∀ (K i : Nat) (ns : Array Value), num - i < K → 1 ≤ i → i ≤ num → NsOk (metB cs off num) ns i →
    Good Try.prog (trE true (cnt (metB cs off num) num) (trR cs off num)) 1 (tB_F off num cs ty (cnt (metB cs off num) num) (trR cs off num) (num : Nat) i (num + 1) (cnt (metB cs off num) i) (boL (metB cs off num) (num + 1)) ns (grow (metB cs off num) (fun j => fiveI (ins cs off j)) i).toArray) (tB_M off num cs ty (cnt (metB cs off num) num) (trR cs off num) (num : Nat) i (num + 1) (cnt (metB cs off num) i) (boL (metB cs off num) (num + 1)) ns (grow (metB cs off num) (fun j => fiveI (ins cs off j)) i).toArray) := by
  obtain ⟨n64, hA⟩ := mayV_iff.1 hM
  intro K
  induction K with
  | zero => intro i ns h; omega
  | succ K ih =>
    intro i ns hK h1 hi hns
    refine past_vc ET_ok 1000 (jTB_vc off num cs ty (cnt (metB cs off num) num) (trR cs off num) (num : Nat) i (num + 1) (cnt (metB cs off num) i) (boL (metB cs off num) (num + 1)) ns (grow (metB cs off num) (fun j => fiveI (ins cs off j)) i).toArray
      (fun b' i' n' k' bs' ns' ts' => b' = (num : Nat) ∧ i' = (i + 1 : Nat) ∧ n' = num + 1 ∧ k' = cnt (metB cs off num) (i + 1) ∧ bs' = boL (metB cs off num) (num + 1) ∧ i < num ∧ NsOk (metB cs off num) ns' (i + 1) ∧ ts' = (grow (metB cs off num) (fun j => fiveI (ins cs off j)) (i + 1)).toArray)
      (fun b' i' k' ns' ts' => b' = (cnt (metB cs off num) num : Nat) ∧ i' = (0 : Nat) ∧ k' = cnt (metB cs off num) num ∧ NsOk (metB cs off num) ns' num ∧ MidOk cs off num (metB cs off num) 0 ts')) ?_ (fun _ _ h => h)
      (fun fs m hb => jTB_go (fun b' i' n' k' bs' ns' ts' h => ?_) (fun b' i' k' ns' ts' h => ?_) hb)
    · generalize hf : metB cs off num = f at *
      have hci := cnt_le f i
      rw [i64_add1 (show i < 1000 by omega), Int.toNat_natCast]
      by_cases d : i < num
      · have e1 : decide ((i : Int) < ((num : Nat) : Int)) = true := decide_eq_true (by omega)
        obtain ⟨⟨i1, i2, i3, i4, i5⟩, _⟩ := hI.2 i d
        obtain ⟨b1, b2⟩ := bo_at f (n := num + 1) (i := i) (by omega)
        have w1 : (0 : Int) ≤ (i : Int) ∧ (i : Int) < 64 := by omega
        have w2 : (0 : Int) ≤ (i : Int) ∧ (i : Int) < ((num + 1 : Nat) : Int) := by omega
        have w3 : (0 : Int) ≤ (i : Int) ∧ (i : Int) < (num : Int) := by omega
        have hsz : 0 + i * 1 < ns.size := by rw [hns.1]; omega
        have eW : IntKind.u16.wrap ((cnt f i : Nat) : Int) = ((cnt f i : Nat) : Int) := Go.IntWalk.u16_in _ (by omega)
        have hq : NsOk f (ns.setIfInBounds (0 + i * 1) (.int .u16 (IntKind.u16.wrap ((cnt f i : Nat) : Int)))) (i + 1) := by
          refine ⟨by rw [Array.size_setIfInBounds]; exact hns.1, fun j hj => ?_⟩
          by_cases e : j = i
          · subst e
            have := set_in (v := (.int .u16 (IntKind.u16.wrap ((cnt f j : Nat) : Int)) : Value)) hsz
            rw [eW] at this ⊢
            rwa [show 0 + j * 1 = j by omega] at this ⊢
          · rw [set_out (by omega)]; exact hns.2 j (by omega)
        rw [b2]
        cases hfi : f i with
        | true =>
          have c1 : cnt f (i + 1) * 6 ≤ 140737488355328 ∧ cnt f (i + 1) ≤ 140737488355328 := by rw [cnt_yes hfi]; omega
          have c2 : cnt f i * 5 = ((grow f (fun j => fiveI (ins cs off j)) i).toArray).size := by rw [List.size_toArray, grow_len (fun _ => rfl)]
          have c3 : (grow f (fun j => fiveI (ins cs off j)) i).toArray ++ #[Value.int .u8 (intAt cs (off + i * 5)), Value.int .u8 (intAt cs (off + i * 5 + 1)), Value.int .u8 (intAt cs (off + i * 5 + 2)), Value.int .u8 (intAt cs (off + i * 5 + 3)), Value.int .u16 (intAt cs (off + i * 5 + 4))] = (grow f (fun j => fiveI (ins cs off j)) (i + 1)).toArray := by
            rw [grow_yes hfi, ← List.append_toArray]; rfl
          rw [c3]
          simp only [e1, decide_true, b1, w1, w2, w3, i1, i2, i3, i4, i5, hsz, hq, d, ← cnt_yes hfi, Bool.true_eq_false, Bool.false_eq_true, false_implies, true_implies, true_and, and_true, tA_d0_ok, tB_d0_ok]
          exact ⟨c1, c2⟩
        | false =>
          simp only [e1, decide_true, b1, w1, w2, hsz, hq, d, cnt_no hfi, grow_no hfi, Bool.true_eq_false, Bool.false_eq_true, false_implies, true_implies, true_and, and_true, tA_d0_ok, tB_d0_ok]
      · obtain rfl : i = num := by omega
        have e1 : decide ((i : Int) < ((i : Nat) : Int)) = false := decide_eq_false (by omega)
        have hq : MidOk cs off i f 0 (grow f (fun j => fiveI (ins cs off j)) i).toArray := by
          refine ⟨by rw [List.size_toArray, grow_len (fun _ => rfl)], fun j hj hfj t ht => ?_⟩
          rw [if_neg (Nat.not_lt_zero _), List.getElem?_toArray]
          exact grow_at (g := fun j => fiveI (ins cs off j)) (fun _ => rfl) hfj ht hj
        simp only [e1, hq, hns, Bool.true_eq_false, Bool.false_eq_true, false_implies, true_implies, true_and, and_true, tC_d0_ok]
        rfl
    · obtain ⟨rfl, rfl, rfl, rfl, rfl, h2, h3, rfl⟩ := h
      exact ih (i + 1) ns' (by omega) (by omega) (by omega) h3
    · obtain ⟨rfl, rfl, rfl, h2, h3⟩ := h
      exact tC_round off num cs ty hI hM h0 h2 _ 0 ts' (Nat.lt_succ_self _) (Nat.zero_le _) h3
theorem trim_good : Good Try.prog (trE true (cnt (metB cs off num) num) (trR cs off num)) 1 [callFr 14 Try.f14.ntmps [prS off num] (Try.f14.body.getD .skip)] (rawM cs ty) := by
  obtain ⟨n64, hA⟩ := mayV_iff.1 hM
  have hm0 := met0 off num cs hI hM h0
  refine run_vc ET_ok 8000 (sT_vc off num cs ty (cnt (metB cs off num) num) (trR cs off num) (fun b' i' n' bs' ns' => b' = (num : Nat) ∧ i' = (0 : Nat) ∧ n' = num + 1 ∧ bs' = boL (metB cs off num) (num + 1) ∧ ns'.size = 64)) ?_ (fun _ _ h => h)
    (fun fs m hb => sT_go (fun b' i' n' bs' ns' h => ?_) hb)
  · simp only [hI, hM, Bool.true_eq_false, Bool.false_eq_true, false_implies, true_implies, true_and, and_true, tA_d0_ok]
    exact ⟨rfl, rfl⟩
  · obtain ⟨rfl, rfl, rfl, rfl, hs⟩ := h
    refine past_vc ET_ok 1000 (jTA_vc off num cs ty (cnt (metB cs off num) num) (trR cs off num) (num : Nat) (0 : Nat) (num + 1) (boL (metB cs off num) (num + 1)) ns'
      (fun b' i' n' k' bs' ns' ts' => b' = (num : Nat) ∧ i' = (1 : Nat) ∧ n' = num + 1 ∧ k' = 1 ∧ bs' = boL (metB cs off num) (num + 1) ∧ NsOk (metB cs off num) ns' 1 ∧ ts' = (grow (metB cs off num) (fun j => fiveI (ins cs off j)) 1).toArray)) ?_ (fun _ _ h => h)
      (fun fs m hb => jTA_go (fun b' i' n' k' bs' ns' ts' h => ?_) hb)
    · generalize hf : metB cs off num = f at *
      have e1 : decide (((0 : Nat) : Int) < ((num : Nat) : Int)) = true := decide_eq_true (by omega)
      rw [i64_add1 (show 0 < 1000 by omega), Int.toNat_natCast]
      obtain ⟨⟨i1, i2, i3, i4, i5⟩, _⟩ := hI.2 0 (by omega)
      obtain ⟨b1, b2⟩ := bo_at f (n := num + 1) (i := 0) (by omega)
      have w1 : (0 : Int) ≤ ((0 : Nat) : Int) ∧ ((0 : Nat) : Int) < 64 := by omega
      have w2 : (0 : Int) ≤ ((0 : Nat) : Int) ∧ ((0 : Nat) : Int) < ((num + 1 : Nat) : Int) := by omega
      have w3 : (0 : Int) ≤ ((0 : Nat) : Int) ∧ ((0 : Nat) : Int) < (num : Int) := by omega
      have hsz : 0 + 0 * 1 < ns'.size := by rw [hs]; omega
      have hq : NsOk f (ns'.setIfInBounds (0 + 0 * 1) (.int .u16 0)) 1 := by
        refine ⟨by rw [Array.size_setIfInBounds]; exact hs, fun j hj => ?_⟩
        obtain rfl : j = 0 := by omega
        exact set_in hsz
      have c3 : #[Value.int .u8 (intAt cs (off + 0 * 5)), Value.int .u8 (intAt cs (off + 0 * 5 + 1)), Value.int .u8 (intAt cs (off + 0 * 5 + 2)), Value.int .u8 (intAt cs (off + 0 * 5 + 3)), Value.int .u16 (intAt cs (off + 0 * 5 + 4))] = (grow f (fun j => fiveI (ins cs off j)) 1).toArray := by
        rw [grow_yes hm0]; rfl
      rw [b2, hm0, c3]
      simp only [e1, decide_true, b1, w1, w2, w3, i1, i2, i3, i4, i5, hsz, hq, Bool.true_eq_false, Bool.false_eq_true, false_implies, true_implies, true_and, and_true, tA_d0_ok, tB_d0_ok]
    · obtain ⟨rfl, rfl, rfl, rfl, rfl, h2, rfl⟩ := h
      have := tB_round off num cs ty hI hM h0 num 1 ns' (by omega) (by omega) (by omega) h2
      rwa [show cnt (metB cs off num) 1 = 1 by rw [cnt_yes hm0]; rfl] at this
end
end Go.Proofs.Ytpohnmafnpnmeaa
/- Of flow: FlowRuns: what its rounds need. No condition. -/
namespace Go.Proofs.Ytpohnmafnpnmeaa
set_option linter.unusedSectionVars false
set_option maxRecDepth 100000
theorem remN {i n : Nat} (_ : 0 < 1) (_ : 0 < 1) : ari BinOp.rem IntKind.i64 (i : Int) (n : Int) = ((i % n : Nat) : Int) := by rw [ari_rem]; rfl
section
variable {off num : Nat} {cs : Array Value} (hI : InsOk cs off num) (hM : mayV cs off num = true)
include hI hM
theorem cod_size : (cod cs off num).size = num * 5 := by
  unfold cod rowD
  rw [List.size_toArray, decL_len, enc_div]
theorem cod_ext : (cod cs off num).extract 0 (0 + num * 5) = cod cs off num := by
  rw [Nat.zero_add, ← cod_size hI hM]
  exact Array.extract_size
theorem cod_ins {x : Nat} (hx : x < num) : ins (cod cs off num) 0 x = ins cs off x := by
  have e : cod cs off num = (decL (encB cs off num) num).toArray := by unfold cod rowD; rw [enc_div]
  rw [e]
  exact enc_dec hI hx
theorem cod_ok : InsOk (cod cs off num) 0 num := by
  have e : cod cs off num = (decL (encB cs off num) num).toArray := by unfold cod rowD; rw [enc_div]
  rw [e]
  exact dec_insOk _ (by have := (mayV_iff.1 hM).1; omega)
theorem cod_at {x : Nat} (hx : x < num) : InsAt (cod cs off num) (at5 0 (x : Int)) ∧ in8 (cod cs off num) (at5 0 (x : Int)) ∧ intAt (cod cs off num) (at5 0 (x : Int)) = (ins cs off x).o ∧ intAt (cod cs off num) (at5 0 (x : Int) + 4) = (ins cs off x).n ∧ (0 ≤ intAt (cod cs off num) (at5 0 (x : Int) + 1) ∧ intAt (cod cs off num) (at5 0 (x : Int) + 1) < 8) := by
  have h5 : at5 0 (x : Int) = 0 + x * 5 := by unfold at5; rw [Int.toNat_natCast]
  rw [h5]
  obtain ⟨h1, h2⟩ := (cod_ok hI hM).2 x hx
  have h3 := cod_ins hI hM hx
  obtain ⟨_, k2, k3, k4, _⟩ := Ins.okN_iff.1 ((mayV_iff.1 hM).2 x hx)
  obtain ⟨r1, r2, r3, r4, r5⟩ := h2
  have e1 : (ins (cod cs off num) 0 x).o = (ins cs off x).o := by rw [h3]
  have e2 : (ins (cod cs off num) 0 x).a = (ins cs off x).a := by rw [h3]
  have e3 : (ins (cod cs off num) 0 x).b = (ins cs off x).b := by rw [h3]
  have e4 : (ins (cod cs off num) 0 x).c = (ins cs off x).c := by rw [h3]
  have e5 : (ins (cod cs off num) 0 x).n = (ins cs off x).n := by rw [h3]
  rw [← e2] at k2
  rw [← e3] at k3
  rw [← e4] at k4
  exact ⟨h1, ⟨⟨r2.1, k2⟩, ⟨r3.1, k3⟩, ⟨r4.1, k4⟩, r5⟩, e1, e5, r2.1, k2⟩
theorem to_next {x : Nat} (hx : x < num) (o0 : (ins cs off x).o ≠ 0) (o5 : (ins cs off x).o ≠ 5) : x + 1 ∈ toL cs off num x := by
  have et := toL_eq (cs := cs) (off := off) (show ¬ num ≤ x by omega)
  simp only [ins] at o0 o5
  rw [et, if_neg o0, if_neg o5]
  split
  · split
    · exact List.mem_singleton.2 rfl
    · simp only [List.mem_cons, List.not_mem_nil, or_false]; omega
  · exact List.mem_singleton.2 rfl
theorem to_jump {x : Nat} (hx : x < num) (o5 : (ins cs off x).o = 5 ∨ (ins cs off x).o = 6) : (ins cs off x).n.toNat ∈ toL cs off num x := by
  have et := toL_eq (cs := cs) (off := off) (show ¬ num ≤ x by omega)
  simp only [ins] at o5
  show (intAt cs (off + x * 5 + 4)).toNat ∈ _
  rw [et]
  by_cases h : intAt cs (off + x * 5) = 5
  · rw [if_neg (by omega), if_pos h]; exact List.mem_singleton.2 rfl
  · rw [if_neg (by omega), if_neg h, if_pos (by omega)]
    split
    · exact List.mem_singleton.2 (by omega)
    · simp only [List.mem_cons, List.not_mem_nil, or_false]; omega
end
end Go.Proofs.Ytpohnmafnpnmeaa
/- Of flow: functions of a row of one's own, told as if it had come in. No condition. -/
namespace Go.Proofs.Ytpohnmafnpnmeaa
set_option linter.unusedSectionVars false
set_option maxRecDepth 100000
theorem Con.madeP {g : FuncId} {fn : Func} {c : Code} {m : SMem} {i : Nat} {o n : SN} {cap : SK} {cs rs : Array Value} {ty ty' : TypeId} {wr : Bool} {q : List Prop} {S : Nat → SV} {l l' : List SV} (h1 : E0.fn g = some fn) (h2 : fn.body = some c) (hb : getB m.bl i = some ⟨.pop cs, ty, wr⟩)
    (hl : ∀ R R' vs, All2 (SV.ok R) l vs → All2 (SV.ok R') l' vs)
    (good : (∀ p ∈ q, p) → ∀ ds : Array Value, (∀ p, p < cs.size → ds[p]? = cs[p]?) → Good Try.prog (fun s m' => s = S 1 ∧ m' = ⟨2, Tr.nil.set 1 (some ⟨.pop rs, ty', true⟩), []⟩) 1 [callFr g fn.ntmps (prS o.den n.den :: l') c] (prM true ds ty))
    (hS : ∀ f : Nat → Nat, (S 1).re f = S (f 1)) :
    Con E0 g (.s (.c (.f (.slice i o n cap))) :: l) m (needs q (.ret (S m.next) (m.new (.pop rs) ty'))) := by
  intro A hs
  obtain ⟨hq, hA⟩ := Tree.sat_needs hs
  refine ⟨fn, h1, by rw [h2]; rfl, fun n0 F w0 w R args ha hR => ?_⟩
  obtain ⟨x, ds, fz, k1, k2, k3, k4, k5⟩ := hR.blk _ _ hb
  have hlt := hR.nx _ _ k1
  have hag : ∀ p, p < cs.size → ds[p]? = cs[p]? := fun p hp => by
    have k4 : ds.toList.take cs.size = cs.toList := k4.1
    rw [← Array.getElem?_toList, ← Array.getElem?_toList, ← k4, List.getElem?_take, if_pos hp]
  have hl' : All2 (SV.ok (pull (fun _ => i) 1 R)) (prS o.den n.den :: l') args.toList := by
    revert ha
    generalize args.toList = vs
    intro ha
    match vs, ha with
    | x :: vs, ha =>
      obtain ⟨⟨gl, cp, e1, e2, e3, e4⟩, ha⟩ := ha
      exact ⟨⟨gl, cp, by unfold pull; exact e1, e2, trivial, e4⟩, hl _ _ _ ha⟩
  refine (frameW (ms := prM true ds ty) (ms' := ⟨2, Tr.nil.set 1 (some ⟨.pop rs, ty', true⟩), []⟩) (E0_ok.fns g _ h1).1 h2 (good hq ds hag) rfl (ι := fun _ => i) ?_ (fun _ _ => hlt) ?_ ?_ ?_ (show 1 ≤ 2 by decide) hl' hR).mono ?_
  · intro a b h1 h2 _
    have h1 : a < 1 := h1
    have h2 : b < 1 := h2
    omega
  · intro j b hj
    obtain ⟨rfl, rfl⟩ := prM_get hj
    refine ⟨Nat.zero_lt_one, _, hb, rfl, fun h => (by cases h), fun cs' x' fz' e1 e2 _ => ?_⟩
    rw [k1] at e1
    cases e1
    rw [k2] at e2
    cases e2
    rfl
  · intro j b hj hw
    obtain ⟨rfl, rfl⟩ := prM_get hj
    cases hw
  · intro j b hj h1
    have h1 : j < 1 := h1
    have e : j = 0 := by omega
    subst e
    have hj : (Option.none : Option SBlk) = some b := hj
    cases hj
  · rintro u w' ⟨R', k1, k2, k3⟩
    rw [hS] at k3
    exact ⟨_, _, R', hA, k1, k2, k3⟩
theorem grow_congr {f g : Nat → Bool} {a b : Nat → List Value} : ∀ {n : Nat}, (∀ i, i < n → f i = g i) → (∀ i, i < n → a i = b i) → grow f a n = grow g b n
  | 0, _, _ => rfl
  | n + 1, h1, h2 => by
    show (if f n = true then grow f a n ++ a n else grow f a n) = (if g n = true then grow g b n ++ b n else grow g b n)
    rw [h1 n (by omega), h2 n (by omega), grow_congr (fun i hi => h1 i (by omega)) (fun i hi => h2 i (by omega))]
section
variable {cs ds : Array Value} {n : Nat} (hs : cs.size = n * 5) (h : ∀ p, p < cs.size → ds[p]? = cs[p]?)
include hs h
theorem as_int {p : Nat} (hp : p < n * 5) : intAt ds p = intAt cs p := by unfold intAt; rw [h p (by omega)]
theorem as_is {k : IntKind} {p : Nat} (hp : p < n * 5) (hi : IsInt k cs p) : IsInt k ds p := by
  unfold IsInt at *
  rw [h p (by omega), as_int hs h hp]; exact hi
theorem as_ins {i : Nat} (hi : i < n) : ins ds 0 i = ins cs 0 i := by
  unfold ins
  rw [as_int hs h (by omega), as_int hs h (by omega), as_int hs h (by omega), as_int hs h (by omega), as_int hs h (by omega)]
theorem as_ok (hI : InsOk cs 0 n) : InsOk ds 0 n := by
  refine ⟨hI.1, fun i hi => ?_⟩
  obtain ⟨⟨i1, i2, i3, i4, i5⟩, r⟩ := hI.2 i hi
  exact ⟨⟨as_is hs h (by omega) i1, as_is hs h (by omega) i2, as_is hs h (by omega) i3, as_is hs h (by omega) i4, as_is hs h (by omega) i5⟩, by rw [as_ins hs h hi]; exact r⟩
theorem as_may : mayV ds 0 n = mayV cs 0 n := mayV_congr fun i hi => as_ins hs h hi
theorem as_toL : toL ds 0 n = toL cs 0 n := by
  funext a
  by_cases d : n ≤ a
  · unfold toL; rw [if_pos d, if_pos d]
  · have hh := as_ins hs h (show a < n by omega)
    unfold toL; rw [hh]
theorem as_met : metB ds 0 n = metB cs 0 n := by
  funext i
  unfold metB metW frW mtK
  rw [as_toL hs h]
theorem as_tr : trR ds 0 n = trR cs 0 n := by
  unfold trR
  rw [as_met hs h, grow_congr (fun _ _ => rfl) fun i hi => by rw [as_ins hs h hi]]
theorem as_enc : ∀ k, k ≤ n → encL ds 0 k = encL cs 0 k
  | 0, _ => rfl
  | k + 1, hk => by
    show encL ds 0 k ++ six (ins ds 0 k) = encL cs 0 k ++ six (ins cs 0 k)
    rw [as_enc k (by omega), as_ins hs h (by omega)]
theorem as_cod : cod ds 0 n = cod cs 0 n := by
  unfold cod encB
  rw [as_enc hs h n (Nat.le_refl n)]
end
end Go.Proofs.Ytpohnmafnpnmeaa
/- Of flow: a trimmed program, as mathematics. No condition. -/
namespace Go.Proofs.Ytpohnmafnpnmeaa
set_option linter.unusedSectionVars false
set_option maxRecDepth 100000
section
variable {off num : Nat} {cs : Array Value} (hI : InsOk cs off num) (hM : mayV cs off num = true)
include hI hM
theorem tr_size : (trR cs off num).size = cnt (metB cs off num) num * 5 := by
  unfold trR
  rw [List.size_toArray, grow_len (fun _ => rfl)]
theorem tr_cell {i : Nat} (hi : i < num) (hf : metB cs off num i = true) {t : Nat} (ht : t < 5) : (trR cs off num)[cnt (metB cs off num) i * 5 + t]? = (fiveI (trimI (metB cs off num) (ins cs off i)))[t]? := by
  unfold trR
  rw [List.getElem?_toArray]
  exact grow_at (g := fun j => fiveI (trimI (metB cs off num) (ins cs off j))) (fun _ => rfl) hf ht hi
theorem tr_at {i : Nat} (hi : i < num) (hf : metB cs off num i = true) : InsAt (trR cs off num) (0 + cnt (metB cs off num) i * 5) ∧ ins (trR cs off num) 0 (cnt (metB cs off num) i) = trimI (metB cs off num) (ins cs off i) := by
  have key := fun t (ht : t < 5) => tr_cell hI hM hi hf ht
  generalize trimI (metB cs off num) (ins cs off i) = x at *
  have c0 := key 0 (by omega)
  have c1 := key 1 (by omega)
  have c2 := key 2 (by omega)
  have c3 := key 3 (by omega)
  have c4 := key 4 (by omega)
  unfold ins
  rw [Nat.zero_add]
  exact ⟨⟨isI_of c0, isI_of c1, isI_of c2, isI_of c3, isI_of c4⟩, Ins.ext' (intAt_of c0) (intAt_of c1) (intAt_of c2) (intAt_of c3) (intAt_of c4)⟩
theorem tr_ok : InsOk (trR cs off num) 0 (cnt (metB cs off num) num) := by
  have n64 := (mayV_iff.1 hM).1
  have hc := cnt_le (metB cs off num) num
  refine ⟨by omega, fun j hj => ?_⟩
  obtain ⟨i, hi, hf, rfl⟩ := cnt_sur hj
  obtain ⟨h1, h2⟩ := tr_at hI hM hi hf
  exact ⟨h1, by rw [h2]; exact trimI_in (hI.2 i hi).2⟩
theorem jump_met {i : Nat} (hi : i < num) (hf : metB cs off num i = true) (o : (ins cs off i).o = 5 ∨ (ins cs off i).o = 6) : metB cs off num (ins cs off i).n.toNat = true ∧ (ins cs off i).n.toNat < num ∧ 0 ≤ (ins cs off i).n := by
  obtain ⟨_, _, _, _, k5⟩ := Ins.okN_iff.1 ((mayV_iff.1 hM).2 i hi)
  have hr := (hI.2 i hi).2.2.2.2.2
  exact ⟨met_to hI hM hf (to_jump hI hM hi o), by omega, hr.1⟩
theorem tr_may : mayV (trR cs off num) 0 (cnt (metB cs off num) num) = true := by
  have n64 := (mayV_iff.1 hM).1
  have hc := cnt_le (metB cs off num) num
  refine mayV_iff.2 ⟨by omega, fun j hj => ?_⟩
  obtain ⟨i, hi, hf, rfl⟩ := cnt_sur hj
  rw [(tr_at hI hM hi hf).2]
  have hk := (mayV_iff.1 hM).2 i hi
  obtain ⟨k1, k2, k3, k4, k5⟩ := Ins.okN_iff.1 hk
  unfold trimI
  split
  · rename_i o
    obtain ⟨h1, h2, h3⟩ := jump_met hI hM hi hf o
    have := cnt_lt h1 h2
    exact Ins.okN_iff.2 ⟨k1, k2, k3, k4, fun h => by have := h.2; dsimp only at this; omega⟩
  · rename_i o
    exact Ins.okN_iff.2 ⟨k1, k2, k3, k4, fun h => o h.1⟩
theorem tr_to {i : Nat} (hi : i < num) (hf : metB cs off num i = true) : toL (trR cs off num) 0 (cnt (metB cs off num) num) (cnt (metB cs off num) i) = (toL cs off num i).map (cnt (metB cs off num)) := by
  have hlt := cnt_lt hf hi
  have hx := (tr_at hI hM hi hf).2
  have e1 := toL_eq (cs := cs) (off := off) (show ¬ num ≤ i by omega)
  have e2 := toL_eq (cs := trR cs off num) (off := 0) (show ¬ cnt (metB cs off num) num ≤ cnt (metB cs off num) i by omega)
  have eo : intAt (trR cs off num) (0 + cnt (metB cs off num) i * 5) = (ins cs off i).o := by
    have : (ins (trR cs off num) 0 (cnt (metB cs off num) i)).o = (ins cs off i).o := by rw [hx]; unfold trimI; split <;> rfl
    exact this
  have en : intAt (trR cs off num) (0 + cnt (metB cs off num) i * 5 + 4) = (trimI (metB cs off num) (ins cs off i)).n := by
    have : (ins (trR cs off num) 0 (cnt (metB cs off num) i)).n = (trimI (metB cs off num) (ins cs off i)).n := by rw [hx]
    exact this
  rw [e2, eo, en]
  rw [e1]
  have hs := cnt_yes hf
  show (if (ins cs off i).o = 0 then _ else _) = List.map _ (if (ins cs off i).o = 0 then _ else if (ins cs off i).o = 5 then [(ins cs off i).n.toNat] else if (ins cs off i).o = 6 then (if (ins cs off i).n.toNat = i + 1 then [i + 1] else [min (i + 1) (ins cs off i).n.toNat, max (i + 1) (ins cs off i).n.toNat]) else [i + 1])
  by_cases o0 : (ins cs off i).o = 0
  · rw [if_pos o0, if_pos o0]; rfl
  rw [if_neg o0, if_neg o0]
  by_cases o5 : (ins cs off i).o = 5
  · rw [if_pos o5, if_pos o5]
    have : (trimI (metB cs off num) (ins cs off i)).n.toNat = cnt (metB cs off num) (ins cs off i).n.toNat := by unfold trimI; rw [if_pos (.inl o5)]; exact Int.toNat_natCast _
    rw [this]; rfl
  rw [if_neg o5, if_neg o5]
  by_cases o6 : (ins cs off i).o = 6
  · rw [if_pos o6, if_pos o6]
    have e : (trimI (metB cs off num) (ins cs off i)).n.toNat = cnt (metB cs off num) (ins cs off i).n.toNat := by unfold trimI; rw [if_pos (.inr o6)]; exact Int.toNat_natCast _
    rw [e]
    obtain ⟨h1, h2, h3⟩ := jump_met hI hM hi hf (.inr o6)
    have h4 : metB cs off num (i + 1) = true := met_to hI hM hf (to_next hI hM hi o0 o5)
    by_cases d : (ins cs off i).n.toNat = i + 1
    · rw [if_pos d, d, if_pos hs, hs.symm]; rfl
    · rw [if_neg d]
      have hne : cnt (metB cs off num) (ins cs off i).n.toNat ≠ cnt (metB cs off num) i + 1 := fun h => d (cnt_inj h1 h4 (by rw [hs]; exact h))
      rw [if_neg hne]
      rcases Nat.lt_or_ge (ins cs off i).n.toNat (i + 1) with l | l
      · have := cnt_lt h1 l
        rw [show min (i + 1) (ins cs off i).n.toNat = (ins cs off i).n.toNat by omega, show max (i + 1) (ins cs off i).n.toNat = i + 1 by omega]
        show _ = [cnt (metB cs off num) (ins cs off i).n.toNat, cnt (metB cs off num) (i + 1)]
        rw [hs] at this ⊢
        congr 1
        · omega
        · congr 1; omega
      · have := cnt_lt h4 (show i + 1 < (ins cs off i).n.toNat by omega)
        rw [show min (i + 1) (ins cs off i).n.toNat = i + 1 by omega, show max (i + 1) (ins cs off i).n.toNat = (ins cs off i).n.toNat by omega]
        show _ = [cnt (metB cs off num) (i + 1), cnt (metB cs off num) (ins cs off i).n.toNat]
        rw [hs] at this ⊢
        congr 1
        · omega
        · congr 1; omega
  · rw [if_neg o6, if_neg o6, ← hs]; rfl
theorem tr_met {i : Nat} (hf : metB cs off num i = true) (hi : i ≤ num) : metB (trR cs off num) 0 (cnt (metB cs off num) num) (cnt (metB cs off num) i) = true := by
  rw [met_iff (tr_ok hI hM) (tr_may hI hM)]
  have h := (met_iff hI hM).1 hf
  clear hf hi
  induction h with
  | refl h => exact .refl (by decide)
  | step h1 h2 h3 ih =>
    rename_i b c
    have hb : metB cs off num b = true := (met_iff hI hM).2 h1
    have hbn : b < num := by
      by_cases h : num ≤ b
      · unfold toL at h2; rw [if_pos h] at h2; cases h2
      · omega
    refine .step ih ?_ (by omega)
    rw [tr_to hI hM hbn hb]
    exact List.mem_map.2 ⟨c, h2, rfl⟩
theorem tr_cnt {j : Nat} (hj : j ≤ cnt (metB cs off num) num) : cnt (metB (trR cs off num) 0 (cnt (metB cs off num) num)) j = j := by
  have all : ∀ k, k < cnt (metB cs off num) num → metB (trR cs off num) 0 (cnt (metB cs off num) num) k = true := fun k hk => by
    obtain ⟨i, hi, hf, rfl⟩ := cnt_sur hk
    exact tr_met hI hM hf (by omega)
  induction j with
  | zero => rfl
  | succ j ih => rw [cnt_yes (all j (by omega)), ih (by omega)]
theorem trim_same {i : Nat} (hi : i < num) (hf : metB cs off num i = true) : trimI (metB (trR cs off num) 0 (cnt (metB cs off num) num)) (ins (trR cs off num) 0 (cnt (metB cs off num) i)) = trimI (metB cs off num) (ins cs off i) := by
  have hk := (mayV_iff.1 (tr_may hI hM)).2 _ (cnt_lt hf hi)
  have hc := fun {j : Nat} (h : j ≤ cnt (metB cs off num) num) => tr_cnt hI hM h
  rw [(tr_at hI hM hi hf).2] at hk ⊢
  obtain ⟨_, _, _, _, k5⟩ := Ins.okN_iff.1 hk
  have hr := (trimI_in (f := metB cs off num) (hI.2 i hi).2).2.2.2.2
  generalize trimI (metB cs off num) (ins cs off i) = y at k5 hr ⊢
  generalize metB (trR cs off num) 0 (cnt (metB cs off num) num) = f' at hc ⊢
  unfold trimI
  split
  · rw [hc (show y.n.toNat ≤ cnt (metB cs off num) num by omega)]
    exact Ins.ext' rfl rfl rfl rfl (by show ((y.n.toNat : Nat) : Int) = y.n; omega)
  · rfl
theorem tr_tr : trR (trR cs off num) 0 (cnt (metB cs off num) num) = trR cs off num := by
  have hsz := tr_size hI hM
  have hcn := fun {j : Nat} (h : j ≤ cnt (metB cs off num) num) => tr_cnt hI hM h
  have hcell := fun {i : Nat} (hi : i < num) (hf : metB cs off num i = true) {t : Nat} (ht : t < 5) => tr_cell hI hM hi hf ht
  have hsame := fun {i : Nat} (hi : i < num) (hf : metB cs off num i = true) => trim_same hI hM hi hf
  generalize hT : trR cs off num = T at hsz hcn hcell hsame ⊢
  generalize hf' : metB T 0 (cnt (metB cs off num) num) = f' at hcn hsame ⊢
  have key : T = (grow f' (fun j => fiveI (trimI f' (ins T 0 j))) (cnt (metB cs off num) num)).toArray := by
    refine grow_ext (fun _ => rfl) (by rw [hsz, hcn (Nat.le_refl _)]) fun j hj _ t ht => ?_
    rw [hcn (by omega)]
    obtain ⟨i, hi, hf, rfl⟩ := cnt_sur hj
    rw [hcell hi hf ht, hsame hi hf]
  unfold trR
  rw [hf']
  exact key.symm
end
end Go.Proofs.Ytpohnmafnpnmeaa
/- Of flow: FlowSame: what it calls, as contracts. No condition. -/
namespace Go.Proofs.Ytpohnmafnpnmeaa
set_option linter.unusedSectionVars false
set_option maxRecDepth 100000
theorem Good.trE {k : Nat} {rs : Array Value} {fs : List SFr} {m : SMem} (h : Good Try.prog (trE true k rs) 1 fs m) : Good Try.prog (fun s m' => s = .tup [.c (.f (.slice 1 (.l 0) (.o k) .any)), .c (.f (.int .i64 (.l 0)))] ∧ m' = ⟨2, Tr.nil.set 1 (some ⟨.pop rs, 52, true⟩), []⟩) 1 fs m := by
  refine Good.retX (Good.mono h ?_)
  intro s m h
  unfold Go.Proofs.Ytpohnmafnpnmeaa.trE at h
  split at h
  · exact ⟨_, h⟩
  · exact h.elim
noncomputable section
def trW (m : SMem) : List SV → Option Tree
  | [.s (.c (.f (.slice i o n _)))] => match rawI m i with
    | some cs => some (needs [InsOk cs o.den n.den, mayV cs o.den n.den = true, n.den ≠ 0] (.ret (slE (cnt (metB cs o.den n.den) n.den) m.next) (m.new (.pop (trR cs o.den n.den)) 52)))
    | none => none
  | _ => none
def trP (m : SMem) : List SV → Option Tree
  | [.s (.c (.f (.slice i (.l 0) n _)))] => match rowR m i with
    | some cs => some (needs [cs.size = n.den * 5, InsOk cs 0 n.den, mayV cs 0 n.den = true, n.den ≠ 0] (.ret (slE (cnt (metB cs 0 n.den) n.den) m.next) (m.new (.pop (trR cs 0 n.den)) 52)))
    | none => none
  | _ => none
def trT (m : SMem) (l : List SV) : Option Tree := match trW m l with
  | some t => some t
  | none => trP m l
def bgP (m : SMem) : List SV → Option Tree
  | [.s (.c (.f (.slice i (.l 0) n _)))] => match rowR m i with
    | some cs => some (needs [cs.size = n.den * 5, InsOk cs 0 n.den, mayV cs 0 n.den = true, n.den ≠ 0] (.ret (bgS n.den m.next) (m.new (.pop (cod cs 0 n.den)) 52)))
    | none => none
  | _ => none
def bgA (m : SMem) (l : List SV) : Option Tree := match bgT m l with
  | some t => some t
  | none => bgP m l
def conS (kd : Nat) (g : FuncId) (l : List SV) (m : SMem) : Option Tree := match g, l with
  | 6, l => conA 6 l m
  | 7, l => bgA m l
  | 14, l => trT m l
  | 30, l => conK kd 30 l m
  | 31, l => conK kd 31 l m
  | 15, l => conK kd 15 l m
  | _, _ => none
end
theorem fn14t : E0.fn 14 = some Try.f14 := by kernel_rfl
theorem body14t : Try.f14.body = some (Try.f14.body.getD .skip) := by kernel_rfl
theorem rowR_get {m : SMem} {i : Nat} {cs : Array Value} (h : rowR m i = some cs) : ∃ ty wr, getB m.bl i = some ⟨.pop cs, ty, wr⟩ := rowR_of h
theorem trW_ok {m : SMem} {l : List SV} {t : Tree} (h : trW m l = some t) : Con E0 14 l m t := by
  unfold trW at h
  split at h
  case h_2 => cases h
  rename_i i o n cap
  split at h
  · rename_i cs e
    cases h
    obtain ⟨ty, wr, hb⟩ := rawI_of e
    exact Con.made (v := true) (S := slE (cnt (metB cs o.den n.den) n.den)) (l := []) (l' := []) fn14t body14t hb nil_args (fun hq => Good.trE (trim_good o.den n.den cs ty (hq _ (by simp)) (hq _ (by simp)) (hq _ (by simp)))) (fun f => rfl)
  · cases h
theorem trP_ok {m : SMem} {l : List SV} {t : Tree} (h : trP m l = some t) : Con E0 14 l m t := by
  unfold trP at h
  split at h
  case h_2 => cases h
  rename_i i n cap
  split at h
  · rename_i cs e2
    cases h
    obtain ⟨ty, wr, hb⟩ := rowR_get e2
    refine Con.madeP (S := slE (cnt (metB cs 0 n.den) n.den)) (l := []) (l' := []) fn14t body14t hb nil_args (fun hq ds hd => ?_) (fun f => rfl)
    have hs : cs.size = n.den * 5 := hq _ (by simp)
    have g := trim_good 0 n.den ds ty (as_ok hs hd (hq _ (by simp))) (by rw [as_may hs hd]; exact hq _ (by simp)) (hq _ (by simp))
    rw [as_met hs hd, as_tr hs hd] at g
    exact Good.trE g
  · cases h
theorem trT_ok {m : SMem} {l : List SV} {t : Tree} (h : trT m l = some t) : Con E0 14 l m t := by
  unfold trT at h
  split at h
  · rename_i e; cases h; exact trW_ok e
  · exact trP_ok h
theorem bgP_ok {m : SMem} {l : List SV} {t : Tree} (h : bgP m l = some t) : Con E0 7 l m t := by
  unfold bgP at h
  split at h
  case h_2 => cases h
  rename_i i n cap
  split at h
  · rename_i cs e2
    cases h
    obtain ⟨ty, wr, hb⟩ := rowR_get e2
    refine Con.madeP (S := bgS n.den) (l := []) (l' := []) fn7b body7b hb nil_args (fun hq ds hd => ?_) (fun f => rfl)
    have hs : cs.size = n.den * 5 := hq _ (by simp)
    have g := bg_good 0 n.den ds ty (as_ok hs hd (hq _ (by simp))) (by rw [as_may hs hd]; exact hq _ (by simp)) (hq _ (by simp))
    rw [as_cod hs hd] at g
    exact Good.bgR g
  · cases h
theorem bgA_ok {m : SMem} {l : List SV} {t : Tree} (h : bgA m l = some t) : Con E0 7 l m t := by
  unfold bgA at h
  split at h
  · rename_i e; cases h; exact bgT_ok e
  · exact bgP_ok h
theorem conS_ok (kd : Nat) (g : FuncId) (l : List SV) (m : SMem) (t : Tree) (h : conS kd g l m = some t) : Con E0 g l m t := by
  unfold conS at h
  split at h
  · exact conA_ok _ _ _ _ h
  · exact bgA_ok h
  · exact trT_ok h
  · exact conK_ok kd _ _ _ _ h
  · exact conK_ok kd _ _ _ _ h
  · exact conK_ok kd _ _ _ _ h
  · cases h
end Go.Proofs.Ytpohnmafnpnmeaa
