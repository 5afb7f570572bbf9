/- Of task: shifts, and TaskPlays' runs from the start. No condition. -/
import Derived.Test.YtkidmmgkfopecaaMC
import Derived.Test.YtkidmmgkfopecaaRows
import Derived.Test.YtkidmmgkfopecaaE1
import Derived.ProofKit
import Derived.OpenShut
import Derived.ChangeSame
import Derived.Deep.Slices
import Derived.Deep.Fields
import Derived.ChangeMaps5
namespace Go.Proofs.Ytkidmmgkfopecaa
set_option maxRecDepth 100000
set_option linter.unusedSectionVars false
theorem u64_mod (x : Int) : IntKind.u64.wrap x = x % 18446744073709551616 := rfl
theorem dbl_step {x : Int} {j : Nat} {b : Int} (h : b = IntKind.u64.wrap (x * 2 ^ j)) : ari .mul .u64 b 2 = IntKind.u64.wrap (x * 2 ^ (j + 1)) := by
  rw [ari_mul, h, u64_mod, u64_mod, u64_mod, Int.pow_succ, ← Int.mul_assoc]
  generalize x * 2 ^ j = y
  omega
theorem sub_good {h : Bool} {A : SV → SMem → Prop} {π : List (Nat × Nat)} {fs0 fs : List SFr} {m0 m : SMem} (hb : subOk 1 π ((cond h headF id) fs0) m0 fs m) (hg : Good Try.prog A 1 (headF fs0) m0) : Good Try.prog A 1 fs m := by
  cases h with
  | true => exact Good.of_sub hb hg
  | false => exact Good.of_sub hb (Good.head hg)
section
variable {off n : Nat} {rs : Array Value} {ty : TypeId} {k : Nat} {i nx : Int} {g : Rg} {row rrow : Array Value}
theorem N6_good {h : Bool} {A : SV → SMem → Prop} {Q : Int → Int → Prop} (hg : ∀ b j, Q b j → Good Try.prog A 1 (headF (F6 off n rs ty k i nx g row rrow b j)) (M6 off n rs ty k i nx g row rrow)) {fs : List SFr} {m : SMem} (hb : N6 off n rs ty k i nx g row rrow h Q fs m) : Good Try.prog A 1 fs m := by
  unfold N6 at hb
  split at hb
  · split at hb
    · exact sub_good hb.2 (hg _ _ hb.1)
    · exact hb.elim
  · exact hb.elim
structure Q6 (b0 j0 : Int) (b j : Int) : Prop where
  e1 : b = b0
  e2 : j = j0
theorem shl_end {x N : Int} {j : Nat} {b : Int} (h : b = IntKind.u64.wrap (x * 2 ^ j)) (hj : j = min N.toNat 64) : ari .shl .u64 x N = b := by
  rw [ari_shl, h, hj]
  rfl
theorem loop6 (h : GivP row rrow k off n rs) (hO : PNext off n rs ty k row rrow (i + 1)) (hi : 0 ≤ i) (hlt : i < n) (hnx : 0 ≤ nx ∧ nx ≤ k) (hg : g.In) (hk : nx < k ∧ intAt row (nx.toNat * 5) = 4) :
    ∀ (K j : Nat) (b : Int), 64 - j < K → j ≤ 64 → (j : Int) ≤ intAt row (nx.toNat * 5 + 4) → b = IntKind.u64.wrap (g.at (intAt row (nx.toNat * 5 + 2)).toNat * 2 ^ j) → Good Try.prog (boolR true) 1 (headF (F6 off n rs ty k i nx g row rrow b j)) (M6 off n rs ty k i nx g row rrow) := by
  have hk64 := h.g.k64
  have hn200 := h.g.n200
  have hsz := h.g.size
  have hext : Array.extract row 0 (k * 5) = row := by rw [← hsz, Array.extract_size]
  obtain ⟨hr1, hr2, hr3⟩ := h.g.res.at' i.toNat (by omega)
  obtain ⟨hv, hw⟩ := h.rng i.toNat (by omega)
  have hdi : decide (i < (n : Int)) = true := decide_eq_true hlt
  have ei : ari BinOp.add IntKind.i64 i 1 = i + 1 := add1 (by omega)
  have hW : IntKind.i64.wrap (intAt rs (off + i.toNat * 3 + 2)) = intAt rs (off + i.toNat * 3 + 2) := Go.IntWalk.i64_in _ (by omega)
  obtain ⟨hlk, hop⟩ := hk
  obtain ⟨hI, h8, hj⟩ := in8_at h ⟨hnx.1, hlk⟩
  obtain ⟨hR, e0, e1, e2, e3, e4⟩ := rr_at h ⟨hnx.1, hlk⟩
  have h8R : in8 rrow (nx.toNat * 5) := by
    unfold in8
    rw [e1, e2, e3, e4]
    exact h8
  obtain ⟨i1, i2, i3, i4, i5⟩ := hR
  have hRR : RowAt rrow (nx.toNat * 5) := ⟨i1, i2, i3, i4, i5⟩
  have h8' := h8
  unfold in8 at h8'
  have hA8 : decide (intAt row (nx.toNat * 5 + 1) < 8) = true := decide_eq_true h8'.1.2
  have en : ari BinOp.add IntKind.i64 nx 1 = nx + 1 := add1 (by omega)
  have h4 : IntKind.i64.wrap (intAt row (nx.toNat * 5 + 4)) = intAt row (nx.toNat * 5 + 4) := Go.IntWalk.i64_in _ (by omega)
  have hnk : decide (nx ≥ (k : Int)) = false := decide_eq_false (by omega)
  have hx0 : intAt row (nx.toNat * 5) = 4 := hop
  intro K
  induction K with
  | zero => intro j b h1; omega
  | succ K ih =>
    intro j b h1 h64 hjN hb
    by_cases hN : (j : Int) < intAt row (nx.toNat * 5 + 4)
    · have dN : (decide ((j : Int) < intAt row (nx.toNat * 5 + 4)) == true) = true := by simpa using hN
      by_cases h6 : j < 64
      · have d6 : decide ((j : Int) < 64) = true := decide_eq_true (by omega)
        have ej : ari BinOp.add IntKind.i64 (j : Int) 1 = ((j + 1 : Nat) : Int) := by rw [add1 (by omega)]; rfl
        refine past_way (EP_ok 6 true true) 1000 (pl_6g off n rs ty k i nx g row rrow b j (Q6 (ari .mul .u64 b 2) ((j + 1 : Nat) : Int))) ?_ (fun _ _ h => h)
          (fun fs m hb' => N6_good (fun b' j' ⟨a1, a2⟩ => by rw [a1, a2]; exact ih (j + 1) _ (by omega) (by omega) (by omega) (dbl_step hb)) hb')
        have hQ : Q6 (ari .mul .u64 b 2) ((j + 1 : Nat) : Int) (ari .mul .u64 b 2) ((j + 1 : Nat) : Int) := ⟨rfl, rfl⟩
        simp only [Nat.zero_add, e4, ej]
        clear hO ih
        repeat' first | exact trivial | exact hQ | exact dN | exact d6 | exact pT_1 | exact pT_2 | exact pH_2 | exact td_3 | exact td_4 | exact td_5 | exact td_6 | exact td_7 | exact rfl | apply And.intro
      · have d6 : decide ((j : Int) < 64) = false := decide_eq_false (by omega)
        have hs : ari .shl .u64 (g.at (intAt row (nx.toNat * 5 + 2)).toNat) (intAt row (nx.toNat * 5 + 4)) = b := shl_end hb (by omega)
        refine past_way (EP_ok 6 true true) 1000 (pl_6y off n rs ty k i nx g row rrow b j (QP k row rrow (i + 1))) ?_ (fun _ _ h => h) (fun fs m hb => next_of hO hb)
        have hQ : ∀ (t : Nat) (v : Int), W64 v → QP k row rrow (i + 1) (i + 1) (nx + 1) ⟨selI (2 + t) 2 v g.r0, selI (2 + t) 3 v g.r1, selI (2 + t) 4 v g.r2, selI (2 + t) 5 v g.r3, selI (2 + t) 6 v g.r4, selI (2 + t) 7 v g.r5, selI (2 + t) 8 v g.r6, selI (2 + t) 9 v g.r7⟩ row rrow := fun t v hv => ⟨rfl, by omega, by omega, in_set hg t hv, rfl, rfl⟩
        have hbr : W64 b := by rw [hb]; exact w64_wrap _
        simp only [at5, Nat.zero_add, Nat.mul_one, Nat.add_sub_cancel_left, hext, eta_rg, at_rg, ei, hW, beq_self_eq_true, Bool.and_true, Bool.and_self, Bool.not_true, e0, e1, e2, e3, e4, en, h4, hA8, hx0, hs]
        clear hO ih
        repeat' first | exact trivial | exact hQ _ _ hbr | exact dN | exact d6 | exact rfl | exact hdi | exact hr1 | exact hr2 | exact hr3 | exact hI | exact hRR | exact h8 | exact h8R | exact hnk | exact i1 | exact i2 | exact i3 | exact i4 | exact i5 | exact pT_1 | exact pT_2 | exact pH_2 | exact td_3 | exact td_4 | exact td_5 | exact td_6 | exact td_7 | omega | decide | apply And.intro
    · have dN : (decide ((j : Int) < intAt row (nx.toNat * 5 + 4)) == true) = false := by simpa using hN
      have hs : ari .shl .u64 (g.at (intAt row (nx.toNat * 5 + 2)).toNat) (intAt row (nx.toNat * 5 + 4)) = b := shl_end hb (by omega)
      refine past_way (EP_ok 6 true true) 1000 (pl_6x off n rs ty k i nx g row rrow b j (QP k row rrow (i + 1))) ?_ (fun _ _ h => h) (fun fs m hb => next_of hO hb)
      have hQ : ∀ (t : Nat) (v : Int), W64 v → QP k row rrow (i + 1) (i + 1) (nx + 1) ⟨selI (2 + t) 2 v g.r0, selI (2 + t) 3 v g.r1, selI (2 + t) 4 v g.r2, selI (2 + t) 5 v g.r3, selI (2 + t) 6 v g.r4, selI (2 + t) 7 v g.r5, selI (2 + t) 8 v g.r6, selI (2 + t) 9 v g.r7⟩ row rrow := fun t v hv => ⟨rfl, by omega, by omega, in_set hg t hv, rfl, rfl⟩
      have hbr : W64 b := by rw [hb]; exact w64_wrap _
      simp only [at5, Nat.zero_add, Nat.mul_one, Nat.add_sub_cancel_left, hext, eta_rg, at_rg, ei, hW, beq_self_eq_true, Bool.and_true, Bool.and_self, Bool.not_true, e0, e1, e2, e3, e4, en, h4, hA8, hx0, hs]
      clear hO ih
      repeat' first | exact trivial | exact hQ _ _ hbr | exact dN | exact rfl | exact hdi | exact hr1 | exact hr2 | exact hr3 | exact hI | exact hRR | exact h8 | exact h8R | exact hnk | exact i1 | exact i2 | exact i3 | exact i4 | exact i5 | exact pT_1 | exact pT_2 | exact pH_2 | exact td_3 | exact td_4 | exact td_5 | exact td_6 | exact td_7 | omega | decide | apply And.intro
theorem pk_6 (h : GivP row rrow k off n rs) (hO : PNext off n rs ty k row rrow (i + 1)) (hi : 0 ≤ i) (hlt : i < n) (hnx : 0 ≤ nx ∧ nx ≤ k) (hg : g.In) (hk : nx < k ∧ intAt row (nx.toNat * 5) = 4) :
    Good Try.prog (boolR true) 1 (pH off n i) (pM rs ty k nx g row rrow) := by
  have hk64 := h.g.k64
  have hn200 := h.g.n200
  have hsz := h.g.size
  have hext : Array.extract row 0 (k * 5) = row := by rw [← hsz, Array.extract_size]
  obtain ⟨hr1, hr2, hr3⟩ := h.g.res.at' i.toNat (by omega)
  obtain ⟨hv, hw⟩ := h.rng i.toNat (by omega)
  have hdi : decide (i < (n : Int)) = true := decide_eq_true hlt
  have ei : ari BinOp.add IntKind.i64 i 1 = i + 1 := add1 (by omega)
  have hW : IntKind.i64.wrap (intAt rs (off + i.toNat * 3 + 2)) = intAt rs (off + i.toNat * 3 + 2) := Go.IntWalk.i64_in _ (by omega)
  obtain ⟨hlk, hop⟩ := hk
  obtain ⟨hI, h8, hj⟩ := in8_at h ⟨hnx.1, hlk⟩
  obtain ⟨hR, e0, e1, e2, e3, e4⟩ := rr_at h ⟨hnx.1, hlk⟩
  have h8R : in8 rrow (nx.toNat * 5) := by
    unfold in8
    rw [e1, e2, e3, e4]
    exact h8
  obtain ⟨i1, i2, i3, i4, i5⟩ := hR
  have hRR : RowAt rrow (nx.toNat * 5) := ⟨i1, i2, i3, i4, i5⟩
  have h8' := h8
  unfold in8 at h8'
  have hA8 : decide (intAt row (nx.toNat * 5 + 1) < 8) = true := decide_eq_true h8'.1.2
  have en : ari BinOp.add IntKind.i64 nx 1 = nx + 1 := add1 (by omega)
  have h4 : IntKind.i64.wrap (intAt row (nx.toNat * 5 + 4)) = intAt row (nx.toNat * 5 + 4) := Go.IntWalk.i64_in _ (by omega)
  have hnk : decide (nx ≥ (k : Int)) = false := decide_eq_false (by omega)
  have hx0 : intAt row (nx.toNat * 5) = 4 := hop
  have hQ : Q6 (g.at (intAt row (nx.toNat * 5 + 2)).toNat) 0 (g.at (intAt row (nx.toNat * 5 + 2)).toNat) 0 := ⟨rfl, rfl⟩
  have hx := at_in hg (intAt row (nx.toNat * 5 + 2)).toNat
  unfold W64 at hx
  refine past_way (EP_ok 6 true true) 1000 (pl_6 off n rs ty k i nx g row rrow (Q6 (g.at (intAt row (nx.toNat * 5 + 2)).toNat) 0)) ?_ (fun _ _ h => h)
    (fun fs m hb => N6_good (fun b j ⟨a1, a2⟩ => by
      rw [a1, a2]
      exact loop6 h hO hi hlt hnx hg ⟨hlk, hx0⟩ 65 0 _ (by omega) (by omega) (by omega) (by rw [u64_mod, Int.pow_zero, Int.mul_one]; omega)) hb)
  simp only [at5, Nat.zero_add, Nat.mul_one, Nat.add_sub_cancel_left, hext, eta_rg, at_rg, ei, hW, beq_self_eq_true, Bool.and_true, Bool.and_self, Bool.not_true, e0, e1, e2, e3, e4, en, h4, hA8, hx0]
  clear hO
  repeat' first | exact trivial | exact hQ | exact rfl | exact hdi | exact hr1 | exact hr2 | exact hr3 | exact hI | exact hRR | exact h8 | exact h8R | exact hnk | exact i1 | exact i2 | exact i3 | exact i4 | exact i5 | exact pT_1 | exact pT_2 | exact pH_2 | exact td_3 | exact td_4 | exact td_5 | exact td_6 | exact td_7 | omega | decide | apply And.intro
theorem pk_round (h : GivP row rrow k off n rs) : ∀ (K : Nat) (i nx : Int) (g : Rg), (n : Int) - i < K → 0 ≤ i → i ≤ n → 0 ≤ nx → nx ≤ k → g.In → Good Try.prog (boolR true) 1 (pH off n i) (pM rs ty k nx g row rrow) := by
  intro K
  induction K with
  | zero => intro i nx g h1 h2 h3; omega
  | succ K ih =>
    intro i nx g h1 h2 h3 h4 h5 hg
    by_cases hin : i < n
    case neg =>
      have hd : decide (i < (n : Int)) = false := decide_eq_false hin
      refine past_way (EP_ok 0 true false) 1000 (pl_end off n rs ty k i nx g row rrow) ?_ (fun _ _ h => h) (fun fs m hb => hb.elim)
      repeat' first | exact trivial | exact hd | exact rfl | apply And.intro
    have hO : PNext off n rs ty k row rrow (i + 1) := ⟨fun nx g a b c => ih (i + 1) nx g (by omega) (by omega) (by omega) a b c⟩
    by_cases hb : (k : Int) ≤ nx
    · exact pk_0 h hO h2 hin ⟨h4, h5⟩ hg hb
    have hlk : nx < k := by omega
    obtain ⟨_, _, hop, _⟩ := g_in8 h.g ⟨h4, hlk⟩
    simp only [at5, Nat.zero_add] at hop
    have cases9 : intAt row (nx.toNat * 5) = 0 ∨ (16 < intAt row (nx.toNat * 5) ∧ intAt row (nx.toNat * 5) ≤ 38) ∨ intAt row (nx.toNat * 5) = 1 ∨ intAt row (nx.toNat * 5) = 2 ∨ intAt row (nx.toNat * 5) = 3 ∨ intAt row (nx.toNat * 5) = 4 ∨ intAt row (nx.toNat * 5) = 5 ∨ intAt row (nx.toNat * 5) = 6 := by omega
    rcases cases9 with c | c | c | c | c | c | c | c
    · exact pk_1 h hO h2 hin ⟨h4, h5⟩ hg ⟨hlk, c⟩
    · exact pk_2 h hO h2 hin ⟨h4, h5⟩ hg ⟨hlk, c⟩
    · exact pk_3 h hO h2 hin ⟨h4, h5⟩ hg ⟨hlk, c⟩
    · exact pk_4 h hO h2 hin ⟨h4, h5⟩ hg ⟨hlk, c⟩
    · exact pk_5 h hO h2 hin ⟨h4, h5⟩ hg ⟨hlk, c⟩
    · exact pk_6 h hO h2 hin ⟨h4, h5⟩ hg ⟨hlk, c⟩
    · exact pk_7 h hO h2 hin ⟨h4, h5⟩ hg ⟨hlk, c⟩
    · by_cases hz : g.at (intAt row (nx.toNat * 5 + 1)).toNat = 0
      · exact pk_8f h hO h2 hin ⟨h4, h5⟩ hg ⟨hlk, c⟩ hz
      · exact pk_8t h hO h2 hin ⟨h4, h5⟩ hg ⟨hlk, c⟩ hz
theorem zp_round (hn : n ≤ 200) (hr : ResOk rs off n) : ∀ (K : Nat) (i : Int), (n : Int) - i < K → 0 ≤ i → i ≤ n → Good Try.prog (boolR true) 1 (zPH off n i) (zPM rs ty) := by
  intro K
  induction K with
  | zero => intro i h1 h2 h3; omega
  | succ K ih =>
    intro i h1 h2 h3
    refine past_vc (EP_ok 0 true false) 3000 (pl_z1 off n rs ty i (fun i' => i' = i + 1 ∧ i < n)) ?_ (fun _ _ h => h) (fun fs m hb => zPN_good (fun i' ⟨e, hlt⟩ => by rw [e]; exact ih (i + 1) (by omega) (by omega) (by omega)) hb)
    refine ⟨fun h => ?_, fun _ => rfl⟩
    have hlt := of_decide_eq_true h
    obtain ⟨a, b, c⟩ := hr.at' i.toNat (by omega)
    rw [add1 (by omega)]
    have hQ : i + 1 = i + 1 ∧ i < n := ⟨rfl, hlt⟩
    repeat' first | exact hQ | exact trivial | exact pH_2 | exact a | exact b | exact c | exact h2 | exact hlt | exact rfl | apply And.intro
end
structure ResP (rs : Array Value) (off n : Nat) : Prop where
  ok : ResOk rs off n
  rng : ∀ i, i < n → W64 (intAt rs (off + i * 3 + 1)) ∧ (0 ≤ intAt rs (off + i * 3 + 2) ∧ intAt rs (off + i * 3 + 2) ≤ 4294967295)
theorem givp_of {b : ByteArray} {off n : Nat} {rs : Array Value} (hd : decOk b = true) (hn : n ≤ 200) (hr : ResP rs off n) : GivP (rowD b) (rdRow b) (sizeD b) off n rs := by
  have hG := given_of hd hn hr.ok
  refine ⟨hG, ?_, hr.rng⟩
  have h64 := hG.k64
  obtain ⟨h1, h2⟩ := rd_row b (n := sizeD b) (by omega)
  intro i hi
  refine ⟨h1.2 i hi, (h2 i hi).trans ?_⟩
  exact (dec_ins (s := b) (k := sizeD b) hi).symm
noncomputable section
def pE1 : Tree := run (EP 0 false false) 3000 1 (playC litE e0V) M1
def pE2 (b : ByteArray) : Tree := run (EP 0 false false) 3000 1 (playC (strV b) e0V) M1
end
theorem pE1_true : pE1.allTrue = true := by kernel_rfl
theorem plays1 : Good Try.prog (boolR true) 1 (playC litE e0V) M1 := (good_true (EP_ok 0 false false) pE1_true).mono fun s m h => by rw [h]; rfl
theorem pl_e2 (b : ByteArray) : (pE2 b).vc (boolR true) (fun _ _ => False) = (((decide ((↑(ByteArray.size b) : Int) > (1000 : Int)) == false) = true → (ByteArray.size b ≠ (0 : Nat) ∧ ByteArray.size b < (9223372036854775807 : Nat) ∧ True) ∧ (decOk b = true → (ByteArray.size b ≠ (0 : Nat) ∧ ByteArray.size b ≤ (1000 : Nat) ∧ True) ∧ (refOk b = true → true = true) ∧ (refOk b = false → false = true)) ∧ (decOk b = false → (ByteArray.size b ≠ (0 : Nat) ∧ ByteArray.size b ≤ (1000 : Nat) ∧ True) ∧ (refOk b = true → false = true) ∧ (refOk b = false → true = true))) ∧ ((decide ((↑(ByteArray.size b) : Int) > (1000 : Int)) == false) = false → true = true)) := by kernel_rfl
theorem plays2 {b : ByteArray} (hb0 : b.size ≠ 0) : Good Try.prog (boolR true) 1 (playC (strV b) e0V) M1 := by
  refine run_vc (EP_ok 0 false false) 3000 (pl_e2 b) ?_ (fun _ _ h => h) (fun _ _ h => h.elim)
  refine ⟨fun h => ?_, fun _ => rfl⟩
  have hl : b.size ≤ 1000 := by simp at h; omega
  refine ⟨⟨hb0, by omega, trivial⟩, fun hd => ⟨⟨hb0, hl, trivial⟩, fun _ => rfl, fun hr => ?_⟩, fun hd => ⟨⟨hb0, hl, trivial⟩, fun hr => ?_, fun _ => rfl⟩⟩
  · rw [refOk_eq b hl, hd] at hr; cases hr
  · rw [refOk_eq b hl, hd] at hr; cases hr
section
variable {off n : Nat} {rs : Array Value} {ty : TypeId}
theorem plays3 (hr : n ≤ 200 → ResP rs off n) : Good Try.prog (boolR true) 1 (playC litE (prS off n)) (prM true rs ty) := by
  refine run_vc (EP_ok 0 true false) 1000 (pl_z off n rs ty (fun i => i = 0 ∧ n ≤ 200)) ?_ (fun _ _ h => h) (fun fs m hb => zPN_good (fun i ⟨e, hn⟩ => by rw [e]; exact zp_round hn (hr hn).ok (n + 1) 0 (by omega) (by omega) (by omega)) hb)
  refine ⟨fun _ => rfl, fun h => ?_⟩
  have hn : n ≤ 200 := by simp at h; omega
  have hQ : (0 : Int) = 0 ∧ n ≤ 200 := ⟨rfl, hn⟩
  repeat' first | exact hQ | exact hn | exact trivial | exact pT_2 | exact rfl | apply And.intro
theorem zero_in : Rg.In ⟨0, 0, 0, 0, 0, 0, 0, 0⟩ := by
  have h : W64 0 := ⟨Int.le_refl 0, by decide⟩
  exact ⟨h, h, h, h, h, h, h, h⟩
structure QS (b : ByteArray) (n : Nat) (i nx : Int) (g : Rg) (row rrow : Array Value) : Prop where
  e1 : i = 0
  e2 : nx = 0
  e3 : g.In
  e4 : row = rowD b
  e5 : rrow = rdRow b
  hd : decOk b = true
  hn : n ≤ 200
theorem plays4 {b : ByteArray} (hb0 : b.size ≠ 0) (hr : n ≤ 200 → ResP rs off n) : Good Try.prog (boolR true) 1 (playC (strV b) (prS off n)) (prM true rs ty) := by
  refine run_vc (EP_ok 0 true false) 1000 (pl_start b off n rs ty (sizeD b) (QS b n)) ?_ (fun _ _ h => h)
    (fun fs m hb => pN_good (fun i nx g row rrow ⟨e1, e2, e3, e4, e5, hd, hn⟩ => by rw [e1, e2, e4, e5]; exact pk_round (givp_of hd hn (hr hn)) (n + 1) 0 0 g (by omega) (by omega) (by omega) (by omega) (by omega) e3) hb)
  refine ⟨fun h => ⟨fun _ => rfl, fun h2 => ?_⟩, fun _ => rfl⟩
  have hl : b.size ≤ 1000 := by simp at h; omega
  have hn : n ≤ 200 := by simp at h2; omega
  refine ⟨⟨hb0, by omega, trivial⟩, fun hd => ⟨⟨hb0, hl, trivial⟩, fun _ => ?_, fun hr => ?_⟩, fun hd => ⟨⟨hb0, hl, trivial⟩, fun hr => ?_, fun _ => rfl⟩⟩
  · have hQ : QS b n 0 0 ⟨0, 0, 0, 0, 0, 0, 0, 0⟩ (rowD b) (rdRow b) := ⟨rfl, rfl, zero_in, rfl, rfl, hd, hn⟩
    repeat' first | exact hQ | exact trivial | exact pT_1 | exact rfl | apply And.intro
  · rw [refOk_eq b hl, hd] at hr; cases hr
  · rw [refOk_eq b hl, hd] at hr; cases hr
end
end Go.Proofs.Ytkidmmgkfopecaa
/- How a call of data enters the symbolic machine, and how what it leaves is told; without package-level variables. No condition. -/
namespace Go.Proofs.Ytkidmmgkfopecaa
noncomputable section
open Go.ChangeShapes Go.WideShapes Go.ChangeAt Go.RowKit Go.Deep

theorem own : ownKnob Try.prog.godebug = none := by kernel_rfl
theorem laidOut : laidOutB Try.prog = true := by kernel_rfl
theorem sub_get {l : List Value} {a b o : Nat} {v : Value} (h : ((l.drop a).take b)[o]? = some v) : l[a + o]? = some v := by
  rw [List.getElem?_take] at h
  split at h
  · rw [List.getElem?_drop] at h; exact h
  · cases h
theorem sub_one {l : List Value} {a b : Nat} {v : Value} (h : (l.drop a).take b = [v]) : l[a]? = some v := by
  have : ((l.drop a).take b)[0]? = some v := by rw [h]; rfl
  exact sub_get this
section
variable {H : Type} {enc : TypeId × Value → H} {P : Program} {w : World} {base : Nat} {spare : Nat → Bool} {held : Bool}
theorem field_of {t : TypeId} {fs : Array Field} {fuel : Nat} {cs : List Value} {x : DataW H × List MemPlace} (ht : P.underlying t = some (.struct fs)) (h : DataW.trod enc P w base spare held fuel t cs = some x)
    (i : Nat) {f : Field} (hf : fs[i]? = some f) : ∃ n y, DataW.trod enc P w base spare held n f.type ((cs.drop f.offset).take (P.cellsOf f.type)) = some y := by
  obtain ⟨ys, n, _, _, _, hyl, hg⟩ := DataW.trod_struct ht h
  have hlt : i < fs.size := (Array.getElem?_eq_some_iff.1 hf).1
  have hys : ys[i]? = some (ys[i]'(by omega)) := List.getElem?_eq_getElem (by omega)
  exact ⟨n, _, (hg i f hf).trans hys⟩
theorem add_none (b off n : Nat) : (⟨b, off, none⟩ : Addr).add n = ⟨b, off + n, none⟩ := by
  unfold Addr.add
  split
  · rename_i e; subst e; rfl
  · rfl
/-- A slice that came in: where it lies, and each element as it reads. -/
theorem slice_cells {t e : TypeId} {base' C : Nat} {fuel : Nat} {A : Option Addr} {len cap : Nat} {x : DataW H × List MemPlace} (ht : P.underlying t = some (.slice e)) (hC : P.cellsOf e = C)
    (hok : Value.okWide P w .any base t (.slice A len cap)) (h : DataW.trod enc P w base' (fun _ => true) held fuel t [.slice A len cap] = some x) :
    (A = none ∧ len = 0 ∧ cap = 0) ∨ ∃ b off cs ty fz, A = some ⟨b, off, none⟩ ∧ len ≤ cap ∧ cap ≤ maxLen ∧ w.heap[b]? = some (.cells cs ty fz) ∧
      ∀ j, j < len → ∃ n y, DataW.trod enc P w base' (fun _ => true) held n e ((cs.toList.drop (off + j * C)).take C) = some y := by
  rcases open_slice ht h with ⟨hcs, hx⟩ | ⟨a, len', cap', m, n, D, Pl, hcs, _, hl, hmx, hm, hx, hi⟩
  · simp at hcs
    exact .inl hcs
  · simp at hcs
    obtain ⟨rfl, rfl, rfl⟩ := hcs
    simp at hm
    subst hm
    obtain ⟨b, off, spot⟩ := a
    simp only [Value.okWide, ht, Cell.okWide, Cell.ok] at hok
    obtain ⟨_, _, _, hs, _, _, hsh, _⟩ := hok
    have hs : spot = none := hs
    subst hs
    cases ho : w.heap[b]? with
    | none => simp [World.shape?, ho] at hsh
    | some o =>
      have hcells : ∃ cs ty fz, o = .cells cs ty fz := by
        cases o <;> first | exact ⟨_, _, _, rfl⟩ | simp [World.shape?, ho] at hsh
      obtain ⟨cs, ty, fz, rfl⟩ := hcells
      refine .inr ⟨b, off, cs, ty, fz, rfl, hl, hmx, ho, fun j hj => ?_⟩
      obtain ⟨cs', hc, ht'⟩ := hi j (by omega)
      rw [hC] at hc
      obtain ⟨_, hcl, hat⟩ := World.cells?_some hc
      refine ⟨n, (D j, Pl j), ?_⟩
      rw [← ht']
      congr 1
      apply List.ext_getElem?
      intro i
      rw [List.getElem?_take]
      by_cases hi' : i < C
      · rw [if_pos hi', ← hat i hi', add_none, add_none]
        simp [World.cell?, ho, Nat.add_assoc]
      · rw [if_neg hi', List.getElem?_eq_none (by omega)]
theorem post_of_below {f : Func} {s : ChangeSpec} {apart fresh handsOn again : Bool} {W W' : World} {args : Array Value} {v : Value} {ds gs : List (DataW H)} {before pa pv : List MemPlace}
    (hW : DataW.Whole enc P f.params.toList s.vars apart W args.toList ds gs before)
    (hres : ∀ (b : Nat) (sp : Nat → Bool) (hd : Bool), DataW.TrodAll enc P W' b sp hd f.resultTypes.toList (v.resultList f.resultTypes.size) (s.fn H (ds ++ gs)).results [])
    (hargs : ∀ sp : Nat → Bool, (∀ p ∈ before, sp p.block = true) → DataW.TrodAll enc P W' 0 sp true f.params.toList args.toList (s.fn H (ds ++ gs)).args pa)
    (hvars : ∀ sp : Nat → Bool, (∀ p ∈ before, sp p.block = true) → DataW.TrodVars enc P W' sp s.vars (s.fn H (ds ++ gs)).vars pv)
    (hps : before = pa ++ pv) (hb : Below W.heap.size W W')
    (hok : ∀ (j : Nat) (t : TypeId) (r : Value), f.resultTypes[j]? = some t → (v.resultList f.resultTypes.size)[j]? = some r → Value.okWide P W' .any 0 t r) :
    s.post enc P f apart fresh handsOn again W args v W' := by
  have hlt : ∀ p ∈ before, p.block < W.heap.size := fun p hp => hW.lt p hp
  have hold : ∀ p ∈ before, (fun b => decide (b < W.heap.size)) p.block = true := fun p hp => by simpa using hlt p hp
  refine ⟨ds, gs, before, [], pa, pv, hW, hres _ _ _, hargs _ hold, hvars _ hold, World.keptBut_mono (fun p hp => ⟨hp, ?_⟩) (hb.frame (· ∈ before)), fun _ => ?_⟩
  · rw [hps, List.mem_append] at hp
    exact Or.inr hp
  · obtain ⟨_, _, _, _, _, hz, hn⟩ := hW
    refine ⟨hok, _, _, ([] ++ pa) ++ pv, ⟨[] ++ pa, pv, trodAll_append (hargs _ (fun _ _ => rfl)) (hres _ _ _), hvars _ (fun _ _ => rfl), rfl, ?_, ?_⟩, ?_⟩
    · intro b off hp
      have hin : MemPlace.cell b off ∈ before := by rw [hps]; simpa using hp
      rw [hb.frozen (hlt _ hin)]
      exact hz b off hin
    · intro ha
      have := hn ha
      rw [hps] at this
      simpa using this
    · intro p hp _
      rw [hps]
      simpa using hp
end
theorem below_of {n0 : Nat} {w0 w : World} (h : BelowF n0 (fun _ => False) w0 w) : Below n0 w0 w := ⟨h.os, h.tape, h.output, h.size, fun k hk => h.block k hk fun x => x⟩
theorem rel_empty (hg : glTab = []) (W : World) (n : Nat) : Rel W.heap.size (fun _ => False) W (fun _ => none) ⟨n, .nil, []⟩ W :=
  ⟨fun _ _ _ _ _ _ h => by (cases h), fun _ _ h => by (cases h), fun _ _ h => by (cases h), fun i b h => by (have h : (Tr.nil : Tr SBlk).get i = some b := h; rw [Tr.get_nil] at h; cases h), Nat.le_refl _, BelowF.refl _ _ _,
    fun _ _ h => by (cases h), fun _ _ _ _ _ _ h => by (cases h), fun g cs h => by rw [hg] at h; cases h⟩
/-- One block came in, at which nothing is written. -/
def oneD (ds : Array Value) (ty : TypeId) : SMem := ⟨1, Tr.node .nil (some ⟨.raw ds, ty, false⟩) .nil, []⟩
theorem one_get {ds : Array Value} {ty : TypeId} {i : Nat} {b : SBlk} (h : getB (oneD ds ty).bl i = some b) : i = 0 ∧ b = ⟨.raw ds, ty, false⟩ := by
  unfold getB oneD at h
  cases i with
  | zero => cases h; exact ⟨rfl, rfl⟩
  | succ i =>
    rw [Tr.get_succ, Tr.get_nil, ite_self] at h
    cases h
theorem rel_one (hg : glTab = []) {W : World} {b : Nat} {cs : Array Value} {ty : TypeId} {fz : Nat × Nat} (hb : W.heap[b]? = some (.cells cs ty fz)) :
    Rel W.heap.size (fun _ => False) W (fun i => if i = 0 then some ⟨b, cs.size⟩ else none) (oneD cs ty) W := by
  have key : ∀ {i : Nat} {g : Loc}, (if i = 0 then some (⟨b, cs.size⟩ : Loc) else none) = some g → i = 0 ∧ g = ⟨b, cs.size⟩ := by
    intro i g h
    split at h
    · rename_i e; cases h; exact ⟨e, rfl⟩
    · cases h
  have hlt : b < W.heap.size := (Array.getElem?_eq_some_iff.1 hb).1
  refine ⟨fun i j g h b c h1 h2 _ _ _ _ => by rw [(key h1).1, (key h2).1], fun i g h => by rw [(key h).2]; exact hlt, fun i g h => by rw [(key h).1]; exact Nat.zero_lt_one, fun i c hc => ?_, Nat.le_refl _, BelowF.refl _ _ _,
    fun _ _ h => by (cases h), fun _ _ _ _ _ _ _ _ _ h => by (cases h), fun g cs h => by rw [hg] at h; cases h⟩
  obtain ⟨rfl, rfl⟩ := one_get hc
  exact ⟨⟨b, cs.size⟩, cs, fz, rfl, hb, rfl, rfl, fun h => by cases h⟩
end
end Go.Proofs.Ytkidmmgkfopecaa
/- For every string and every row of results, bailiwicklaw14.TaskGoes returns true, and each argument reads behind the call as it did before. No condition. -/
namespace Go.Proofs.Ytkidmmgkfopecaa
set_option maxRecDepth 100000
open Go.ChangeShapes Go.WideShapes Go.ChangeAt Go.RowKit Go.Deep
theorem cells53 : Try.prog.cellsOf 53 = 3 := by kernel_rfl
theorem gl_nil : glTab = [] := rfl
theorem isInt_of {k : IntKind} {cs : Array Value} {i : Nat} {n : Int} (h : cs.toList[i]? = some (.int k n)) : IsInt k cs i := by
  rw [Array.getElem?_toList] at h
  exact (intAt_is h).2
theorem res_of {H : Type} {enc : TypeId × Value → H} {W : World} {base : Nat} {held : Bool} {n : Nat} {cs : Array Value} {off i : Nat} {y : DataW H × List MemPlace}
    (h : DataW.trod enc Try.prog W base (fun _ => true) held n 53 ((cs.toList.drop (off + i * 3)).take 3) = some y) : IsInt .i64 cs (off + i * 3) ∧ IsInt .u64 cs (off + i * 3 + 1) ∧ IsInt .u32 cs (off + i * 3 + 2) := by
  obtain ⟨n0, y0, h0⟩ := field_of Try.underlying53 h 0 rfl
  obtain ⟨n1, y1, h1⟩ := field_of Try.underlying53 h 1 rfl
  obtain ⟨n2, y2, h2⟩ := field_of Try.underlying53 h 2 rfl
  obtain ⟨m0, e0, _, w0⟩ := DataW.trod_int Try.underlying29 h0
  obtain ⟨m1, e1, _, w1⟩ := DataW.trod_int Try.underlying25 h1
  obtain ⟨m2, e2, _, w2⟩ := DataW.trod_int Try.underlying38 h2
  have a0 := isInt_of (sub_get (sub_one e0))
  have a1 := isInt_of (sub_get (sub_one e1))
  have a2 := isInt_of (sub_get (sub_one e2))
  exact ⟨a0, a1, a2⟩
/-- A row of results that came in: empty, or so many cells of a block. -/
def ResIn (W : World) (v : Value) : Prop :=
  (∃ a c, v = .slice a 0 c) ∨ ∃ b off n cap cs ty fz, v = .slice (some ⟨b, off, none⟩) n cap ∧ n ≠ 0 ∧ n ≤ cap ∧ W.heap[b]? = some (.cells cs ty fz) ∧ (n ≤ 200 → ResOk cs off n)
theorem res_in {H : Type} {enc : TypeId × Value → H} {W : World} {base base' : Nat} {fuel : Nat} {v : Value} {held : Bool} {x : DataW H × List MemPlace}
    (hok : Value.okWide Try.prog W .any base 22 v) (h : DataW.trod enc Try.prog W base' (fun _ => true) held fuel 22 [v] = some x) : ResIn W v := by
  obtain ⟨A, len, cap, rfl⟩ := okWide_slice Try.underlying22 hok
  rcases slice_cells Try.underlying22 cells53 hok h with ⟨rfl, rfl, rfl⟩ | ⟨b, off, cs, ty, fz, rfl, hl, _, ho, hj⟩
  · exact .inl ⟨_, _, rfl⟩
  · by_cases h0 : len = 0
    · subst h0; exact .inl ⟨_, _, rfl⟩
    · refine .inr ⟨b, off, len, cap, cs, ty, fz, rfl, h0, hl, ho, fun hn => ⟨fun i hi => ?_⟩⟩
      obtain ⟨n, y, hy⟩ := hj i hi
      exact res_of hy
theorem body4 : Try.f4.body = some (Try.f4.body.getD .skip) := rfl
theorem boolR_true {R : Ren} {s : SV} {m : SMem} {v : Value} (h : boolR true s m) (hv : s.ok R v) : v = .bool true := by
  unfold boolR at h
  split at h
  · have hv : v = .bool _ := hv
    rw [hv, h]
  · exact h.elim
theorem calls_of {W : World} {x y : SV} {m : SMem} {R : Ren} {v u : Value} (hm : m.next = 1) (hg : Good Try.prog (boolR true) 1 (goesC x y) m) (hx : x.ok R v) (hy : y.ok R u) (hR : Rel W.heap.size (fun _ => False) W R m W) :
    Calls Try.prog 4 #[v, u] W fun e w' => e = .returned (.bool true) ∧ Below W.heap.size W w' := by
  have hl : All2 (SV.ok R) [x, y] (#[v, u] : Array Value).toList := ⟨hx, hy, trivial⟩
  have hg : Good Try.prog (boolR true) m.next (goesC x y) m := by rw [hm]; exact hg
  have h := answers_of_good Try.func4 body4 hg hl hR
  unfold Answers at h
  refine h.mono ?_
  rintro e w' ⟨v, rfl, s', m', R', hr, _, hR', hv⟩
  exact ⟨by rw [boolR_true hr hv], below_of hR'.fr⟩
theorem empty_of {b : ByteArray} (h : b.size = 0) : b = ⟨⟨[]⟩⟩ := by
  apply ByteArray.ext
  exact Array.eq_empty_of_size_eq_zero h
theorem goes_call {W : World} {v : Value} {b : ByteArray} (hv : ResIn W v) :
    Calls Try.prog 4 #[.string b, v] W fun e w' => e = .returned (.bool true) ∧ Below W.heap.size W w' := by
  by_cases h0 : b.size = 0
  · have e := empty_of h0
    subst e
    rcases hv with ⟨a, c, rfl⟩ | ⟨b, off, n, cap, cs, ty, fz, rfl, hn, hl, hb, hI⟩
    · exact calls_of rfl goes1 ⟨rfl, rfl⟩ ⟨a, c, rfl⟩ (rel_empty gl_nil W 1)
    · exact calls_of rfl (goes3 hI) ⟨rfl, rfl⟩ ⟨⟨b, cs.size⟩, cap, rfl, rfl, trivial, hl⟩ (rel_one gl_nil hb)
  · rcases hv with ⟨a, c, rfl⟩ | ⟨b', off, n, cap, cs, ty, fz, rfl, hn, hl, hb, hI⟩
    · exact calls_of rfl (goes2 h0) ⟨rfl, rfl⟩ ⟨a, c, rfl⟩ (rel_empty gl_nil W 1)
    · exact calls_of rfl (goes4 h0 hI) ⟨rfl, rfl⟩ ⟨⟨b', cs.size⟩, cap, rfl, rfl, trivial, hl⟩ (rel_one gl_nil hb)
theorem goes_lifted (os : Os) (started : os.Started) (H : Type) (enc : TypeId × Value → H) :
    ReturnsInHanded {} Try.checked os 4 .any (Rows.taskGoesSpec.pre6 enc Try.prog Try.f4 Rows.taskGoesRow.domain false) (Rows.taskGoesSpec.post enc Try.prog Try.f4 false true false false) := by
  refine returnsInHanded_of_change (C := Try.checked) own started (by kernel_rfl) Try.func4
    (ChangeSpec.witness6 (enc := enc) (C := Try.checked) false ⟨#[], #[.string .empty, .slice none 0 0], []⟩ 8 (by kernel_rfl) (by kernel_rfl) (by kernel_rfl) (by kernel_rfl)) ?_
  intro W base args ds gs before hval0 hW hcnd _
  have hval : ∀ (j : Nat) t v, Try.f4.params[j]? = some t → args[j]? = some v → Value.okWide Try.prog W .any base t v := hval0
  have hW' := hW
  obtain ⟨p, q, hA0, hV, rfl, hfz, hnd⟩ := hW
  have hA : DataW.TrodAll enc Try.prog W 0 (fun _ => true) true Try.f4.params.toList args.toList ds p := hA0
  rw [Try.params4] at hA hval
  obtain ⟨v1, v0, d1, d0, p1, p0, rfl, rfl, rfl, h1, h0⟩ := trodAll_two hA
  obtain ⟨rfl, rfl⟩ := trodVars_none hV
  have h0k := h0
  obtain ⟨s, rfl, rfl, rfl, hs⟩ := Go.ChangeMaps.open_string Try.underlying9 (hval 0 9 v1 rfl rfl) h1
  obtain ⟨fu0, hf0⟩ := h0
  have k0 : ResIn W v0 := res_in (hval 1 22 v0 rfl rfl) (by
    obtain ⟨A, len, cap, e⟩ := okWide_slice Try.underlying22 (hval 1 22 v0 rfl rfl)
    subst e
    exact hf0)
  clear hA0 hval0
  simp only [List.nil_append, List.append_nil] at hW'
  refine (goes_call k0).mono fun e' W' ⟨he, hb⟩ => ?_
  subst he
  have hlt : ∀ y ∈ p0, y.block < W.heap.size := fun y hy => by simpa using hW'.lt y (by simpa using hy)
  refine ⟨_, rfl, post_of_below (pa := p0) (pv := []) hW' (fun _ _ _ => trodAll_mk1 (shut_bool Try.underlying4 _)) (fun sp hsp => ?_) (fun _ _ => rfl) (by simp) hb (ok_one (by kernel_rfl) rfl (okWide_bool_mk Try.underlying4 _))⟩
  rw [show p0 = [] ++ p0 from rfl]
  refine trodAll_mk2 (Go.ChangeMaps.shut_string Try.underlying9 hs) ?_
  exact Go.WideElems.Trod_stays laidOut (by kernel_rfl) (of_decide_eq_true (by kernel_rfl)) h0k (fun y hy => hb.same (hlt y hy)) (fun y hy => hsp y (by simpa using hy))
theorem taskGoes_holds : Rows.TaskGoesSaid :=
  OpenClaim.holds_of_wide 4 Try.f4 rfl rfl rfl rfl rfl rfl rfl ⟨rfl, rfl, rfl, rfl, rfl⟩ rfl rfl rfl rfl rfl (by kernel_rfl) Try.func4 (by kernel_rfl)
    (of_decide_eq_true (by kernel_rfl)) (by unfold Func.isWrapper; first | (rw [if_pos (by decide +kernel)]; kernel_rfl) | (rw [if_neg (by decide +kernel)]; exact ⟨rfl, rfl⟩))
    (fun os started H enc _ => goes_lifted os started H enc)
end Go.Proofs.Ytkidmmgkfopecaa
