/- Of pool: PoolOnce: pages, their holders, their bytes. No condition. -/
import Derived.Test.YtfgkainnkbbanaaDoorMA
import Derived.Test.YtfgkainnkbbanaaDoorK24
set_option linter.unusedVariables false
set_option linter.unusedSimpArgs false
namespace Go.Proofs.YtfgkainnkbbanaaDoor
set_option maxRecDepth 100000
/-! Maps. -/
theorem look_ins {k v j : Int} : ∀ l : List (Int × Int), lookI j (insI k v l) = if j = k then some v else lookI j l
  | [] => by
    simp only [insI, lookI]
    by_cases e : k = j
    · rw [if_pos e, if_pos e.symm]
    · rw [if_neg e, if_neg (fun h => e h.symm)]
  | (a, u) :: l => by
    simp only [insI]
    by_cases e : a = k
    · rw [if_pos e]
      simp only [lookI]
      by_cases e2 : a = j
      · rw [if_pos e2, if_pos (by omega)]
      · rw [if_neg e2, if_neg (by omega), if_neg e2]
    · rw [if_neg e]
      simp only [lookI]
      by_cases e2 : a = j
      · rw [if_pos e2, if_neg (by omega), if_pos e2]
      · rw [if_neg e2, look_ins l, if_neg e2]
theorem has_ins {k v j : Int} (l : List (Int × Int)) : hasI j (insI k v l) = (decide (j = k) || hasI j l) := by
  unfold hasI
  rw [look_ins]
  by_cases e : j = k
  · rw [if_pos e, decide_eq_true e]; rfl
  · rw [if_neg e, decide_eq_false e, Bool.false_or]
theorem get_ins {k v j : Int} (l : List (Int × Int)) : getI j (insI k v l) = if j = k then v else getI j l := by
  unfold getI
  rw [look_ins]
  split <;> rfl
/-- No key stands twice. -/
def NoDup : List (Int × Int) → Prop
  | [] => True
  | (a, _) :: l => lookI a l = none ∧ NoDup l
theorem nodup_ins {k v : Int} : ∀ {l : List (Int × Int)}, NoDup l → NoDup (insI k v l)
  | [], _ => ⟨rfl, trivial⟩
  | (a, u) :: l, h => by
    simp only [insI]
    by_cases e : a = k
    · rw [if_pos e]; exact h
    · rw [if_neg e]
      refine ⟨?_, nodup_ins h.2⟩
      rw [look_ins, if_neg e]
      exact h.1
theorem look_del_ne {k j : Int} (hj : j ≠ k) : ∀ {l : List (Int × Int)}, lookI j (delI k l) = lookI j l
  | [] => rfl
  | (a, u) :: l => by
    simp only [delI]
    by_cases e : a = k
    · rw [if_pos e]
      simp only [lookI]
      rw [if_neg (by omega)]
    · rw [if_neg e]
      simp only [lookI]
      rw [look_del_ne hj]
theorem look_del {k : Int} : ∀ {l : List (Int × Int)}, NoDup l → lookI k (delI k l) = none
  | [], _ => rfl
  | (a, u) :: l, h => by
    simp only [delI]
    by_cases e : a = k
    · rw [if_pos e, ← e]; exact h.1
    · rw [if_neg e]
      simp only [lookI]
      rw [if_neg e]
      exact look_del h.2
theorem nodup_del {k : Int} : ∀ {l : List (Int × Int)}, NoDup l → NoDup (delI k l)
  | [], _ => trivial
  | (a, u) :: l, h => by
    simp only [delI]
    by_cases e : a = k
    · rw [if_pos e]; exact h.2
    · rw [if_neg e]
      exact ⟨by rw [look_del_ne e]; exact h.1, nodup_del h.2⟩
theorem has_del {k j : Int} {l : List (Int × Int)} (h : NoDup l) : hasI j (delI k l) = (!decide (j = k) && hasI j l) := by
  unfold hasI
  by_cases e : j = k
  · rw [e, look_del h, decide_eq_true rfl]; rfl
  · rw [look_del_ne e, decide_eq_false e, Bool.not_false, Bool.true_and]
/-! Words. -/
theorem wrap_in {t : Int} (h1 : 0 ≤ t) (h2 : t ≤ 1000000) : IntKind.i64.wrap t = t := Go.IntWalk.i64_in _ (by omega)
theorem take_bit {X : BitVec 64} {a n : Nat} (h : a + n ≤ 64) (i : Nat) (hi : i < 64) : (X &&& ~~~ spanW a n).getLsbD i = (X.getLsbD i && !decide (a ≤ i ∧ i < a + n)) := by
  rw [BitVec.getLsbD_and, BitVec.getLsbD_not, spanW_bit _ _ _ h, decide_eq_true hi, Bool.true_and]
theorem give_bit {X : BitVec 64} {a n : Nat} (h : a + n ≤ 64) (i : Nat) : (X ||| spanW a n).getLsbD i = (X.getLsbD i || decide (a ≤ i ∧ i < a + n)) := by
  rw [BitVec.getLsbD_or, spanW_bit _ _ _ h]
variable {X : BitVec 64}
theorem found {n : Int} (hn : 1 ≤ n) : (findOk X n = false ∧ findI X n = 0) ∨ ∃ a : Nat, findOk X n = true ∧ findI X n = (a : Int) ∧ (a : Int) + n ≤ 64 ∧ (∀ i : Nat, a ≤ i → (i : Int) < a + n → X.getLsbD i = true) ∧ takeW X (a : Int) n = X &&& ~~~ spanW a n.toNat := by
  cases e : findN X n with
  | none =>
    obtain ⟨h1, h2⟩ := find_none e
    exact .inl ⟨h2, h1⟩
  | some a =>
    obtain ⟨h1, h2⟩ := find_some e
    have hf := (seek_some e).2.2.1
    obtain ⟨f1, f2, f3⟩ := fitsAt_iff.1 hf
    have hm : mayB (a : Int) n = true := mayB_iff.2 ⟨f1, by omega, by omega, by omega⟩
    have hk : takeOk X (a : Int) n = true := by
      unfold takeOk
      rw [hm, Bool.true_and, allIn_iff (by omega)]
      intro i h1 h2
      exact f3 i (by omega) (by omega)
    refine .inr ⟨a, h2, h1, by omega, fun i h1 h2 => f3 i h1 (by omega), ?_⟩
    unfold takeW
    rw [if_pos hk]
    simp
theorem give_one {p : Nat} (hp : p < 64) (hb : X.getLsbD p = false) : giveW X (p : Int) 1 = X ||| spanW p 1 := by
  have hk : giveOk X (p : Int) 1 = true := by
    unfold giveOk
    rw [mayB_iff.2 ⟨by omega, by omega, by omega, by omega⟩, Bool.true_and, allIn_iff (by simp; omega)]
    intro i h1 h2
    have : i = p := by simp at h1 h2; omega
    rw [this]; exact hb
  unfold giveW
  rw [if_pos hk]
  simp
theorem page_of {x : Int} (h0 : ¬ x < 0) (h1 : x ≤ 9223372036854775807) : ∃ q r : Nat, x = ((32 * q + r : Nat) : Int) ∧ r < 32 ∧ ari .quo .i64 x 32 = (q : Int) ∧ ari .rem .i64 x 32 = (r : Int) := by
  refine ⟨x.toNat / 32, x.toNat % 32, by omega, by omega, ?_, ?_⟩
  · rw [ari_quo, Int.tdiv_eq_ediv_of_nonneg (by omega)]
    have := Go.IntWalk.i64_in (x / 32) (by omega)
    rw [this]; omega
  · rw [ari_rem, Int.tmod_eq_emod_of_nonneg (by omega)]
    omega
/-! The state. -/
/-- A pool of pages, of which some are free. -/
structure PInv (pg : Int) (X : BitVec 64) (ps : Array Value) : Prop where
  lo : 1 ≤ pg
  hi : pg ≤ 64
  psz : ps.size = 2050
  p0 : ps[0]? = some (.int .i64 pg)
  p1 : ps[1]? = some (.int .u64 (uw X))
  low : ∀ k : Nat, pg ≤ (k : Int) → X.getLsbD k = false
  byte : ∀ k, k < 2048 → ∃ b, ps[2 + k]? = some (.int .u8 b)
variable {pg : Int} {ps : Array Value} {hs bs : List (Int × Int)}
theorem PInv.p0i (h : PInv pg X ps) : IsInt .i64 ps 0 ∧ intAt ps 0 = pg := ⟨isI_of h.p0, intAt_of h.p0⟩
theorem PInv.p1i (h : PInv pg X ps) : IsInt .u64 ps 1 ∧ intAt ps 1 = uw X := ⟨isI_of h.p1, intAt_of h.p1⟩
theorem PInv.free (h : PInv pg X ps) (Y : BitVec 64) (hY : ∀ k : Nat, pg ≤ (k : Int) → Y.getLsbD k = false) : PInv pg Y (ps.setIfInBounds 1 (.int .u64 (uw Y))) :=
  ⟨h.lo, h.hi, by rw [set_size]; exact h.psz, by rw [set_out (by decide)]; exact h.p0, set_in (by have := h.psz; omega), hY, fun k hk => by rw [set_out (by omega)]; exact h.byte k hk⟩
theorem PInv.give (h : PInv pg X ps) {p : Nat} (hp : (p : Int) < pg) : PInv pg (X ||| spanW p 1) (ps.setIfInBounds 1 (.int .u64 (uw (X ||| spanW p 1)))) := by
  have := h.hi
  exact h.free _ fun k hk => by rw [give_bit (by omega), h.low k hk, decide_eq_false (by omega)]; rfl
theorem PInv.take (h : PInv pg X ps) {a n : Nat} (hn : a + n ≤ 64) : PInv pg (X &&& ~~~ spanW a n) (ps.setIfInBounds 1 (.int .u64 (uw (X &&& ~~~ spanW a n)))) :=
  h.free _ fun k hk => by
    by_cases e : k < 64
    · rw [take_bit hn _ e, h.low k hk]; rfl
    · exact BitVec.getLsbD_of_ge _ _ (by omega)
theorem PInv.put (h : PInv pg X ps) {q : Nat} {y : Int} (hq : q < 2048) : PInv pg X (ps.setIfInBounds (2 + q) (.int .u8 y)) :=
  ⟨h.lo, h.hi, by rw [set_size]; exact h.psz, by rw [set_out (by omega)]; exact h.p0, by rw [set_out (by omega)]; exact h.p1, h.low, fun k hk => by
    by_cases e : k = q
    · subst e; exact ⟨y, set_in (by have := h.psz; omega)⟩
    · rw [set_out (by omega)]; exact h.byte k hk⟩
theorem PInv.clear (h : PInv pg X ps) {q : Nat} (hq : q < 64) : PInv pg X (putAt ps (2 + q * 32) (List.replicate 32 (.int .u8 0))) := by
  have hs := h.psz
  have hl : (List.replicate 32 (Value.int .u8 0)).length = 32 := List.length_replicate
  refine ⟨h.lo, h.hi, by rw [putAt_size (by omega)]; exact hs, by rw [putAt_out (by omega) (by omega)]; exact h.p0, by rw [putAt_out (by omega) (by omega)]; exact h.p1, h.low, fun k hk => ?_⟩
  by_cases e : q * 32 ≤ k ∧ k < q * 32 + 32
  · exact ⟨0, by rw [putAt_in (by omega) (by omega) (by omega), List.getElem?_replicate, if_pos (by omega)]⟩
  · rw [putAt_out (by omega) (by omega)]; exact h.byte k hk
/-- Who holds which page: all that are not free, but for some. -/
structure HInv (pg : Int) (X : BitVec 64) (hs : List (Int × Int)) (R : Nat → Prop) : Prop where
  nd : NoDup hs
  has : ∀ p : Int, hasI p hs = true ↔ 0 ≤ p ∧ p < pg ∧ X.getLsbD p.toNat = false ∧ ¬ R p.toNat
/-- The bytes of pages that are held, but for some. -/
def BInv (pg : Int) (X : BitVec 64) (ps : Array Value) (bs : List (Int × Int)) (R : Nat → Prop) : Prop :=
  ∀ k : Nat, k < 2048 → ((k / 32 : Nat) : Int) < pg → X.getLsbD (k / 32) = false → ¬ R (k / 32) → ps[2 + k]? = some (.int .u8 (getI (k : Int) bs))
def none' (_ : Nat) : Prop := False
def from' (a b : Int) (p : Nat) : Prop := a ≤ (p : Int) ∧ (p : Int) < b
def All (pg : Int) (ps : Array Value) (hs bs : List (Int × Int)) : Prop := ∃ X, PInv pg X ps ∧ HInv pg X hs none' ∧ BInv pg X ps bs none'
end Go.Proofs.YtfgkainnkbbanaaDoor
/- Of pool: PoolOnce: the acts. No condition. -/
namespace Go.Proofs.YtfgkainnkbbanaaDoor
set_option maxRecDepth 100000
set_option linter.unusedSimpArgs false
set_option linter.unusedVariables false
theorem EP_ok : EnvOk EP := EnvOk.with E0_ok _ _ conX_ok
def ActsOk (cs : Array Value) (off n : Nat) : Prop := ∀ i, i < n → IsInt .u8 cs (off + i * 3) ∧ (0 ≤ intAt cs (off + i * 3) ∧ intAt cs (off + i * 3) ≤ 255) ∧ IsInt .i64 cs (off + i * 3 + 1) ∧ IsInt .u8 cs (off + i * 3 + 2)
def QB (n : Nat) (pg i d p h : Int) (z : Bool) (ps : Array Value) (hs bs : List (Int × Int)) : Prop := 0 ≤ i ∧ i < (n : Int) ∧ 0 ≤ d ∧ d ≤ 255 ∧ 0 ≤ p ∧ p < 64 ∧ z = hasI p hs ∧ All pg ps hs bs
def QC (n : Nat) (pg i q a e k : Int) (ps : Array Value) (hs bs : List (Int × Int)) : Prop := 0 ≤ i ∧ i < (n : Int) ∧ (e ≠ 0 → All pg ps hs bs) ∧
  (e = 0 → 0 ≤ a ∧ 1 ≤ q ∧ q ≤ 5 ∧ a + q ≤ pg ∧ a ≤ k ∧ k ≤ a + q ∧ ∃ X, PInv pg X ps ∧ HInv pg X hs (from' k (a + q)) ∧ BInv pg X ps bs (from' k (a + q)) ∧ ∀ i : Nat, from' a (a + q) i → X.getLsbD i = false)
def QD (n : Nat) (pg i q a e k j : Int) (ps : Array Value) (hs bs : List (Int × Int)) : Prop := 0 ≤ i ∧ i < (n : Int) ∧ e = 0 ∧ 0 ≤ a ∧ 1 ≤ q ∧ q ≤ 5 ∧ a + q ≤ pg ∧ a ≤ k ∧ k < a + q ∧ 0 ≤ j ∧ j ≤ 32 ∧
  ∃ X, PInv pg X ps ∧ HInv pg X hs (from' (k + 1) (a + q)) ∧ BInv pg X ps bs (from' k (a + q)) ∧ (∀ i : Nat, from' a (a + q) i → X.getLsbD i = false) ∧ (∀ b : Nat, b < 32 → ps[2 + (32 * k.toNat + b)]? = some (.int .u8 0)) ∧ ∀ b : Nat, (b : Int) < j → getI ((32 * k.toNat + b : Nat) : Int) bs = 0
section
variable {off n : Nat} {cs : Array Value} {ty : TypeId} {pg : Int} (hn : n ≤ 200)
include hn
def Next (off n : Nat) (cs : Array Value) (ty : TypeId) (pg i : Int) : Prop := ∀ ps hs bs, All pg ps hs bs → Good Tryd.prog (isB true) 1 (oA_F off n cs ty pg (i + 1) ps hs bs) (oA_M off n cs ty pg (i + 1) ps hs bs)
omit hn in
theorem from_no {a : Int} (p : Nat) : ¬ from' a a p := fun h => by have := h.1; have := h.2; omega
theorem oC_ok {i : Int} (H : Next off n cs ty pg i) : ∀ (m : Nat) (w q a e k : Int) (ps : Array Value) (hs bs : List (Int × Int)), (a + q - k).toNat < m → QC n pg i q a e k ps hs bs → Good Tryd.prog (isB true) 1 (oC_F off n cs ty pg i w q a e k ps hs bs) (oC_M off n cs ty pg i w q a e k ps hs bs) := by
  intro m
  induction m with
  | zero => intro w q a e k ps hs bs h; omega
  | succ m ih =>
    intro w q a e k ps hs bs hm ⟨h1, h2, h3, h4⟩
    have hD : ∀ (jm : Nat) (j : Int) (ps' : Array Value) (hs' bs' : List (Int × Int)), 32 - j.toNat < jm → QD n pg i q a e k j ps' hs' bs' → Good Tryd.prog (isB true) 1 (oD_F off n cs ty pg i w q a e k j ps' hs' bs') (oD_M off n cs ty pg i w q a e k j ps' hs' bs') := by
      intro jm
      induction jm with
      | zero => intro j ps' hs' bs' h; omega
      | succ jm ihj =>
        intro j ps' hs' bs' hj ⟨g1, g2, g3, g4, g5, g6, g7, g8, g9, g10, g11, X, g12, g13, g14, g15, g16, g17⟩
        refine past_vc EP_ok 1000 (pD_vc off n cs ty pg i w q a e k j ps' hs' bs' (fun i' w' q' a' e' k' j' p' h' b' => i' = i ∧ w' = w ∧ q' = q ∧ a' = a ∧ e' = e ∧ k' = k ∧ j < j' ∧ QD n pg i q a e k j' p' h' b') (fun i' w' q' a' e' k' p' h' b' => i' = i ∧ w' = w ∧ q' = q ∧ a' = a ∧ e' = e ∧ k' = k + 1 ∧ QC n pg i q a e (k + 1) p' h' b')) ?_ (fun _ _ h => h.elim)
          (fun fs m hb => pD_go (fun i' w' q' a' e' k' j' p' h' b' ⟨e1, e2, e3, e4, e5, e6, e7, e8⟩ => by rw [e1, e2, e3, e4, e5, e6]; exact ihj _ _ _ _ (by have := e8.2.2.2.2.2.2.2.2.2.2.1; have := e8.2.2.2.2.2.2.2.2.2.1; omega) e8) (fun i' w' q' a' e' k' p' h' b' ⟨e1, e2, e3, e4, e5, e6, e7⟩ => by rw [e1, e2, e3, e4, e5, e6]; exact ih _ _ _ _ _ _ _ _ (by omega) e7) hb)
        have hpg := g12.hi
        have ek : ari .add .i64 k 1 = k + 1 := by rw [ari_add]; exact wrap_in (by omega) (by omega)
        have ej : ari .add .i64 j 1 = j + 1 := by rw [ari_add]; exact wrap_in (by omega) (by omega)
        have e1 : ari .add .i64 (ari .mul .i64 k 32) j = ((32 * k.toNat + j.toNat : Nat) : Int) := by
          have e0 : ari .mul .i64 k 32 = k * 32 := by rw [ari_mul]; exact wrap_in (by omega) (by omega)
          rw [e0, ari_add, wrap_in (by omega) (by omega)]; omega
        by_cases hjj : j < 32
        · have d : decide (j < 32) = true := decide_eq_true hjj
          simp only [d, ej, e1, true_implies, Bool.true_eq_false, Bool.false_eq_true, false_implies, and_true, true_and, oD_d0_ok, oC_d0_ok]
          refine ⟨by omega, g1, g2, g3, g4, g5, g6, g7, g8, g9, by omega, by omega, X, g12, g13, fun b hb h5 h6 h7 => ?_, g15, g16, fun b hb => ?_⟩
          · rw [get_ins, if_neg (fun e => h7 ⟨by omega, by omega⟩)]
            exact g14 b hb h5 h6 h7
          · rw [get_ins]
            split
            · rfl
            · exact g17 b (by omega)
        · have d : decide (j < 32) = false := decide_eq_false hjj
          simp only [d, ek, true_implies, Bool.true_eq_false, Bool.false_eq_true, false_implies, and_true, true_and, oD_d0_ok, oC_d0_ok]
          refine ⟨g1, g2, fun h => absurd g3 h, fun _ => ⟨g4, g5, g6, g7, by omega, by omega, X, g12, g13, fun b hb h5 h6 h7 => ?_, g15⟩⟩
          by_cases hk : b / 32 = k.toNat
          · have eb : b = 32 * k.toNat + b % 32 := by omega
            have hz := g17 (b % 32) (by omega)
            have hp := g16 (b % 32) (by omega)
            rw [← eb] at hz hp
            rw [hp, hz]
          · exact g14 b hb h5 h6 (fun h => h7 ⟨by have := h.1; omega, h.2⟩)
    refine past_vc EP_ok 1000 (pC_vc off n cs ty pg i w q a e k ps hs bs (fun i' w' q' a' e' k' j' p' h' b' => i' = i ∧ w' = w ∧ q' = q ∧ a' = a ∧ e' = e ∧ k' = k ∧ QD n pg i q a e k j' p' h' b') (fun i' p' h' b' => i' = i + 1 ∧ All pg p' h' b')) ?_ (fun _ _ h => h)
      (fun fs m hb => pC_go (fun i' w' q' a' e' k' j' p' h' b' ⟨e1, e2, e3, e4, e5, e6, e7⟩ => by rw [e1, e2, e3, e4, e5, e6]; exact hD _ _ _ _ _ (Nat.lt_succ_self _) e7) (fun i' p' h' b' ⟨e1, e2⟩ => by rw [e1]; exact H _ _ _ e2) hb)
    have ei : ari .add .i64 i 1 = i + 1 := by rw [ari_add]; exact wrap_in (by omega) (by omega)
    by_cases he : e = 0
    · obtain ⟨g4, g5, g6, g7, g8, g9, X, g12, g13, g14, g15⟩ := h4 he
      have hpg := g12.hi
      have hlo := g12.lo
      obtain ⟨a1, a2⟩ := g12.p0i
      obtain ⟨b1, b2⟩ := g12.p1i
      have eq : ari .add .i64 a q = a + q := by rw [ari_add]; exact wrap_in (by omega) (by omega)
      have d1 : (e == 0) = true := by rw [he]; rfl
      by_cases hk : k < a + q
      · have d : (decide (k < a + q) == true) = true := by rw [decide_eq_true hk]; rfl
        have d2 : hasI k hs = false := by
          cases hh : hasI k hs with
          | false => rfl
          | true => exact absurd ⟨by omega, by omega⟩ ((g13.has k).1 hh).2.2.2
        have d3 : (decide (k < 0) == false) = true := by rw [decide_eq_false (by omega)]; rfl
        have ew : IntKind.i64.wrap pg = pg := wrap_in (by omega) (by omega)
        have d4 : (decide (k ≥ pg) == false) = true := by rw [decide_eq_false (by omega)]; rfl
        have d4' : decide (k ≥ pg) = false := decide_eq_false (by omega)
        have d5 : X.getLsbD k.toNat = false := g15 _ ⟨by omega, by omega⟩
        have hps := g12.psz
        have hq : k.toNat < 64 := by omega
        have hz : [Value.int .u8 0, .int .u8 0, .int .u8 0, .int .u8 0, .int .u8 0, .int .u8 0, .int .u8 0, .int .u8 0, .int .u8 0, .int .u8 0, .int .u8 0, .int .u8 0, .int .u8 0, .int .u8 0, .int .u8 0, .int .u8 0, .int .u8 0, .int .u8 0, .int .u8 0, .int .u8 0, .int .u8 0, .int .u8 0, .int .u8 0, .int .u8 0, .int .u8 0, .int .u8 0, .int .u8 0, .int .u8 0, .int .u8 0, .int .u8 0, .int .u8 0, .int .u8 0] = List.replicate 32 (.int .u8 0) := rfl
        simp only [eq, d, d1, d2, d3, d4, d4', d5, ew, a2, b2, wd_uw, hz, beq_self_eq_true, Bool.and_false, true_implies, Bool.true_eq_false, Bool.false_eq_true, false_implies, and_true, true_and, oD_d0_ok, oA_d0_ok]
        refine ⟨a1, b1, by omega, (show 2 + k.toNat * 32 + 32 ≤ ps.size by omega), h1, h2, he, g4, g5, g6, g7, g8, by omega, by decide, by decide, X, g12.clear hq, ⟨nodup_ins g13.nd, fun p => ?_⟩, fun b hb h5 h6 h7 => ?_, g15, fun b hb => ?_, fun b hb => by omega⟩
        · rw [has_ins, Bool.or_eq_true, decide_eq_true_eq]
          constructor
          · rintro (rfl | h)
            · exact ⟨by omega, by omega, d5, fun h => by have := h.1; omega⟩
            · obtain ⟨k1, k2, k3, k4⟩ := (g13.has p).1 h
              exact ⟨k1, k2, k3, fun h => k4 ⟨by have := h.1; omega, h.2⟩⟩
          · rintro ⟨k1, k2, k3, k4⟩
            by_cases ep : p = k
            · exact .inl ep
            · exact .inr ((g13.has p).2 ⟨k1, k2, k3, fun h => k4 ⟨by have := h.1; omega, h.2⟩⟩)
        · have hb32 : b / 32 ≠ k.toNat := fun e => h7 ⟨by omega, by omega⟩
          have hl : (List.replicate 32 (Value.int .u8 0)).length = 32 := List.length_replicate
          rw [show (putAt ps (2 + k.toNat * 32) (List.replicate 32 (Value.int .u8 0)))[2 + b]? = ps[2 + b]? from putAt_out (by omega) (by omega)]
          exact g14 b hb h5 h6 h7
        · have hl : (List.replicate 32 (Value.int .u8 0)).length = 32 := List.length_replicate
          rw [show (putAt ps (2 + k.toNat * 32) (List.replicate 32 (Value.int .u8 0)))[2 + (32 * k.toNat + b)]? = _ from putAt_in (by omega) (by omega) (by omega), List.getElem?_replicate, if_pos (by omega)]
      · have d : (decide (k < a + q) == true) = false := by rw [decide_eq_false hk]; rfl
        simp only [eq, d, d1, ei, true_implies, Bool.true_eq_false, Bool.false_eq_true, false_implies, and_true, true_and, oD_d0_ok, oA_d0_ok]
        have ek : k = a + q := by omega
        subst ek
        exact ⟨X, g12, ⟨g13.nd, fun p => (g13.has p).trans ⟨fun ⟨x1, x2, x3, x4⟩ => ⟨x1, x2, x3, fun h => h.elim⟩, fun ⟨x1, x2, x3, x4⟩ => ⟨x1, x2, x3, from_no _⟩⟩⟩, fun b hb h5 h6 _ => g14 b hb h5 h6 (from_no _)⟩
    · have d1 : (e == 0) = false := by simpa using he
      by_cases hk : (decide (k < ari .add .i64 a q) == true) = true
      · simp only [hk, d1, ei, true_implies, Bool.true_eq_false, Bool.false_eq_true, false_implies, and_true, true_and, oD_d0_ok, oA_d0_ok]
        exact h3 he
      · have hk : (decide (k < ari .add .i64 a q) == true) = false := by simpa using hk
        simp only [hk, d1, ei, true_implies, Bool.true_eq_false, Bool.false_eq_true, false_implies, and_true, true_and, oD_d0_ok, oA_d0_ok]
        exact h3 he
theorem oB_ok {i d x y w p h : Int} {z : Bool} {ps : Array Value} {hs bs : List (Int × Int)} (H : Next off n cs ty pg i) (hq : QB n pg i d p h z ps hs bs) : Good Tryd.prog (isB true) 1 (oB_F off n cs ty pg i d x y w p h z ps hs bs) (oB_M off n cs ty pg i d x y w p h z ps hs bs) := by
  obtain ⟨h1, h2, h3, h3', h4, h5, h6, X, h7, h8, h9⟩ := hq
  refine past_vc EP_ok 1000 (pB_vc off n cs ty pg i d x y w p h z ps hs bs (fun i' w' q' a' e' k' p' h' b' => i' = i ∧ w' = w ∧ QC n pg i q' a' e' k' p' h' b') (fun i' p' h' b' => i' = i + 1 ∧ All pg p' h' b')) ?_ (fun _ _ h => h)
    (fun fs m hb => pB_go (fun i' w' q' a' e' k' p' h' b' ⟨e1, e2, e7⟩ => by rw [e1, e2]; exact oC_ok hn H _ _ _ _ _ _ _ _ _ (Nat.lt_succ_self _) e7) (fun i' p' h' b' ⟨e1, e2⟩ => by rw [e1]; exact H _ _ _ e2) hb)
  obtain ⟨a1, a2⟩ := h7.p0i
  obtain ⟨b1, b2⟩ := h7.p1i
  have hhi := h7.hi
  have hlo := h7.lo
  have hps := h7.psz
  have hall : All pg ps hs bs := ⟨X, h7, h8, h9⟩
  have ei : ari .add .i64 i 1 = i + 1 := by rw [ari_add]; exact wrap_in (by omega) (by omega)
  by_cases hd : d = 0
  · have d0 : (d == 0) = true := by rw [hd]; rfl
    have e5 : ari .rem .i64 p 5 = p % 5 := by rw [ari_rem, Int.tmod_eq_emod_of_nonneg (by omega)]
    have e1 : ari .add .i64 1 (p % 5) = 1 + p % 5 := by rw [ari_add]; exact wrap_in (by omega) (by omega)
    have d1 : decide (1 + p % 5 < 1) = false := decide_eq_false (by omega)
    rcases found (X := X) (n := 1 + p % 5) (by omega) with ⟨f1, f2⟩ | ⟨a, f1, f2, f3, f4, f5⟩
    · simp only [d0, e5, e1, d1, b2, wd_uw, f1, f2, Bool.not_false, true_implies, Bool.true_eq_false, Bool.false_eq_true, false_implies, and_true, true_and, oC_d0_ok]
      exact ⟨b1, h1, h2, fun _ => hall, fun h => absurd h (by decide)⟩
    · have hapg : (a : Int) + (1 + p % 5) ≤ pg := by
        rcases Int.lt_or_le pg ((a : Int) + (1 + p % 5)) with hc | hc
        · have t1 := f4 (a + (p % 5).toNat) (by omega) (by omega)
          rw [h7.low _ (by omega)] at t1
          cases t1
        · exact hc
      simp only [d0, e5, e1, d1, b2, wd_uw, f1, f2, f5, Bool.not_true, true_implies, Bool.true_eq_false, Bool.false_eq_true, false_implies, and_true, true_and, oC_d0_ok]
      have hb' : ∀ j : Nat, j < 64 → (X &&& ~~~ spanW a (1 + p % 5).toNat).getLsbD j = (X.getLsbD j && !decide (a ≤ j ∧ j < a + (1 + p % 5).toNat)) := fun j hj => take_bit (by omega) j hj
      refine ⟨b1, b1, by omega, h1, h2, fun h => absurd rfl h, fun _ => ⟨by omega, by omega, by omega, hapg, by omega, by omega, _, h7.take (by omega), ⟨h8.nd, fun r => ?_⟩, fun k hk hk2 hk3 hk4 => ?_, fun j hj => ?_⟩⟩
      · rw [h8.has r]
        constructor
        · rintro ⟨k1, k2, k3, _⟩
          refine ⟨k1, k2, by rw [hb' _ (by omega), k3]; rfl, fun hf => ?_⟩
          have := f4 r.toNat (by have := hf.1; omega) (by have := hf.2; omega)
          rw [k3] at this
          cases this
        · rintro ⟨k1, k2, k3, k4⟩
          refine ⟨k1, k2, ?_, fun h => h.elim⟩
          rw [hb' _ (by omega), decide_eq_false (fun hc => k4 ⟨by omega, by omega⟩), Bool.not_false, Bool.and_true] at k3
          exact k3
      · rw [set_out (by omega)]
        rw [hb' _ (by omega), decide_eq_false (fun hc => hk4 ⟨by omega, by omega⟩), Bool.not_false, Bool.and_true] at hk3
        exact h9 k hk hk2 hk3 (fun h => h)
      · have hj1 := hj.1
        have hj2 := hj.2
        rw [hb' _ (by omega), decide_eq_true ⟨by omega, by omega⟩, Bool.not_true, Bool.and_false]
  · have d0 : (d == 0) = false := by simpa using hd
    cases z with
    | false =>
      cases hd2 : (d == 2) <;>
      · simp only [d0, hd2, ei, beq_self_eq_true, beqT, beqF, Bool.not_true, Bool.not_false, true_implies, Bool.true_eq_false, Bool.false_eq_true, false_implies, and_true, true_and, oA_d0_ok]
        exact hall
    | true =>
      cases hw : (h == w) with
      | false =>
        cases hd2 : (d == 2) <;>
        · simp only [d0, hd2, hw, ei, beq_self_eq_true, beqT, beqF, Bool.not_true, Bool.not_false, true_implies, Bool.true_eq_false, Bool.false_eq_true, false_implies, and_true, true_and, oA_d0_ok]
          exact hall
      | true =>
        obtain ⟨k1, k2, k3, _⟩ := (h8.has p).1 h6.symm
        obtain ⟨r, rfl⟩ : ∃ r : Nat, p = (r : Int) := ⟨p.toNat, by omega⟩
        rw [Int.toNat_natCast] at k3
        have hr : r < 64 := by omega
        cases hd2 : (d == 2) with
        | true =>
          have d3 : (decide ((r : Int) < 0) == false) = true := by rw [decide_eq_false (by omega)]; rfl
          have d4 : decide ((r : Int) ≥ pg) = false := decide_eq_false (by omega)
          have hg := give_one hr k3
          simp only [d0, hd2, hw, ei, d3, d4, a2, b2, wd_uw, k3, hg, Int.toNat_natCast, Bool.and_false, beq_self_eq_true, beqT, beqF, Bool.not_true, Bool.not_false, true_implies, Bool.true_eq_false, Bool.false_eq_true, false_implies, and_true, true_and, oA_d0_ok]
          have hb' : ∀ j : Nat, (X ||| spanW r 1).getLsbD j = (X.getLsbD j || decide (r ≤ j ∧ j < r + 1)) := fun j => give_bit (by omega) j
          refine ⟨a1, b1, b1, by omega, _, h7.give k2, ⟨nodup_del h8.nd, fun p => ?_⟩, fun k hk hk2 hk3 hk4 => ?_⟩
          · rw [has_del h8.nd, hb']
            simp only [Bool.and_eq_true, Bool.not_eq_true', decide_eq_false_iff_not, Bool.or_eq_false_iff, h8.has p]
            constructor
            · rintro ⟨x1, x2, x3, x4, _⟩
              exact ⟨x2, x3, ⟨x4, by omega⟩, fun h => h⟩
            · rintro ⟨x2, x3, ⟨x4, x5⟩, _⟩
              exact ⟨by omega, x2, x3, x4, fun h => h⟩
          · rw [set_out (by omega)]
            rw [hb', Bool.or_eq_false_iff] at hk3
            exact h9 k hk hk2 hk3.1 (fun h => h)
        | false =>
          have e0 : ari .mul .i64 (r : Int) 32 = (r : Int) * 32 := by rw [ari_mul]; exact wrap_in (by omega) (by omega)
          have e1 : ari .rem .i64 (IntKind.i64.wrap d) 32 = d % 32 := by rw [wrap_in (by omega) (by omega), ari_rem, Int.tmod_eq_emod_of_nonneg (by omega)]
          have e2 : ari .add .i64 ((r : Int) * 32) (d % 32) = ((32 * r + (d % 32).toNat : Nat) : Int) := by rw [ari_add, wrap_in (by omega) (by omega)]; omega
          have d3 : decide (((32 * r + (d % 32).toNat : Nat) : Int) < 0) = false := decide_eq_false (by omega)
          obtain ⟨q', r', e3, hr', e4, e5⟩ := page_of (x := ((32 * r + (d % 32).toNat : Nat) : Int)) (by omega) (by omega)
          have eq : q' = r := by omega
          have er : r' = (d % 32).toNat := by omega
          rw [eq] at e4
          rw [er] at e5
          have d4 : (decide ((r : Int) < 0) == false) = true := by rw [decide_eq_false (by omega)]; rfl
          have d5 : decide ((r : Int) ≥ pg) = false := decide_eq_false (by omega)
          have e6 : 2 + r * 32 + (d % 32).toNat = 2 + (32 * r + (d % 32).toNat) := by omega
          simp only [d0, hd2, hw, ei, e0, e1, e2, d3, e4, e5, d4, d5, e6, a2, b2, wd_uw, k3, Int.toNat_natCast, Nat.mul_one, Bool.and_false, beq_self_eq_true, beqT, beqF, Bool.not_true, Bool.not_false, true_implies, Bool.true_eq_false, Bool.false_eq_true, false_implies, and_true, true_and, oA_d0_ok]
          refine ⟨a1, b1, by omega, by omega, by omega, X, h7.put (by omega), h8, fun k hk hk2 hk3 hk4 => ?_⟩
          rw [get_ins]
          by_cases ek : k = 32 * r + (d % 32).toNat
          · rw [ek, if_pos rfl]
            exact set_in (by omega)
          · rw [if_neg (by omega), set_out (by omega)]
            exact h9 k hk hk2 hk3 (fun h => h)
end
end Go.Proofs.YtfgkainnkbbanaaDoor
/- Of pool: PoolOnce: the law's beginning. No condition. -/
namespace Go.Proofs.YtfgkainnkbbanaaDoor
set_option linter.unusedVariables false
noncomputable def EZ : Env := ⟨Tryd.prog, fnOf, conX, haltAt [5039, 5045, 5052]⟩
noncomputable def psZ (pg : Int) : Array Value := ([Value.int .i64 (IntKind.i64.wrap pg), .int .u64 (uw (lowW (clampN (IntKind.i64.wrap pg))))] ++ List.replicate 2048 (Value.int .u8 0)).toArray
noncomputable def pS_t (off : Nat) (n : Nat) (cs : Array Value) (ty : TypeId) (pg : Int) : Tree := run EP 8000 1 [callFr 5 Tryd.f5.ntmps [.s (.c (.f (.int .u8 (.o pg)))), acS off n] (Tryd.f5.body.getD .skip)] (mkM 1 [(0, ⟨.raw cs, ty, false⟩)])
noncomputable def pS_x (off : Nat) (n : Nat) (cs : Array Value) (ty : TypeId) (pg : Int) (QoA : Int → Array Value → List (Int × Int) → List (Int × Int) → Prop) (fs : List SFr) (m : SMem) : Prop := oA_n off n cs ty pg QoA fs m
noncomputable def pZ_t (cs : Array Value) (ty : TypeId) (pg : Int) : Tree := run EZ 8000 1 [callFr 5 Tryd.f5.ntmps [.s (.c (.f (.int .u8 (.o pg)))), .s (.c (.f .e0))] (Tryd.f5.body.getD .skip)] (mkM 1 [])
noncomputable def pZ_x (cs : Array Value) (ty : TypeId) (pg : Int) (QoE : Int → Array Value → List (Int × Int) → List (Int × Int) → Prop) (fs : List SFr) (m : SMem) : Prop := oE_n cs ty pg QoE fs m
theorem pS_go {A : SV → SMem → Prop} {off : Nat} {n : Nat} {cs : Array Value} {ty : TypeId} {pg : Int} {QoA : Int → Array Value → List (Int × Int) → List (Int × Int) → Prop} {fs : List SFr} {m : SMem} (hoA : ∀ i' ps' hs' bs', QoA i' ps' hs' bs' → Good Tryd.prog A 1 (oA_F off n cs ty pg i' ps' hs' bs') (oA_M off n cs ty pg i' ps' hs' bs')) (hb : pS_x off n cs ty pg QoA fs m) : Good Tryd.prog A 1 fs m := by
  unfold pS_x at hb
  exact oA_good hoA hb
theorem pZ_go {A : SV → SMem → Prop} {cs : Array Value} {ty : TypeId} {pg : Int} {QoE : Int → Array Value → List (Int × Int) → List (Int × Int) → Prop} {fs : List SFr} {m : SMem} (hoE : ∀ q' ps' hs' bs', QoE q' ps' hs' bs' → Good Tryd.prog A 1 (oE_F cs ty pg q' ps' hs' bs') (oE_M cs ty pg q' ps' hs' bs')) (hb : pZ_x cs ty pg QoE fs m) : Good Tryd.prog A 1 fs m := by
  unfold pZ_x at hb
  exact oE_good hoE hb
end Go.Proofs.YtfgkainnkbbanaaDoor
/- Of pool: PoolOnce: the law's beginning. -/
namespace Go.Proofs.YtfgkainnkbbanaaDoor
set_option maxRecDepth 100000
theorem pS_vc (off : Nat) (n : Nat) (cs : Array Value) (ty : TypeId) (pg : Int) (QoA : Int → Array Value → List (Int × Int) → List (Int × Int) → Prop) : (pS_t off n cs ty pg).vc ((isB true)) (pS_x off n cs ty pg QoA) =
    (((decide ((↑n : Int) > (200 : Int)) == false) = true → ((decide (pg < (1 : Int)) == false) = true → (decide (pg > (64 : Int)) = true → true = true) ∧ (decide (pg > (64 : Int)) = false → ((decide (IntKind.wrap IntKind.i64 pg < (1 : Int)) == false) = true → (decide (IntKind.wrap IntKind.i64 pg > (64 : Int)) = true → false = true) ∧ (decide (IntKind.wrap IntKind.i64 pg > (64 : Int)) = false → QoA (0 : Int) (psZ pg) (List.map (fun p => (decV (Prod.fst p), decV (Prod.snd p))) []) (List.map (fun p => (decV (Prod.fst p), decV (Prod.snd p))) []) ∧ CallKind.normal = CallKind.normal ∧ TodoOk (ren 1 [(1, 1), (2, 2), (3, 3)]) oA_d0 oA_d0 ∧ pg = pg ∧ off = off ∧ n = n ∧ (0 : Int) = (0 : Int) ∧ ty = ty ∧ cs = cs ∧ (63 : TypeId) = (63 : TypeId) ∧ (psZ pg) = (psZ pg) ∧ List.map (encE IntKind.i64 (VK.i IntKind.u8)) (List.map (fun p => (decV (Prod.fst p), decV (Prod.snd p))) []) = [] ∧ List.map (encE IntKind.i64 (VK.i IntKind.u8)) (List.map (fun p => (decV (Prod.fst p), decV (Prod.snd p))) []) = [] ∧ True)) ∧ ((decide (IntKind.wrap IntKind.i64 pg < (1 : Int)) == false) = false → false = true))) ∧ ((decide (pg < (1 : Int)) == false) = false → true = true)) ∧ ((decide ((↑n : Int) > (200 : Int)) == false) = false → true = true)) := by kernel_rfl
theorem pZ_vc (cs : Array Value) (ty : TypeId) (pg : Int) (QoE : Int → Array Value → List (Int × Int) → List (Int × Int) → Prop) : (pZ_t cs ty pg).vc ((isB true)) (pZ_x cs ty pg QoE) =
    (((decide (pg < (1 : Int)) == false) = true → (decide (pg > (64 : Int)) = true → true = true) ∧ (decide (pg > (64 : Int)) = false → ((decide (IntKind.wrap IntKind.i64 pg < (1 : Int)) == false) = true → (decide (IntKind.wrap IntKind.i64 pg > (64 : Int)) = true → false = true) ∧ (decide (IntKind.wrap IntKind.i64 pg > (64 : Int)) = false → QoE (0 : Int) (psZ pg) (List.map (fun p => (decV (Prod.fst p), decV (Prod.snd p))) []) (List.map (fun p => (decV (Prod.fst p), decV (Prod.snd p))) []) ∧ CallKind.normal = CallKind.normal ∧ TodoOk (ren 1 [(1, 1), (2, 2), (3, 3)]) oE_d0 oE_d0 ∧ pg = pg ∧ (0 : Int) = (0 : Int) ∧ (63 : TypeId) = (63 : TypeId) ∧ (psZ pg) = (psZ pg) ∧ List.map (encE IntKind.i64 (VK.i IntKind.u8)) (List.map (fun p => (decV (Prod.fst p), decV (Prod.snd p))) []) = [] ∧ List.map (encE IntKind.i64 (VK.i IntKind.u8)) (List.map (fun p => (decV (Prod.fst p), decV (Prod.snd p))) []) = [] ∧ True)) ∧ ((decide (IntKind.wrap IntKind.i64 pg < (1 : Int)) == false) = false → false = true))) ∧ ((decide (pg < (1 : Int)) == false) = false → true = true)) := by kernel_rfl
end Go.Proofs.YtfgkainnkbbanaaDoor
/- Of pool: PoolOnce: all are given back; its runs end with true. No condition. -/
namespace Go.Proofs.YtfgkainnkbbanaaDoor
set_option maxRecDepth 100000
set_option linter.unusedSimpArgs false
set_option linter.unusedVariables false
theorem EZ_ok : EnvOk EZ := EnvOk.with E0_ok _ _ conX_ok
/-- All pages are one run. -/
theorem all_one {X : BitVec 64} {pg : Int} (h1 : 1 ≤ pg) (h2 : pg ≤ 64) (hX : ∀ k : Nat, (k : Int) < pg → X.getLsbD k = true) (hL : ∀ k : Nat, pg ≤ (k : Int) → X.getLsbD k = false) : X ≠ 0#64 ∧ runsN X = 1 ∧ runsC X = #[.int .i64 0, .int .i64 pg] := by
  have h0 : X ≠ 0#64 := by
    intro e
    have := hX 0 (by omega)
    rw [e] at this
    simp at this
  obtain ⟨l1, l2, l3, l4, l5⟩ := low_run h0
  have t0 : tz X = 0 := by
    rcases Nat.eq_zero_or_pos (tz X) with e | e
    · exact e
    · have := l3 0 e
      rw [hX 0 (by omega)] at this
      cases this
  have tn : (tzn X : Int) = pg := by
    rw [t0, Nat.zero_add] at l5 l4 l2
    rcases Int.lt_trichotomy (tzn X : Int) pg with h | h | h
    · rw [hX _ h] at l5; cases l5
    · exact h
    · have := l4 (tzn X - 1) (by omega) (by omega)
      rw [hL _ (by omega)] at this
      cases this
  have hn : nextW X = 0#64 := by
    apply BitVec.eq_of_getLsbD_eq
    intro i hi
    rw [nextW_bit h0, t0, Nat.zero_add]
    by_cases e : tzn X ≤ i
    · rw [hL i (by omega)]; simp
    · rw [decide_eq_false e]; simp
  have hr : runsOf X = [(0, tzn X)] := by
    unfold runsOf
    rw [runsL_succ 64, if_neg h0, hn, t0]
    rfl
  refine ⟨h0, by unfold runsN; rw [hr]; rfl, ?_⟩
  unfold runsC
  rw [hr]
  show #[Value.int .i64 (0 : Nat), .int .i64 (tzn X : Nat)] = _
  rw [tn]
  rfl
section
variable {cs : Array Value} {ty : TypeId} {pg : Int}
theorem oH_ok {X : BitVec 64} {ps : Array Value} {hs bs : List (Int × Int)} (h : PInv pg X ps) (hX : ∀ k : Nat, (k : Int) < pg → X.getLsbD k = true) : Good Tryd.prog (isB true) 1 (oH_F cs ty pg ps hs bs) (oH_M cs ty pg ps hs bs) := by
  refine past_vc EP_ok 1000 (pH_vc cs ty pg ps hs bs) ?_ (fun _ _ h => h) (fun fs m hb => hb.elim)
  obtain ⟨b1, b2⟩ := h.p1i
  have hhi := h.hi
  have hlo := h.lo
  obtain ⟨r1, r2, r3⟩ := all_one h.lo h.hi hX h.low
  have ew : IntKind.i64.wrap pg = pg := wrap_in (by omega) (by omega)
  have i0 : IsInt .i64 (runsC X) 0 ∧ intAt (runsC X) 0 = 0 := by rw [r3]; exact ⟨rfl, rfl⟩
  have i1 : IsInt .i64 (runsC X) 1 ∧ intAt (runsC X) 1 = pg := by rw [r3]; exact ⟨rfl, rfl⟩
  have d : (((1 : Nat) : Int) == 1) = true := rfl
  simp only [b2, wd_uw, r2, ew, i0.2, i1.2, d, beqT, beqF, beq_self_eq_true, true_implies, Bool.true_eq_false, Bool.false_eq_true, false_implies, and_true, true_and]
  exact ⟨b1, r1, by omega, i0.1, by omega, i1.1⟩
/-- Pages up to one are given back. -/
structure EInv (pg : Int) (q : Nat) (X : BitVec 64) (ps : Array Value) (hs bs : List (Int × Int)) : Prop where
  P : PInv pg X ps
  qp : (q : Int) ≤ pg
  done : ∀ p : Nat, p < q → X.getLsbD p = true
  has : ∀ p : Nat, q ≤ p → (p : Int) < pg → hasI (p : Int) hs = !X.getLsbD p
  bm : ∀ k : Nat, k < 2048 → q ≤ k / 32 → ((k / 32 : Nat) : Int) < pg → X.getLsbD (k / 32) = false → ps[2 + k]? = some (.int .u8 (getI (k : Int) bs))
theorem oE_ok : ∀ (m : Nat) (q : Nat) (X : BitVec 64) (ps : Array Value) (hs bs : List (Int × Int)), 64 - q < m → EInv pg q X ps hs bs → Good Tryd.prog (isB true) 1 (oE_F cs ty pg (q : Int) ps hs bs) (oE_M cs ty pg (q : Int) ps hs bs) := by
  intro m
  induction m with
  | zero => intro q X ps hs bs h; omega
  | succ m ih =>
    intro q X ps hs bs hm h
    have hhi := h.P.hi
    have hlo := h.P.lo
    have hqp := h.qp
    obtain ⟨a1, a2⟩ := h.P.p0i
    obtain ⟨b1, b2⟩ := h.P.p1i
    have hps := h.P.psz
    have ew : IntKind.i64.wrap pg = pg := wrap_in (by omega) (by omega)
    have d0 : decide (0 ≤ (q : Int)) = true := decide_eq_true (by omega)
    have e0 : ari .mul .i64 (q : Int) 32 = (q : Int) * 32 := by rw [ari_mul]; exact wrap_in (by omega) (by omega)
    have eq : ari .add .i64 (q : Int) 1 = ((q + 1 : Nat) : Int) := by rw [ari_add, wrap_in (by omega) (by omega)]; omega
    by_cases hq : (q : Int) < pg
    · have hF : ∀ (jm : Nat) (j : Nat), 32 - j < jm → j ≤ 32 → Good Tryd.prog (isB true) 1 (oF_F cs ty pg (q : Int) (!X.getLsbD q) (j : Int) ps hs bs) (oF_M cs ty pg (q : Int) (!X.getLsbD q) (j : Int) ps hs bs) := by
        intro jm
        induction jm with
        | zero => intro j h; omega
        | succ jm ihj =>
          intro j hj hj32
          refine past_vc EP_ok 1000 (pF_vc cs ty pg (q : Int) (!X.getLsbD q) (j : Int) ps hs bs (fun q' z' j' p' h' b' => q' = (q : Int) ∧ z' = (!X.getLsbD q) ∧ j' = ((j + 1 : Nat) : Int) ∧ j < 32 ∧ p' = ps ∧ h' = hs ∧ b' = bs) (fun q' p' h' b' => q' = ((q + 1 : Nat) : Int) ∧ h' = hs ∧ b' = bs ∧ ∃ Y, EInv pg (q + 1) Y p' hs bs)) ?_ (fun _ _ h => h)
            (fun fs m hb => pF_go (fun q' z' j' p' h' b' ⟨e1, e2, e3, e4, e5, e6, e7⟩ => by rw [e1, e2, e3, e5, e6, e7]; exact ihj _ (by omega) (by omega)) (fun q' p' h' b' ⟨e1, e2, e3, Y, e4⟩ => by rw [e1, e2, e3]; exact ih _ _ _ _ _ (by omega) e4) hb)
          have d1 : (decide ((q : Int) < 0) == false) = true := by rw [decide_eq_false (by omega)]; rfl
          have d2 : decide ((q : Int) ≥ pg) = false := decide_eq_false (by omega)
          have ej : ari .add .i64 (j : Int) 1 = ((j + 1 : Nat) : Int) := by rw [ari_add, wrap_in (by omega) (by omega)]; omega
          have e1 : ari .add .i64 ((q : Int) * 32) (j : Int) = ((32 * q + j : Nat) : Int) := by rw [ari_add, wrap_in (by omega) (by omega)]; omega
          cases hX : X.getLsbD q with
          | true =>
            have hE : EInv pg (q + 1) X ps hs bs := ⟨h.P, by omega, fun p hp => by
              by_cases e : p = q
              · rw [e]; exact hX
              · exact h.done p (by omega), fun p hp1 hp2 => h.has p (by omega) hp2, fun k k1 k2 => h.bm k k1 (by omega)⟩
            cases hj2 : decide ((j : Int) < 32) <;>
            · simp only [hX, hj2, beqT, beqF, eq, Bool.not_true, Bool.not_false, true_implies, Bool.true_eq_false, Bool.false_eq_true, false_implies, and_true, true_and, oF_d0_ok, oE_d0_ok]
              exact ⟨X, hE⟩
          | false =>
            by_cases hj2 : j < 32
            · have d3 : decide ((j : Int) < 32) = true := decide_eq_true (by omega)
              have d4 : decide (((32 * q + j : Nat) : Int) < 0) = false := decide_eq_false (by omega)
              obtain ⟨q', r', e3, hr', e4, e5⟩ := page_of (x := ((32 * q + j : Nat) : Int)) (by omega) (by omega)
              have eq' : q' = q := by omega
              have er : r' = j := by omega
              rw [eq'] at e4
              rw [er] at e5
              have e6 : 2 + q * 32 + j = 2 + (32 * q + j) := by omega
              have hv := h.bm (32 * q + j) (by omega) (by omega) (by omega) (by rw [show (32 * q + j) / 32 = q by omega]; exact hX)
              simp only [hX, e0, e1, d1, d2, d3, d4, e4, e5, e6, ej, a2, b2, wd_uw, intAt_of hv, hj2, bne_self_eq_false, beqT, beqF, eq, Nat.mul_one, Int.toNat_natCast, Bool.and_false, Bool.not_true, Bool.not_false, true_implies, Bool.true_eq_false, Bool.false_eq_true, false_implies, and_true, true_and, oF_d0_ok, oE_d0_ok]
              exact ⟨a1, b1, by omega, by omega, isI_of hv⟩
            · have d3 : decide ((j : Int) < 32) = false := decide_eq_false (by omega)
              have hg := give_one (p := q) (by omega) hX
              simp only [hX, d1, d2, d3, a2, b2, wd_uw, hg, beqT, beqF, eq, Nat.mul_one, Int.toNat_natCast, Bool.and_false, Bool.not_true, Bool.not_false, true_implies, Bool.true_eq_false, Bool.false_eq_true, false_implies, and_true, true_and, oF_d0_ok, oE_d0_ok]
              have hb' : ∀ j : Nat, (X ||| spanW q 1).getLsbD j = (X.getLsbD j || decide (q ≤ j ∧ j < q + 1)) := fun j => give_bit (by omega) j
              refine ⟨a1, b1, b1, by omega, _, h.P.give hq, by omega, fun p hp => ?_, fun p hp1 hp2 => ?_, fun k k1 k2 k3 k4 => ?_⟩
              · rw [hb']
                by_cases e : p = q
                · rw [e, decide_eq_true (by omega), Bool.or_true]
                · rw [h.done p (by omega)]; rfl
              · rw [hb', decide_eq_false (by omega), Bool.or_false]
                exact h.has p (by omega) hp2
              · rw [hb', decide_eq_false (by omega), Bool.or_false] at k4
                rw [set_out (by omega)]
                exact h.bm k k1 (by omega) k3 k4
      refine past_vc EP_ok 1000 (pE_vc cs ty pg (q : Int) ps hs bs (fun q' z' j' p' h' b' => q' = (q : Int) ∧ z' = (!X.getLsbD q) ∧ j' = ((0 : Nat) : Int) ∧ p' = ps ∧ h' = hs ∧ b' = bs) (fun _ _ _ => False)) ?_ (fun _ _ h => h)
        (fun fs m hb => pE_go (fun q' z' j' p' h' b' ⟨e1, e2, e3, e5, e6, e7⟩ => by rw [e1, e2, e3, e5, e6, e7]; exact hF _ 0 (Nat.lt_succ_self _) (by omega)) (fun p' h' b' hf => hf.elim) hb)
      have d : decide ((q : Int) < pg) = true := decide_eq_true hq
      have hh := h.has q (Nat.le_refl _) hq
      have d1 : (X.getLsbD q == !X.getLsbD q) = false := by cases X.getLsbD q <;> rfl
      simp only [ew, d, d0, b2, wd_uw, hh, d1, Int.toNat_natCast, Bool.true_and, true_implies, Bool.true_eq_false, Bool.false_eq_true, false_implies, and_true, true_and, oF_d0_ok, oH_d0_ok]
      exact ⟨b1, rfl⟩
    · refine past_vc EP_ok 1000 (pE_vc cs ty pg (q : Int) ps hs bs (fun _ _ _ _ _ _ => False) (fun p' h' b' => p' = ps ∧ h' = hs ∧ b' = bs)) ?_ (fun _ _ h => h)
        (fun fs m hb => pE_go (fun q' z' j' p' h' b' hf => hf.elim) (fun p' h' b' ⟨e1, e2, e3⟩ => by rw [e1, e2, e3]; exact oH_ok h.P fun k hk => h.done k (by omega)) hb)
      have d : decide ((q : Int) < pg) = false := decide_eq_false hq
      simp only [ew, d, true_implies, Bool.true_eq_false, Bool.false_eq_true, false_implies, and_true, true_and, oF_d0_ok, oH_d0_ok]
theorem end_ok {ps : Array Value} {hs bs : List (Int × Int)} (h : All pg ps hs bs) : Good Tryd.prog (isB true) 1 (oE_F cs ty pg 0 ps hs bs) (oE_M cs ty pg 0 ps hs bs) := by
  obtain ⟨X, h1, h2, h3⟩ := h
  have hlo := h1.lo
  have hhi := h1.hi
  refine oE_ok 65 0 X ps hs bs (by omega) ⟨h1, by omega, fun p hp => by omega, fun p _ hp => ?_, fun k k1 _ k2 k3 => h3 k k1 k2 k3 (fun h => h)⟩
  rw [Bool.eq_iff_iff, h2.has, Bool.not_eq_true']
  exact ⟨fun h => h.2.2.1, fun h => ⟨by omega, hp, h, fun h => h⟩⟩
theorem oA_ok {off n : Nat} (hn : n ≤ 200) (ha : ActsOk cs off n) : ∀ (j : Nat) (i : Int) (ps : Array Value) (hs bs : List (Int × Int)), n - i.toNat < j → 0 ≤ i → i ≤ (n : Int) → All pg ps hs bs → Good Tryd.prog (isB true) 1 (oA_F off n cs ty pg i ps hs bs) (oA_M off n cs ty pg i ps hs bs) := by
  intro j
  induction j with
  | zero => intro i ps hs bs h; omega
  | succ j ih =>
    intro i ps hs bs hj h0 h1 hB
    have H : i < (n : Int) → Next off n cs ty pg i := fun hi ps' hs' bs' hb => ih _ _ _ _ (by omega) (by omega) (by omega) hb
    refine past_vc EP_ok 1000 (pA_vc off n cs ty pg i ps hs bs (fun i' d x y w p h z p' h' b' => i' = i ∧ QB n pg i d p h z p' h' b') (fun q' p' h' b' => q' = 0 ∧ p' = ps ∧ h' = hs ∧ b' = bs)) ?_ (fun _ _ h => h.elim)
      (fun fs m hb => pA_go (fun i' d x y w p h z p' h' b' ⟨e1, e2⟩ => by rw [e1]; exact oB_ok hn (H e2.2.1) e2) (fun q' p' h' b' ⟨e1, e2, e3, e4⟩ => by rw [e1, e2, e3, e4]; exact end_ok hB) hb)
    by_cases hi : i < (n : Int)
    · obtain ⟨a1, a2, a3, a4⟩ := ha i.toNat (by omega)
      have d : decide (i < (n : Int)) = true := decide_eq_true hi
      have ep : ∀ x : Int, 0 ≤ ari .rem .i64 (ari .add .i64 (ari .rem .i64 x 64) 64) 64 ∧ ari .rem .i64 (ari .add .i64 (ari .rem .i64 x 64) 64) 64 < 64 := fun x => by
        have h1 : -64 < x.tmod 64 := by
          rcases Int.le_total 0 x with h | h
          · rw [Int.tmod_eq_emod_of_nonneg h]; omega
          · have e : x.tmod 64 = -((-x).tmod 64) := by rw [Int.neg_tmod]; omega
            rw [e, Int.tmod_eq_emod_of_nonneg (by omega)]; omega
        have h2 : x.tmod 64 < 64 := Int.tmod_lt_of_pos _ (by decide)
        rw [ari_rem, ari_rem, ari_add, wrap_in (by omega) (by omega), Int.tmod_eq_emod_of_nonneg (by omega)]
        omega
      simp only [d, true_implies, Bool.true_eq_false, Bool.false_eq_true, false_implies, and_true, true_and, oB_d0_ok, oE_d0_ok]
      exact ⟨⟨h0, hi⟩, ⟨a1, a3, a4⟩, h0, hi, a2.1, a2.2, (ep _).1, (ep _).2, rfl, hB⟩
    · have d : decide (i < (n : Int)) = false := decide_eq_false hi
      simp only [d, true_implies, Bool.true_eq_false, Bool.false_eq_true, false_implies, and_true, true_and, oB_d0_ok, oE_d0_ok]
end
theorem psZ_get {pg : Int} {k : Nat} (hk : k < 2048) : (psZ pg)[2 + k]? = some (.int .u8 0) := by
  unfold psZ
  rw [List.getElem?_toArray, List.getElem?_append_right (by simp), List.getElem?_replicate, if_pos (by simp; omega)]
theorem start_all {pg : Int} (h1 : 1 ≤ pg) (h2 : pg ≤ 64) : All pg (psZ pg) [] [] := by
  have ew : IntKind.i64.wrap pg = pg := wrap_in (by omega) (by omega)
  have hc : clampN pg = pg.toNat := by unfold clampN; rw [if_neg (by omega), if_neg (by omega)]
  refine ⟨lowW pg.toNat, ⟨h1, h2, ?_, ?_, ?_, fun k hk => ?_, fun k hk => ⟨0, psZ_get hk⟩⟩, ⟨trivial, fun p => ?_⟩, fun k hk h3 h4 _ => ?_⟩
  · unfold psZ; rw [List.size_toArray, List.length_append, List.length_replicate]; rfl
  · unfold psZ; rw [ew]; rfl
  · unfold psZ; rw [ew, hc]; rfl
  · rw [lowW_bit _ _ (by omega), decide_eq_false (by omega)]
  · refine ⟨fun h => (by cases h), fun ⟨k1, k2, k3, _⟩ => ?_⟩
    rw [lowW_bit _ _ (by omega), decide_eq_true (by omega)] at k3
    cases k3
  · rw [lowW_bit _ _ (by omega), decide_eq_true (by omega)] at h4
    cases h4
theorem once_good {off n : Nat} {cs : Array Value} {ty : TypeId} {pg : Int} (ha : ActsOk cs off n) : Good Tryd.prog (isB true) 1 [callFr 5 Tryd.f5.ntmps [.s (.c (.f (.int .u8 (.o pg)))), acS off n] (Tryd.f5.body.getD .skip)] (mkM 1 [(0, ⟨.raw cs, ty, false⟩)]) := by
  refine run_vc EP_ok 8000 (pS_vc off n cs ty pg (fun i ps hs bs => n ≤ 200 ∧ i = 0 ∧ All pg ps hs bs)) ?_ (fun _ _ h => h) (fun fs m hb => pS_go (fun i ps hs bs ⟨e1, e2, e3⟩ => oA_ok e1 ha (n + 1) i ps hs bs (by omega) (by omega) (by omega) e3) hb)
  by_cases h1 : (n : Int) > 200
  · have d : decide ((n : Int) > 200) = true := decide_eq_true h1
    simp only [d, beqT, beqF, Bool.not_true, true_implies, Bool.true_eq_false, Bool.false_eq_true, false_implies, and_true, true_and]
  · have d : decide ((n : Int) > 200) = false := decide_eq_false h1
    by_cases h2 : pg < 1
    · have d2 : decide (pg < 1) = true := decide_eq_true h2
      simp only [d, d2, beqT, beqF, Bool.not_true, Bool.not_false, true_implies, Bool.true_eq_false, Bool.false_eq_true, false_implies, and_true, true_and]
    · have d2 : decide (pg < 1) = false := decide_eq_false h2
      by_cases h3 : pg > 64
      · have d3 : decide (pg > 64) = true := decide_eq_true h3
        simp only [d, d2, d3, beqT, beqF, Bool.not_true, Bool.not_false, true_implies, Bool.true_eq_false, Bool.false_eq_true, false_implies, and_true, true_and]
      · have d3 : decide (pg > 64) = false := decide_eq_false h3
        have ew : IntKind.i64.wrap pg = pg := wrap_in (by omega) (by omega)
        simp only [d, d2, d3, ew, beqT, beqF, List.map_nil, Bool.not_true, Bool.not_false, true_implies, Bool.true_eq_false, Bool.false_eq_true, false_implies, and_true, true_and, oA_d0_ok]
        exact ⟨by omega, start_all (by omega) (by omega)⟩
theorem once_none (pg : Int) : Good Tryd.prog (isB true) 1 [callFr 5 Tryd.f5.ntmps [.s (.c (.f (.int .u8 (.o pg)))), .s (.c (.f .e0))] (Tryd.f5.body.getD .skip)] (mkM 1 []) := by
  refine run_vc EZ_ok 8000 (pZ_vc #[] 0 pg (fun q ps hs bs => q = 0 ∧ All pg ps hs bs)) ?_ (fun _ _ h => h) (fun fs m hb => pZ_go (fun q ps hs bs ⟨e1, e2⟩ => by rw [e1]; exact end_ok e2) hb)
  by_cases h2 : pg < 1
  · have d2 : decide (pg < 1) = true := decide_eq_true h2
    simp only [d2, beqT, beqF, Bool.not_true, Bool.not_false, true_implies, Bool.true_eq_false, Bool.false_eq_true, false_implies, and_true, true_and]
  · have d2 : decide (pg < 1) = false := decide_eq_false h2
    by_cases h3 : pg > 64
    · have d3 : decide (pg > 64) = true := decide_eq_true h3
      simp only [d2, d3, beqT, beqF, Bool.not_true, Bool.not_false, true_implies, Bool.true_eq_false, Bool.false_eq_true, false_implies, and_true, true_and]
    · have d3 : decide (pg > 64) = false := decide_eq_false h3
      have ew : IntKind.i64.wrap pg = pg := wrap_in (by omega) (by omega)
      simp only [d2, d3, ew, beqT, beqF, List.map_nil, Bool.not_true, Bool.not_false, true_implies, Bool.true_eq_false, Bool.false_eq_true, false_implies, and_true, true_and, oE_d0_ok]
      exact start_all (by omega) (by omega)
end Go.Proofs.YtfgkainnkbbanaaDoor
