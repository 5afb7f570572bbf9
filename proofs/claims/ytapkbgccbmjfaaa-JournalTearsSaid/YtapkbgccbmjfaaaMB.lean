/- Of journal: Decode answers as it is told. No condition. -/
import Derived.Test.YtapkbgccbmjfaaaMA
import Derived.Laws.BitsAllLaws
namespace Go.Proofs.Ytapkbgccbmjfaaa
set_option linter.unusedSectionVars false
set_option maxRecDepth 100000
def posB (b : ByteArray) : Nat → Nat
  | 0 => 2
  | j + 1 => posB b j + 1 + 6 * (byteAt b (posB b j)).toNat
def prg (b : ByteArray) (j : Nat) : ByteArray := b.extract (posB b j + 1) (posB b (j + 1))
def rowP (b : ByteArray) : Nat → Array Value
  | 0 => #[]
  | j + 1 => rowP b j ++ #[Value.string (prg b j)]
def fitsB (b : ByteArray) : Nat → Bool
  | 0 => true
  | j + 1 => fitsB b j && decide (posB b j < b.size ∧ posB b (j + 1) ≤ b.size)
def numB (b : ByteArray) : Nat := (byteAt b 1).toNat
def leftB (b : ByteArray) : ByteArray := b.extract (posB b (numB b)) b.size
def okD (b : ByteArray) : Bool := decide (2 ≤ b.size) && fitsB b (numB b) && mayS (byteAt b 0) 0 (numB b) (leftB b).size (rowP b (numB b)) (celA (leftB b))
theorem ext_ext (b : ByteArray) (s a c : Nat) : (b.extract s b.size).extract a c = b.extract (s + a) (min (s + c) b.size) := by
  apply ByteArray.ext
  rw [ByteArray.data_extract, ByteArray.data_extract, ByteArray.data_extract, Array.extract_extract]
theorem ext_size (b : ByteArray) (s c : Nat) : (b.extract s c).size = min c b.size - s := ByteArray.size_extract
theorem rowP_size (b : ByteArray) : ∀ j, (rowP b j).size = j
  | 0 => rfl
  | j + 1 => by
    show (rowP b j ++ #[Value.string (prg b j)]).size = _
    rw [Array.size_append, rowP_size b j]
    rfl
theorem rowP_at (b : ByteArray) : ∀ {j t : Nat}, t < j → (rowP b j)[t]? = some (Value.string (prg b t))
  | j + 1, t, h => by
    show (rowP b j ++ #[Value.string (prg b j)])[t]? = _
    rw [Array.getElem?_append, rowP_size]
    by_cases e : t < j
    · rw [if_pos e]; exact rowP_at b e
    · obtain rfl : t = j := by omega
      rw [if_neg e, Nat.sub_self]
      rfl
theorem rowP_str {b : ByteArray} {j t : Nat} (h : t < j) : strAt (rowP b j) t = prg b t ∧ IsStr (rowP b j) t := by
  have e : strAt (rowP b j) t = prg b t := by unfold strAt; rw [rowP_at b h]
  exact ⟨e, by unfold IsStr; rw [e]; exact rowP_at b h⟩
theorem prg_size (b : ByteArray) (j : Nat) : (prg b j).size ≤ b.size := by
  unfold prg
  rw [ext_size]
  omega
theorem rowP_ok {b : ByteArray} {j : Nat} (hb : b.size < 140737488355328) (hj : j < 9223372036854775807) : StrOk (rowP b j) 0 j := ⟨hj, fun t ht => by
  rw [Nat.zero_add]
  obtain ⟨h1, h2⟩ := rowP_str (b := b) ht
  have := prg_size b t
  exact ⟨h2, by rw [h1]; omega⟩⟩
theorem celA_ok (s : ByteArray) (h : s.size < 9223372036854775807) : BytOk (celA s) 0 s.size := ⟨h, fun t ht => by
  rw [Nat.zero_add]
  have hs : t < s.data.size := ht
  have e : (celA s)[t]? = some (.int .u8 (s.data[t].toNat : Int)) := by
    unfold celA
    rw [Array.getElem?_map, Array.getElem?_eq_getElem hs]
    rfl
  have := intAt_is e
  exact this.2⟩
theorem fits_no {b : ByteArray} {j : Nat} (h : fitsB b (j + 1) = false) : ∀ {n : Nat}, j < n → fitsB b n = false
  | n + 1, hn => by
    by_cases e : j = n
    · rw [← e]; exact h
    · have := fits_no h (n := n) (by omega)
      unfold fitsB
      rw [this]
      rfl
theorem pos_le {b : ByteArray} : ∀ {j : Nat}, 2 ≤ b.size → fitsB b j = true → posB b j ≤ b.size
  | 0, h, _ => h
  | j + 1, _, h => by
    unfold fitsB at h
    rw [Bool.and_eq_true, decide_eq_true_eq] at h
    exact h.2.2
theorem okD_no {b : ByteArray} {j : Nat} (hj : j < numB b) (h : fitsB b (j + 1) = false) : okD b = false := by
  unfold okD
  rw [fits_no h hj, Bool.and_false, Bool.false_and]
theorem dT0'_ok : TodoOk (ren 0 [(0, 0), (1, 1), (2, 2), (3, 3), (4, 4)]) dT0' dT0' := TodoOk.same (by kernel_rfl)
theorem dH0'_5 (i : Nat) : TodoOk (ren 0 [(0, 0), (1, 1), (2, 2), (3, 3), (4, 4), (5, i)]) dH0' dH0' := TodoOk.same (by kernel_rfl)
theorem dN_good {b : ByteArray} {A : SV → SMem → Prop} {Q0 : Int → Int → ByteArray → Int → Prop} {Q1 : Int → Int → ByteArray → Int → Nat → Array Value → Prop}
    (hg0 : ∀ n i L P, Q0 n i L P → Good EV.P A 0 (headF (dF b n i)) (dM0 b L P)) (hg1 : ∀ n i L P k rs, Q1 n i L P k rs → Good EV.P A 0 (headF (dF b n i)) (dM1 b L P k rs)) {fs : List SFr} {m : SMem} (hb : dN b Q0 Q1 fs m) : Good EV.P A 0 fs m := by
  unfold dN at hb
  split at hb
  · split at hb
    · exact Good.of_sub hb.2 (hg0 _ _ _ _ hb.1)
    · split at hb
      · exact Good.of_sub hb.2 (hg1 _ _ _ _ _ _ hb.1)
      · exact hb.elim
    · exact hb.elim
  · exact hb.elim
theorem dN0_good {b : ByteArray} {A : SV → SMem → Prop} {Q0 : Int → Int → ByteArray → Int → Prop} (hg0 : ∀ n i L P, Q0 n i L P → Good EV.P A 0 (headF (dF b n i)) (dM0 b L P)) {fs : List SFr} {m : SMem} (hb : dN0 b Q0 fs m) : Good EV.P A 0 fs m := by
  unfold dN0 at hb
  split at hb
  · split at hb
    · exact Good.of_sub hb.2 (Good.head (hg0 _ _ _ _ hb.1))
    · exact hb.elim
  · exact hb.elim
def dAb (b : ByteArray) : SV → SMem → Prop := dA (okD b) (decide ((leftB b).size ≠ 0)) (byteAt b 0) (numB b) (leftB b).size (rowP b (numB b)) (celA (leftB b))
theorem byteAt_ext {b : ByteArray} {s e i : Nat} (h : s + i < min e b.size) : byteAt (b.extract s e) i = byteAt b (s + i) := by
  rw [byteAt_list, byteAt_list, Array.getElem?_toList, Array.getElem?_toList, ByteArray.data_extract, Array.getElem?_extract]
  have hs : b.data.size = b.size := rfl
  rw [if_pos (by rw [hs]; omega)]
theorem byte_mul {x : Int} (h : 0 ≤ x ∧ x ≤ 255) : ari .mul .i64 6 (IntKind.wrap .i64 x) = ((6 * x.toNat : Nat) : Int) := by
  rw [Go.IntWalk.i64_in x (by omega), ari_mul, Go.IntWalk.i64_in _ (by omega)]
  omega
section
variable (b : ByteArray) (hb : b.size < 140737488355328) (h2 : 2 ≤ b.size)
include hb h2
theorem d_take {s : Nat} {L : ByteArray} (hL : L = b.extract s b.size) (hp : s < b.size) :
    byteAt (L.extract 0 1) 0 = byteAt b s ∧ (L.extract 0 1).size = 1 ∧ L.extract 1 L.size = b.extract (s + 1) b.size := by
  have hs : L.size = b.size - s := by rw [hL, ext_size, Nat.min_self]
  refine ⟨?_, ?_, ?_⟩
  · rw [hL, ext_ext, byteAt_ext (by omega)]
    rfl
  · rw [ext_size, hs]; omega
  · rw [hs, hL, ext_ext]
    congr 1
    omega
theorem d_prog {s k : Nat} : (b.extract s b.size).extract k (b.extract s b.size).size = b.extract (s + k) b.size ∧ (s + k ≤ b.size → (b.extract s b.size).extract 0 k = b.extract s (s + k)) := by
  refine ⟨?_, fun h => ?_⟩
  · rw [ext_ext, ext_size]
    by_cases e : s ≤ b.size
    · congr 1
      omega
    · apply ByteArray.ext
      rw [ByteArray.data_extract, ByteArray.data_extract, Array.extract_empty_of_size_le_start (by have : b.data.size = b.size := rfl; omega), Array.extract_empty_of_size_le_start (by have : b.data.size = b.size := rfl; omega)]
  · rw [ext_ext, Nat.add_zero, Nat.min_eq_left h]
theorem dec_round' : ∀ (K j : Nat), numB b - j < K → 1 ≤ j → j ≤ numB b → fitsB b j = true → Good EV.P (dAb b) 0 (headF (dF b (numB b : Int) (j : Int))) (dM1 b (b.extract (posB b j) b.size) (byteAt b 0) j (rowP b j)) := by
  intro K
  induction K with
  | zero => intro j h; omega
  | succ K ih =>
    intro j hk hj1 hj hf
    have hn255 : numB b ≤ 255 := by have := byteAt_range b 1; unfold numB; omega
    have hp := pos_le h2 hf
    obtain ⟨L, hL⟩ : ∃ L, L = b.extract (posB b j) b.size := ⟨_, rfl⟩
    have hs : L.size = b.size - posB b j := by rw [hL, ext_size, Nat.min_self]
    rw [← hL]
    refine past_vc EV_ok 1000 (d_step b L (byteAt b 0) (numB b : Int) (j : Int) j (rowP b j) _ _ _ _ _ _ _ (fun _ _ _ _ => False) (fun n' i' L' P' k' rs' => ∃ t : Nat, n' = (numB b : Int) ∧ i' = t ∧ L' = b.extract (posB b t) b.size ∧ P' = byteAt b 0 ∧ k' = t ∧ rs' = rowP b t ∧ numB b - t < K ∧ 1 ≤ t ∧ t ≤ numB b ∧ fitsB b t = true)) ?_ (fun _ _ h => h)
      (fun fs m hb' => dN_good (fun _ _ _ _ h => h.elim) (fun n' i' L' P' k' rs' ⟨t, e1, e2, e3, e4, e5, e6, q1, q2, q3, q4⟩ => by rw [e1, e2, e3, e4, e5, e6]; exact ih t q1 q2 q3 q4) hb')
    refine ⟨fun h => ⟨fun h1 => ?_, fun h1 => ?_⟩, fun h => ?_⟩
    · have hlt : j < numB b := by have := of_decide_eq_true h; omega
      have h1 := of_decide_eq_true h1
      have hno : okD b = false := okD_no hlt (by unfold fitsB; rw [hf, Bool.true_and]; exact decide_eq_false (by omega))
      have hl0 : L.size = 0 := by omega
      refine ⟨fun e => (by cases e), fun _ => ⟨⟨by omega, trivial⟩, ⟨by omega, trivial⟩, fun _ => ⟨hno, rfl, rfl, trivial⟩, fun e => ?_⟩⟩
      have e := of_decide_eq_false e
      rw [ext_size] at e
      omega
    · have hlt : j < numB b := by have := of_decide_eq_true h; omega
      have h1 := of_decide_eq_false h1
      have hpj : posB b j < b.size := by omega
      obtain ⟨t1, t2, t3⟩ := d_take b hb h2 hL hpj
      have hr := byteAt_range b (posB b j)
      rw [t1, t2, t3, byte_mul hr, Int.toNat_natCast]
      have hs' : (b.extract (posB b j + 1) b.size).size = b.size - (posB b j + 1) := by rw [ext_size, Nat.min_self]
      obtain ⟨g1, g2⟩ := d_prog b hb h2 (s := posB b j + 1) (k := 6 * (byteAt b (posB b j)).toNat)
      rw [g1]
      refine ⟨⟨by omega, trivial⟩, ⟨by omega, trivial⟩, ⟨⟨by omega, by omega⟩, trivial⟩, fun h3 => ?_, fun h3 => ?_⟩
      · have h3 := of_decide_eq_true h3
        have hno : okD b = false := okD_no hlt (by unfold fitsB; rw [hf, Bool.true_and]; exact decide_eq_false (by rw [posB]; omega))
        refine ⟨fun _ => ⟨hno, rfl, rfl, trivial⟩, fun e => ?_⟩
        have e := of_decide_eq_false e
        exact ⟨⟨by omega, ⟨by omega, by omega⟩, trivial⟩, hno, rfl, rfl, trivial⟩
      · have h3 := of_decide_eq_false h3
        have hf' : fitsB b (j + 1) = true := by
          unfold fitsB
          rw [hf, Bool.true_and]
          exact decide_eq_true ⟨hpj, by rw [posB]; omega⟩
        have eA : ari BinOp.add IntKind.i64 (j : Int) 1 = ((j + 1 : Nat) : Int) := by rw [ari_add, i64_nat (show j < 9223372036854775807 by omega)]
        rw [eA]
        have hrow : rowP b j ++ #[Value.string ((b.extract (posB b j + 1) b.size).extract 0 (6 * (byteAt b (posB b j)).toNat))] = rowP b (j + 1) := by
          rw [g2 (by omega)]
          rfl
        refine ⟨⟨by omega, by omega, trivial⟩, ⟨by omega, by omega, trivial⟩, ⟨⟨by omega, by omega⟩, by rw [rowP_size]; omega, trivial⟩, ⟨j + 1, rfl, rfl, rfl, rfl, rfl, hrow, by omega, by omega, by omega, hf'⟩, ?_⟩
        repeat' first | exact trivial | exact dH0'_5 _ | apply And.intro | exact rfl
    · have hjn : j = numB b := by have := of_decide_eq_false h; omega
      have hS : rowOk true (rowP b (numB b)) 0 (numB b) := rowP_ok hb (by omega)
      have hLl : L = leftB b := by rw [hL, hjn]; rfl
      have hB : rowOk false (celA (leftB b)) 0 (leftB b).size := celA_ok _ (by rw [← hLl]; omega)
      rw [hjn, hLl]
      rw [hLl] at hs
      have hfn : fitsB b (numB b) = true := by rw [← hjn]; exact hf
      have hok : okD b = mayS (byteAt b 0) 0 (numB b) (leftB b).size (rowP b (numB b)) (celA (leftB b)) := by
        unfold okD
        rw [decide_eq_true h2, hfn]
        rfl
      unfold dAb at *
      rw [hok]
      unfold mayS
      have hsz : (leftB b).size ≤ b.size := by omega
      rw [show Array.map (fun b => Value.int IntKind.u8 (↑(UInt8.toNat b) : Int)) (ByteArray.data (leftB b)) = celA (leftB b) from rfl]
      generalize hP : byteAt b 0 = P
      generalize hrs : rowP b (numB b) = rs at *
      generalize hbs : celA (leftB b) = bs at *
      generalize hlz : (leftB b).size = z at *
      clear hs hok ih hL hLl hrs hbs hP
      have c1 : ((numB b : Int) ≤ 8) ↔ numB b ≤ 8 := by omega
      have c2 : (1 ≤ (numB b : Int)) ↔ 1 ≤ numB b := by omega
      have c3 : ((z : Int) ≤ 4000) ↔ z ≤ 4000 := by omega
      repeat' first | exact trivial | exact hS | exact hB | exact rfl | apply And.intro | intro _
      all_goals
        simp_all [anyV, anyB]
        try omega
end
end Go.Proofs.Ytapkbgccbmjfaaa
/- Of journal: Decode's run, from its beginning. No condition. -/
namespace Go.Proofs.Ytapkbgccbmjfaaa
set_option linter.unusedSectionVars false
set_option maxRecDepth 100000
theorem EVn_ok : EnvOk EVn := EnvOk.with E0_ok _ _ conV_ok
theorem numB_le (b : ByteArray) : numB b ≤ 255 ∧ (numB b : Int) = byteAt b 1 := by
  have := byteAt_range b 1
  unfold numB
  omega
section
variable (b : ByteArray) (hb : b.size < 140737488355328)
include hb
theorem dec_first' (h2 : 2 ≤ b.size) : Good EV.P (dAb b) 0 (headF (dF b (numB b : Int) 0)) (dM0 b (b.extract (posB b 0) b.size) (byteAt b 0)) := by
  have hn255 : numB b ≤ 255 := (numB_le b).1
  have hp : posB b 0 ≤ b.size := h2
  obtain ⟨L, hL⟩ : ∃ L, L = b.extract (posB b 0) b.size := ⟨_, rfl⟩
  have hs : L.size = b.size - posB b 0 := by rw [hL, ext_size, Nat.min_self]
  have hp1 : posB b 1 = posB b 0 + 1 + 6 * (byteAt b (posB b 0)).toNat := rfl
  rw [← hL]
  refine past_vc EV_ok 1000 (d_first b L (byteAt b 0) (numB b : Int) 0 _ _ _ _ _ _ _ (fun _ _ _ _ => False) (fun n' i' L' P' k' rs' => n' = (numB b : Int) ∧ i' = ((1 : Nat) : Int) ∧ L' = b.extract (posB b 1) b.size ∧ P' = byteAt b 0 ∧ k' = 1 ∧ rs' = rowP b 1 ∧ 1 ≤ numB b ∧ fitsB b 1 = true)) ?_ (fun _ _ h => h)
    (fun fs m hb' => dN_good (fun _ _ _ _ h => h.elim) (fun n' i' L' P' k' rs' ⟨e1, e2, e3, e4, e5, e6, q1, q2⟩ => by rw [e1, e2, e3, e4, e5, e6]; exact dec_round' b hb h2 (numB b + 1) 1 (by omega) (by omega) q1 q2) hb')
  refine ⟨fun h => ⟨fun h1 => ?_, fun h1 => ?_⟩, fun h => ?_⟩
  · have hlt : 0 < numB b := by have := of_decide_eq_true h; omega
    have h1 := of_decide_eq_true h1
    have hno : okD b = false := okD_no hlt (by unfold fitsB; rw [show fitsB b 0 = true from rfl, Bool.true_and]; exact decide_eq_false (show ¬ (posB b 0 < b.size ∧ posB b 1 ≤ b.size) from by omega))
    have hl0 : L.size = 0 := by omega
    refine ⟨fun e => (by cases e), fun _ => ⟨⟨by omega, trivial⟩, ⟨by omega, trivial⟩, fun _ => ⟨hno, rfl, rfl, trivial⟩, fun e => ?_⟩⟩
    have e := of_decide_eq_false e
    rw [ext_size] at e
    omega
  · have hlt : 0 < numB b := by have := of_decide_eq_true h; omega
    have h1 := of_decide_eq_false h1
    have hpj : posB b 0 < b.size := by omega
    obtain ⟨t1, t2, t3⟩ := d_take b hb h2 hL hpj
    have hr := byteAt_range b (posB b 0)
    rw [t1, t2, t3, byte_mul hr, Int.toNat_natCast]
    have hs' : (b.extract (posB b 0 + 1) b.size).size = b.size - (posB b 0 + 1) := by rw [ext_size, Nat.min_self]
    obtain ⟨g1, g2⟩ := d_prog b hb h2 (s := posB b 0 + 1) (k := 6 * (byteAt b (posB b 0)).toNat)
    rw [g1]
    refine ⟨⟨by omega, trivial⟩, ⟨by omega, trivial⟩, ⟨⟨by omega, by omega⟩, trivial⟩, fun h3 => ?_, fun h3 => ?_⟩
    · have h3 := of_decide_eq_true h3
      have hno : okD b = false := okD_no hlt (by unfold fitsB; rw [show fitsB b 0 = true from rfl, Bool.true_and]; exact decide_eq_false (show ¬ (posB b 0 < b.size ∧ posB b 1 ≤ b.size) from by omega))
      refine ⟨fun _ => ⟨hno, rfl, rfl, trivial⟩, fun e => ?_⟩
      have e := of_decide_eq_false e
      exact ⟨⟨by omega, ⟨by omega, by omega⟩, trivial⟩, hno, rfl, rfl, trivial⟩
    · have h3 := of_decide_eq_false h3
      have hf' : fitsB b 1 = true := by
        unfold fitsB
        rw [show fitsB b 0 = true from rfl, Bool.true_and]
        exact decide_eq_true (show posB b 0 < b.size ∧ posB b 1 ≤ b.size from ⟨hpj, by omega⟩)
      have eA : ari BinOp.add IntKind.i64 (0 : Int) 1 = ((1 : Nat) : Int) := by rw [ari_add]; exact i64_nat (k := 0) (by omega)
      rw [eA]
      have hrow : #[Value.string ((b.extract (posB b 0 + 1) b.size).extract 0 (6 * (byteAt b (posB b 0)).toNat))] = rowP b 1 := by
        rw [g2 (by omega)]
        show _ = #[] ++ #[Value.string (prg b 0)]
        rw [Array.empty_append]
        rfl
      refine ⟨⟨by omega, by omega, trivial⟩, ⟨by omega, by omega, trivial⟩, ⟨rfl, rfl, rfl, rfl, rfl, hrow, by omega, hf'⟩, ?_⟩
      repeat' first | exact trivial | exact dH0'_5 _ | apply And.intro | exact rfl
  · have h0 : numB b = 0 := by have := of_decide_eq_false h; omega
    have hno : okD b = false := by
      unfold okD mayS
      rw [decide_eq_false (p := 1 ≤ byteAt b 0 ∧ byteAt b 0 ≤ 64 ∧ 1 ≤ numB b ∧ numB b ≤ 8 ∧ (leftB b).size ≤ 4000) (by omega)]
      simp
    repeat' first | exact trivial | exact hno | exact rfl | apply And.intro | intro _
    all_goals
      simp only [decide_eq_true_eq, decide_eq_false_iff_not] at *
      omega
theorem dec_two (h2 : 2 ≤ b.size) : Good Try.prog (dAb b) 0 (dcC b) M0 := by
  refine run_vc EV_ok 1000 (d_start b _ _ _ _ _ _ _ (fun n i L P => n = (numB b : Int) ∧ i = 0 ∧ L = b.extract (posB b 0) b.size ∧ P = byteAt b 0)) ?_ (fun _ _ h => h)
    (fun fs m hb' => dN0_good (fun n i L P ⟨e1, e2, e3, e4⟩ => by rw [e1, e2, e3, e4]; exact dec_first' b hb h2) hb')
  have hs1 : (b.extract 1 b.size).size = b.size - 1 := by rw [ext_size, Nat.min_self]
  have r0 := byteAt_range b 0
  have r1 := byteAt_range b 1
  obtain ⟨t1, t2, _⟩ := d_take b hb h2 (L := b.extract 1 b.size) (s := 1) rfl (by omega)
  have u1 : byteAt (b.extract 0 1) 0 = byteAt b 0 := by rw [byteAt_ext (by omega)]
  have u2 : (b.extract 0 1).size = 1 := by rw [ext_size]; omega
  rw [t1, t2, u1, u2]
  have hQ : IntKind.wrap IntKind.i64 (byteAt b 1) = (numB b : Int) ∧ (0 : Int) = 0 ∧ (b.extract 1 b.size).extract 1 (b.extract 1 b.size).size = b.extract (posB b 0) b.size ∧ IntKind.wrap IntKind.i64 (byteAt b 0) = byteAt b 0 :=
    ⟨by rw [Go.IntWalk.i64_in _ (by omega)]; exact (numB_le b).2.symm, rfl, (d_prog b hb h2 (s := 1) (k := 1)).1, Go.IntWalk.i64_in _ (by omega)⟩
  refine ⟨fun h => ?_, fun _ => ⟨⟨by omega, trivial⟩, ⟨by omega, trivial⟩, ⟨⟨by omega, by omega⟩, trivial⟩, fun h => ?_, fun _ => ⟨⟨by omega, trivial⟩, ⟨by omega, trivial⟩, ⟨⟨by omega, by omega⟩, trivial⟩, hQ, ?_⟩⟩⟩
  · have := of_decide_eq_true h
    omega
  · have := of_decide_eq_true h
    omega
  · repeat' first | exact trivial | exact dT0'_ok | apply And.intro | exact rfl
theorem dec_small (h2 : ¬ 2 ≤ b.size) : Good Try.prog (dAb b) 0 (dcC b) M0 := by
  have hno : okD b = false := by
    unfold okD
    rw [decide_eq_false h2]
    rfl
  by_cases h0 : b.size = 0
  · refine run_way EVn_ok 1000 (d_none b _ _ _ _ _ _ _) ?_ (fun _ _ h => h) (fun _ _ h => h.elim)
    exact ⟨decide_eq_true (by omega), decide_eq_true (by omega), decide_eq_true h0, hno, rfl, rfl, trivial⟩
  · refine run_way EVn_ok 1000 (d_none' b _ _ _ _ _ _ _) ?_ (fun _ _ h => h) (fun _ _ h => h.elim)
    have hs1 : (b.extract 1 b.size).size = 0 := by rw [ext_size]; omega
    have u2 : (b.extract 0 1).size = 1 := by rw [ext_size]; omega
    exact ⟨decide_eq_false (by omega), ⟨by omega, trivial⟩, ⟨by omega, trivial⟩, ⟨⟨by omega, by omega⟩, trivial⟩, decide_eq_true (by omega), decide_eq_true hs1, hno, rfl, rfl, trivial⟩
theorem dec_every : Good Try.prog (dAb b) 0 (dcC b) M0 := by
  by_cases h2 : 2 ≤ b.size
  · exact dec_two b hb h2
  · exact dec_small b hb h2
end
end Go.Proofs.Ytapkbgccbmjfaaa
/- Of journal: Great and Same: their states. No condition. -/
namespace Go.Proofs.Ytapkbgccbmjfaaa
noncomputable section
def rawM (cs : Array Value) (ty : TypeId) : SMem := prM true cs ty
def refV (P : Int) (A : SC) (q : ByteArray) : SV := .s (.agg (.ls [.f (.int .i64 (.o P)), A, .f (.opq (.string q))]))
def grC (P : Int) (A : SC) (q : ByteArray) : List SFr := [callFr 23 Try.f23.ntmps [refV P A q] (Try.f23.body.getD .skip)]
def grN (h : Bool) (P : Int) (o n : Nat) (q : ByteArray) (cs : Array Value) (ty : TypeId) (Q : Int → Prop) (fs : List SFr) (m : SMem) : Prop := match fs with
  | f :: _ => match rdI f 3 with
    | some i => Q i ∧ gN EV 1 (grC P (slC 0 o n) q) (rawM cs ty) h [(3, i64 (.o i))] [] fs m
    | none => False
  | [] => False
def gT0 : List SIt := headTd (gF EV 1 (grC 0 (slC 0 0 0) .empty) (rawM #[] 0) [])
def gH0 : List SIt := headTd (gH EV 1 (grC 0 (slC 0 0 0) .empty) (rawM #[] 0) [])
def smC (P : Int) (n : Nat) (B : SC) (P' : Int) (o n' : Nat) (q : ByteArray) : List SFr :=
  [callFr 22 Try.f22.ntmps [.s (.agg (.ls [.f (.int .i64 (.o P)), .f (.slice 0 (.l 0) (.o n) .any), B])), refV P' (slC 1 o n') q] (Try.f22.body.getD .skip)]
def smM (w : Bool) (rs cs bs : Array Value) (ty tz tb : TypeId) : SMem := match w with
  | false => ⟨2, ((Tr.nil : Tr SBlk).set 0 (some ⟨.pop rs, ty, false⟩)).set 1 (some ⟨.raw cs, tz, false⟩), []⟩
  | true => ⟨3, (((Tr.nil : Tr SBlk).set 0 (some ⟨.pop rs, ty, false⟩)).set 1 (some ⟨.raw cs, tz, false⟩)).set 2 (some ⟨.pop bs, tb, false⟩), []⟩
def smB (w : Bool) (k : Nat) : SC := cond w (.f (.slice 2 (.l 0) (.o k) .any)) nilC
def smb (w : Bool) : Nat := cond w 3 2
def smN (h w : Bool) (P : Int) (n k : Nat) (P' : Int) (o n' : Nat) (q : ByteArray) (rs cs bs : Array Value) (ty tz tb : TypeId) (Q : Int → Prop) (fs : List SFr) (m : SMem) : Prop := match fs with
  | f :: _ => match rdI f 5 with
    | some i => Q i ∧ gN EV (smb w) (smC P n (smB w k) P' o n' q) (smM w rs cs bs ty tz tb) h [(5, i64 (.o i))] [] fs m
    | none => False
  | [] => False
def mT0' : List SIt := headTd (gF EV 3 (smC 0 0 (smB true 0) 0 0 0 .empty) (smM true #[] #[] #[] 0 0 0) [])
def mH0' : List SIt := headTd (gH EV 3 (smC 0 0 (smB true 0) 0 0 0 .empty) (smM true #[] #[] #[] 0 0 0) [])
end
end Go.Proofs.Ytapkbgccbmjfaaa
/- Of journal: the rounds of Great and Same, as propositions. No condition. -/
namespace Go.Proofs.Ytapkbgccbmjfaaa
set_option maxRecDepth 100000
theorem gr_start (P : Int) (o n : Nat) (q : ByteArray) (cs : Array Value) (ty : TypeId) (r : Bool) (Q : Int → Prop) : (gR EV 1 (grC P (slC 0 o n) q) (rawM cs ty)).vc (boolR r) (grN false P o n q cs ty Q) =
    (((decide ((↑n : Int) > (20 : Int)) == false) = true → (decide (((((ByteArray.size q) : Nat) : Int)) > (6000 : Int)) = true → true = r) ∧ (decide (((((ByteArray.size q) : Nat) : Int)) > (6000 : Int)) = false → Q (0 : Int) ∧ CallKind.normal = CallKind.normal ∧ TodoOk (ren 1 [(1, 1)]) gT0 gT0 ∧ P = P ∧ o = o ∧ n = n ∧ Value.string q = Value.string q ∧ (0 : Int) = (0 : Int) ∧ decide ((↑n : Int) > (20 : Int)) = decide ((↑n : Int) > (20 : Int)) ∧ (((((ByteArray.size q) : Nat) : Int)) = (((ByteArray.size q) : Nat) : Int)) ∧ o = o ∧ n = n ∧ decide (((((ByteArray.size q) : Nat) : Int)) > (6000 : Int)) = decide (((((ByteArray.size q) : Nat) : Int)) > (6000 : Int)) ∧ (↑n : Int) = (↑n : Int) ∧ Value.string q = Value.string q ∧ ty = ty ∧ cs = cs ∧ (24 : Nat) = (24 : Nat) ∧ P = P ∧ o = o ∧ n = n ∧ Value.string q = Value.string q ∧ True)) ∧ ((decide ((↑n : Int) > (20 : Int)) == false) = false → true = r)) := by kernel_rfl
theorem gr_step (P : Int) (o n : Nat) (q : ByteArray) (cs : Array Value) (ty : TypeId) (r : Bool) (i : Int) (Q : Int → Prop) : (gS EV 1 (grC P (slC 0 o n) q) (rawM cs ty) [(3, i64 (.o i))] []).vc (boolR r) (grN true P o n q cs ty Q) =
    ((decide (i < (↑n : Int)) = true → (((0 : Int) ≤ i ∧ i < (↑n : Int)) ∧ True) ∧ (cs[o + Int.toNat i * 1]? = some (Value.string (strAt cs (o + Int.toNat i * 1))) ∧ True) ∧ (decide (((((ByteArray.size (strAt cs (o + Int.toNat i * 1))) : Nat) : Int)) > (1000 : Int)) = true → true = r) ∧ (decide (((((ByteArray.size (strAt cs (o + Int.toNat i * 1))) : Nat) : Int)) > (1000 : Int)) = false → Q (ari BinOp.add IntKind.i64 i (1 : Int)) ∧ CallKind.normal = CallKind.normal ∧ TodoOk (ren 1 [(1, 1)]) gH0 gH0 ∧ P = P ∧ o = o ∧ n = n ∧ Value.string q = Value.string q ∧ ari BinOp.add IntKind.i64 i (1 : Int) = ari BinOp.add IntKind.i64 i (1 : Int) ∧ decide ((↑n : Int) > (20 : Int)) = decide ((↑n : Int) > (20 : Int)) ∧ (((((ByteArray.size q) : Nat) : Int)) = (((ByteArray.size q) : Nat) : Int)) ∧ o = o ∧ n = n ∧ decide (((((ByteArray.size q) : Nat) : Int)) > (6000 : Int)) = decide (((((ByteArray.size q) : Nat) : Int)) > (6000 : Int)) ∧ (↑n : Int) = (↑n : Int) ∧ Value.string q = Value.string q ∧ ty = ty ∧ cs = cs ∧ (24 : Nat) = (24 : Nat) ∧ P = P ∧ o = o ∧ n = n ∧ Value.string q = Value.string q ∧ True)) ∧ (decide (i < (↑n : Int)) = false → false = r)) := by kernel_rfl
theorem gr_e0 (P : Int) (q : ByteArray) (r : Bool) : (run EVn 1000 0 (grC P (.f .e0) q) M0).vc (boolR r) (fun _ _ => False) =
    ((decide (((((ByteArray.size q) : Nat) : Int)) > (6000 : Int)) = true → true = r) ∧ (decide (((((ByteArray.size q) : Nat) : Int)) > (6000 : Int)) = false → false = r)) := by kernel_rfl
theorem sm_start_t (P : Int) (n k : Nat) (P' : Int) (o n' : Nat) (q : ByteArray) (rs cs bs : Array Value) (ty tz tb : TypeId) (Q : Int → Prop) : (gR EV 3 (smC P n (smB true k) P' o n' q) (smM true rs cs bs ty tz tb)).vc (boolR true) (smN false true P n k P' o n' q rs cs bs ty tz tb Q) =
    ((((P != P') == false) = true → ((((↑n : Int) != (↑n' : Int)) == false) = true → ((0 : Nat) + k ≤ Array.size bs ∧ AllU8 (Array.extract bs (0 : Nat) ((0 : Nat) + k)).1 ∧ True) ∧ ((!ByteArray.toList (strOf (Array.toList (Array.extract bs (0 : Nat) ((0 : Nat) + k)))) == ByteArray.toList q) = true → false = true) ∧ ((!ByteArray.toList (strOf (Array.toList (Array.extract bs (0 : Nat) ((0 : Nat) + k)))) == ByteArray.toList q) = false → Q (0 : Int) ∧ CallKind.normal = CallKind.normal ∧ TodoOk (ren 3 [(3, 3), (4, 4)]) mT0' mT0' ∧ P = P ∧ n = n ∧ k = k ∧ P' = P' ∧ o = o ∧ n' = n' ∧ Value.string q = Value.string q ∧ P = P ∧ Value.string (strOf (Array.toList (Array.extract bs (0 : Nat) ((0 : Nat) + k)))) = Value.string (strOf (Array.toList (Array.extract bs (0 : Nat) ((0 : Nat) + k)))) ∧ ((↑n : Int) != (↑n' : Int)) = ((↑n : Int) != (↑n' : Int)) ∧ (0 : Int) = (0 : Int) ∧ P' = P' ∧ (↑n' : Int) = (↑n' : Int) ∧ Value.string q = Value.string q ∧ n = n ∧ o = o ∧ n' = n' ∧ (P != P') = (P != P') ∧ ((↑n : Int) != (↑n' : Int)) = ((↑n : Int) != (↑n' : Int)) ∧ ((match mkSB (false && false) !ByteArray.toList (strOf (Array.toList (Array.extract bs (0 : Nat) ((0 : Nat) + k)))) == ByteArray.toList q with | SB.l b => b | SB.o b => b) = match mkSB (false && false) !ByteArray.toList (strOf (Array.toList (Array.extract bs (0 : Nat) ((0 : Nat) + k)))) == ByteArray.toList q with | SB.l b => b | SB.o b => b) ∧ (↑n : Int) = (↑n : Int) ∧ k = k ∧ ty = ty ∧ rs = rs ∧ tz = tz ∧ cs = cs ∧ (32 : Nat) = (32 : Nat) ∧ P = P ∧ n = n ∧ k = k ∧ tb = tb ∧ bs = bs ∧ (24 : Nat) = (24 : Nat) ∧ P' = P' ∧ o = o ∧ n' = n' ∧ Value.string q = Value.string q ∧ True)) ∧ ((((↑n : Int) != (↑n' : Int)) == false) = false → false = true)) ∧ (((P != P') == false) = false → false = true)) := by kernel_rfl
theorem sm_start_f (P : Int) (n k : Nat) (P' : Int) (o n' : Nat) (q : ByteArray) (rs cs bs : Array Value) (ty tz tb : TypeId) (Q : Int → Prop) : (gR EV 2 (smC P n (smB false k) P' o n' q) (smM false rs cs bs ty tz tb)).vc (boolR true) (smN false false P n k P' o n' q rs cs bs ty tz tb Q) =
    ((((P != P') == false) = true → ((((↑n : Int) != (↑n' : Int)) == false) = true → ((!ByteArray.toList ByteArray.empty == ByteArray.toList q) = true → false = true) ∧ ((!ByteArray.toList ByteArray.empty == ByteArray.toList q) = false → Q (0 : Int) ∧ CallKind.normal = CallKind.normal ∧ TodoOk (ren 2 [(2, 2), (3, 3)]) mT0' mT0' ∧ P = P ∧ n = n ∧ Value.slice none (0 : Nat) (0 : Nat) = Value.slice none (0 : Nat) (0 : Nat) ∧ P' = P' ∧ o = o ∧ n' = n' ∧ Value.string q = Value.string q ∧ P = P ∧ Value.string ByteArray.empty = Value.string ByteArray.empty ∧ ((↑n : Int) != (↑n' : Int)) = ((↑n : Int) != (↑n' : Int)) ∧ (0 : Int) = (0 : Int) ∧ P' = P' ∧ (↑n' : Int) = (↑n' : Int) ∧ Value.string q = Value.string q ∧ n = n ∧ o = o ∧ n' = n' ∧ (P != P') = (P != P') ∧ ((↑n : Int) != (↑n' : Int)) = ((↑n : Int) != (↑n' : Int)) ∧ ((match mkSB (true && false) !ByteArray.toList ByteArray.empty == ByteArray.toList q with | SB.l b => b | SB.o b => b) = match mkSB (true && false) !ByteArray.toList ByteArray.empty == ByteArray.toList q with | SB.l b => b | SB.o b => b) ∧ (↑n : Int) = (↑n : Int) ∧ Value.slice none (0 : Nat) (0 : Nat) = Value.slice none (0 : Nat) (0 : Nat) ∧ ty = ty ∧ rs = rs ∧ tz = tz ∧ cs = cs ∧ (24 : Nat) = (24 : Nat) ∧ P' = P' ∧ o = o ∧ n' = n' ∧ Value.string q = Value.string q ∧ (32 : Nat) = (32 : Nat) ∧ P = P ∧ n = n ∧ Value.slice none (0 : Nat) (0 : Nat) = Value.slice none (0 : Nat) (0 : Nat) ∧ True)) ∧ ((((↑n : Int) != (↑n' : Int)) == false) = false → false = true)) ∧ (((P != P') == false) = false → false = true)) := by kernel_rfl
theorem sm_step_t (P : Int) (n k : Nat) (P' : Int) (o n' : Nat) (q : ByteArray) (rs cs bs : Array Value) (ty tz tb : TypeId) (i : Int) (Q : Int → Prop) : (gS EV 3 (smC P n (smB true k) P' o n' q) (smM true rs cs bs ty tz tb) [(5, i64 (.o i))] []).vc (boolR true) (smN true true P n k P' o n' q rs cs bs ty tz tb Q) =
    ((decide (i < (↑n : Int)) = true → (((0 : Int) ≤ i ∧ i < (↑n : Int)) ∧ True) ∧ (rs[(0 : Nat) + Int.toNat i * 1]? = some (Value.string (strAt rs ((0 : Nat) + Int.toNat i * 1))) ∧ True) ∧ (((0 : Int) ≤ i ∧ i < (↑n' : Int)) ∧ True) ∧ (cs[o + Int.toNat i * 1]? = some (Value.string (strAt cs (o + Int.toNat i * 1))) ∧ True) ∧ ((!ByteArray.toList (strAt rs ((0 : Nat) + Int.toNat i * 1)) == ByteArray.toList (strAt cs (o + Int.toNat i * 1))) = true → false = true) ∧ ((!ByteArray.toList (strAt rs ((0 : Nat) + Int.toNat i * 1)) == ByteArray.toList (strAt cs (o + Int.toNat i * 1))) = false → Q (ari BinOp.add IntKind.i64 i (1 : Int)) ∧ CallKind.normal = CallKind.normal ∧ TodoOk (ren 3 [(3, 3), (4, 4)]) mH0' mH0' ∧ P = P ∧ n = n ∧ k = k ∧ P' = P' ∧ o = o ∧ n' = n' ∧ Value.string q = Value.string q ∧ P = P ∧ Value.string (strOf (Array.toList (Array.extract bs (0 : Nat) ((0 : Nat) + k)))) = Value.string (strOf (Array.toList (Array.extract bs (0 : Nat) ((0 : Nat) + k)))) ∧ ((↑n : Int) != (↑n' : Int)) = ((↑n : Int) != (↑n' : Int)) ∧ ari BinOp.add IntKind.i64 i (1 : Int) = ari BinOp.add IntKind.i64 i (1 : Int) ∧ P' = P' ∧ (↑n' : Int) = (↑n' : Int) ∧ Value.string q = Value.string q ∧ n = n ∧ o = o ∧ n' = n' ∧ (P != P') = (P != P') ∧ ((↑n : Int) != (↑n' : Int)) = ((↑n : Int) != (↑n' : Int)) ∧ ((match mkSB (false && false) !ByteArray.toList (strOf (Array.toList (Array.extract bs (0 : Nat) ((0 : Nat) + k)))) == ByteArray.toList q with | SB.l b => b | SB.o b => b) = match mkSB (false && false) !ByteArray.toList (strOf (Array.toList (Array.extract bs (0 : Nat) ((0 : Nat) + k)))) == ByteArray.toList q with | SB.l b => b | SB.o b => b) ∧ (↑n : Int) = (↑n : Int) ∧ k = k ∧ ty = ty ∧ rs = rs ∧ tz = tz ∧ cs = cs ∧ (32 : Nat) = (32 : Nat) ∧ P = P ∧ n = n ∧ k = k ∧ tb = tb ∧ bs = bs ∧ (24 : Nat) = (24 : Nat) ∧ P' = P' ∧ o = o ∧ n' = n' ∧ Value.string q = Value.string q ∧ True)) ∧ (decide (i < (↑n : Int)) = false → true = true)) := by kernel_rfl
theorem sm_step_f (P : Int) (n k : Nat) (P' : Int) (o n' : Nat) (q : ByteArray) (rs cs bs : Array Value) (ty tz tb : TypeId) (i : Int) (Q : Int → Prop) : (gS EV 2 (smC P n (smB false k) P' o n' q) (smM false rs cs bs ty tz tb) [(5, i64 (.o i))] []).vc (boolR true) (smN true false P n k P' o n' q rs cs bs ty tz tb Q) =
    ((decide (i < (↑n : Int)) = true → (((0 : Int) ≤ i ∧ i < (↑n : Int)) ∧ True) ∧ (rs[(0 : Nat) + Int.toNat i * 1]? = some (Value.string (strAt rs ((0 : Nat) + Int.toNat i * 1))) ∧ True) ∧ (((0 : Int) ≤ i ∧ i < (↑n' : Int)) ∧ True) ∧ (cs[o + Int.toNat i * 1]? = some (Value.string (strAt cs (o + Int.toNat i * 1))) ∧ True) ∧ ((!ByteArray.toList (strAt rs ((0 : Nat) + Int.toNat i * 1)) == ByteArray.toList (strAt cs (o + Int.toNat i * 1))) = true → false = true) ∧ ((!ByteArray.toList (strAt rs ((0 : Nat) + Int.toNat i * 1)) == ByteArray.toList (strAt cs (o + Int.toNat i * 1))) = false → Q (ari BinOp.add IntKind.i64 i (1 : Int)) ∧ CallKind.normal = CallKind.normal ∧ TodoOk (ren 2 [(2, 2), (3, 3)]) mH0' mH0' ∧ P = P ∧ n = n ∧ Value.slice none (0 : Nat) (0 : Nat) = Value.slice none (0 : Nat) (0 : Nat) ∧ P' = P' ∧ o = o ∧ n' = n' ∧ Value.string q = Value.string q ∧ P = P ∧ Value.string ByteArray.empty = Value.string ByteArray.empty ∧ ((↑n : Int) != (↑n' : Int)) = ((↑n : Int) != (↑n' : Int)) ∧ ari BinOp.add IntKind.i64 i (1 : Int) = ari BinOp.add IntKind.i64 i (1 : Int) ∧ P' = P' ∧ (↑n' : Int) = (↑n' : Int) ∧ Value.string q = Value.string q ∧ n = n ∧ o = o ∧ n' = n' ∧ (P != P') = (P != P') ∧ ((↑n : Int) != (↑n' : Int)) = ((↑n : Int) != (↑n' : Int)) ∧ ((match mkSB (true && false) !ByteArray.toList ByteArray.empty == ByteArray.toList q with | SB.l b => b | SB.o b => b) = match mkSB (true && false) !ByteArray.toList ByteArray.empty == ByteArray.toList q with | SB.l b => b | SB.o b => b) ∧ (↑n : Int) = (↑n : Int) ∧ Value.slice none (0 : Nat) (0 : Nat) = Value.slice none (0 : Nat) (0 : Nat) ∧ ty = ty ∧ rs = rs ∧ tz = tz ∧ cs = cs ∧ (24 : Nat) = (24 : Nat) ∧ P' = P' ∧ o = o ∧ n' = n' ∧ Value.string q = Value.string q ∧ (32 : Nat) = (32 : Nat) ∧ P = P ∧ n = n ∧ Value.slice none (0 : Nat) (0 : Nat) = Value.slice none (0 : Nat) (0 : Nat) ∧ True)) ∧ (decide (i < (↑n : Int)) = false → true = true)) := by kernel_rfl
end Go.Proofs.Ytapkbgccbmjfaaa
/- Of journal: Great and Same answer as they are told. No condition. -/
namespace Go.Proofs.Ytapkbgccbmjfaaa
set_option linter.unusedSectionVars false
set_option maxRecDepth 100000
def StrI (cs : Array Value) (o n : Nat) : Prop := n ≤ 9223372036854775807 ∧ ∀ j, j < n → IsStr cs (o + j)
def anyG (cs : Array Value) (o : Nat) : Nat → Bool
  | 0 => false
  | k + 1 => anyG cs o k || decide (1000 < (strAt cs (o + k)).size)
theorem anyG_at {cs : Array Value} {off : Nat} : ∀ {n : Nat}, anyG cs off n = false ↔ ∀ j, j < n → (strAt cs (off + j)).size ≤ 1000
  | 0 => ⟨fun _ j h => by omega, fun _ => rfl⟩
  | k + 1 => by
    unfold anyG
    rw [Bool.or_eq_false_iff, anyG_at, decide_eq_false_iff_not]
    refine ⟨fun h j hj => ?_, fun h => ⟨fun j hj => h j (by omega), by have := h k (by omega); omega⟩⟩
    by_cases e : j = k
    · rw [e]; omega
    · exact h.1 j (by omega)
def greatV (n : Nat) (q : ByteArray) (cs : Array Value) (o : Nat) : Bool := decide (20 < n) || decide (6000 < q.size) || anyG cs o n
theorem gT0_ok : TodoOk (ren 1 [(1, 1)]) gT0 gT0 := TodoOk.same (by kernel_rfl)
theorem gH0_ok : TodoOk (ren 1 [(1, 1)]) gH0 gH0 := TodoOk.same (by kernel_rfl)
theorem grN_good {h : Bool} {P : Int} {o n : Nat} {q : ByteArray} {cs : Array Value} {ty : TypeId} {A : SV → SMem → Prop} {Q : Int → Prop} (hg : ∀ i, Q i → Good EV.P A 1 (gH EV 1 (grC P (slC 0 o n) q) (rawM cs ty) [(3, i64 (.o i))]) (gM EV 1 (grC P (slC 0 o n) q) (rawM cs ty) [])) {fs : List SFr} {m : SMem} (hb : grN h P o n q cs ty Q fs m) : Good EV.P A 1 fs m := by
  unfold grN at hb
  split at hb
  · split at hb
    · exact gN_good hb.2 (hg _ hb.1)
    · exact hb.elim
  · exact hb.elim
section
variable (P : Int) (o n : Nat) (q : ByteArray) (cs : Array Value) (ty : TypeId)
theorem gr_round (hI : StrI cs o n) (h20 : n ≤ 20) (hq : q.size ≤ 6000) : ∀ (K j : Nat), n - j < K → j ≤ n → anyG cs o j = false → Good EV.P (boolR (greatV n q cs o)) 1 (gH EV 1 (grC P (slC 0 o n) q) (rawM cs ty) [(3, i64 (.o j))]) (gM EV 1 (grC P (slC 0 o n) q) (rawM cs ty) []) := by
  have hv : greatV n q cs o = anyG cs o n := by unfold greatV; rw [decide_eq_false (by omega), decide_eq_false (by omega)]; rfl
  rw [hv]
  intro K
  induction K with
  | zero => intro j h; omega
  | succ K ih =>
    intro j hk hj hd
    refine past_vc EV_ok 1000 (gr_step P o n q cs ty _ j (fun i' => ∃ t : Nat, i' = t ∧ n - t < K ∧ t ≤ n ∧ anyG cs o t = false)) ?_ (fun _ _ h => h)
      (fun fs m hb => grN_good (fun i' ⟨t, e, k1, k2, k3⟩ => by rw [e]; exact ih t k1 k2 k3) hb)
    rw [Int.toNat_natCast, Nat.mul_one]
    refine ⟨fun h => ?_, fun h => ?_⟩
    · have hlt : j < n := by simpa using h
      refine ⟨⟨⟨by omega, by omega⟩, trivial⟩, ⟨hI.2 j hlt, trivial⟩, fun hb => ?_, fun hb => ?_⟩
      · have hb := of_decide_eq_true hb
        cases e : anyG cs o n with
        | true => rfl
        | false => have := anyG_at.1 e j hlt; omega
      · have hb := of_decide_eq_false hb
        rw [ari_add, i64_nat (show j < 9223372036854775807 by omega)]
        refine ⟨⟨j + 1, rfl, by omega, by omega, by unfold anyG; rw [hd, decide_eq_false (by omega)]; rfl⟩, ?_⟩
        repeat' first | exact trivial | exact gH0_ok | apply And.intro | exact rfl
    · have h1 : ¬ j < n := by simpa using h
      have hjn : j = n := by omega
      rw [← hjn, hd]
theorem gr_good (hI : StrI cs o n) : Good Try.prog (boolR (greatV n q cs o)) 1 (grC P (slC 0 o n) q) (rawM cs ty) := by
  by_cases h20 : n ≤ 20
  · by_cases hq : q.size ≤ 6000
    · refine run_vc EV_ok 1000 (gr_start P o n q cs ty _ (fun i => i = ((0 : Nat) : Int))) ?_ (fun _ _ h => h)
        (fun fs m hb => grN_good (fun i e => by rw [e]; exact gr_round P o n q cs ty hI h20 hq (n + 1) 0 (by omega) (by omega) rfl) hb)
      refine ⟨fun _ => ⟨fun h => ?_, fun _ => ?_⟩, fun h => ?_⟩
      · have := of_decide_eq_true h
        omega
      · repeat' first | exact trivial | exact gT0_ok | apply And.intro | exact rfl
      · simp at h
        omega
    · refine run_vc EV_ok 1000 (gr_start P o n q cs ty _ (fun _ => False)) ?_ (fun _ _ h => h) (fun fs m hb => grN_good (fun i e => e.elim) hb)
      have hv : greatV n q cs o = true := by unfold greatV; rw [decide_eq_true (p := 6000 < q.size) (by omega)]; simp
      rw [hv]
      refine ⟨fun _ => ⟨fun h => rfl, fun h => ?_⟩, fun h => rfl⟩
      have := of_decide_eq_false h
      omega
  · refine run_vc EV_ok 1000 (gr_start P o n q cs ty _ (fun _ => False)) ?_ (fun _ _ h => h) (fun fs m hb => grN_good (fun i e => e.elim) hb)
    have hv : greatV n q cs o = true := by unfold greatV; rw [decide_eq_true (p := 20 < n) (by omega)]; rfl
    rw [hv]
    refine ⟨fun h => ?_, fun h => rfl⟩
    simp at h
    omega
theorem gr_good0 : Good Try.prog (boolR (decide (6000 < q.size))) 0 (grC P (.f .e0) q) M0 := by
  refine run_vc EVn_ok 1000 (gr_e0 P q _) ⟨fun h => ?_, fun h => ?_⟩ (fun _ _ h => h) (fun _ _ h => h.elim)
  · have := of_decide_eq_true h
    exact (decide_eq_true (by omega)).symm
  · have := of_decide_eq_false h
    exact (decide_eq_false (by omega)).symm
end
theorem mT0'_3 : TodoOk (ren 3 [(3, 3), (4, 4)]) mT0' mT0' := TodoOk.same (by kernel_rfl)
theorem mT0'_2 : TodoOk (ren 2 [(2, 2), (3, 3)]) mT0' mT0' := TodoOk.same (by kernel_rfl)
theorem mH0'_3 : TodoOk (ren 3 [(3, 3), (4, 4)]) mH0' mH0' := TodoOk.same (by kernel_rfl)
theorem mH0'_2 : TodoOk (ren 2 [(2, 2), (3, 3)]) mH0' mH0' := TodoOk.same (by kernel_rfl)
theorem smN_good {h w : Bool} {P P' : Int} {n k o n' : Nat} {q : ByteArray} {rs cs bs : Array Value} {ty tz tb : TypeId} {A : SV → SMem → Prop} {Q : Int → Prop} (hg : ∀ i, Q i → Good EV.P A (smb w) (gH EV (smb w) (smC P n (smB w k) P' o n' q) (smM w rs cs bs ty tz tb) [(5, i64 (.o i))]) (gM EV (smb w) (smC P n (smB w k) P' o n' q) (smM w rs cs bs ty tz tb) [])) {fs : List SFr} {m : SMem} (hb : smN h w P n k P' o n' q rs cs bs ty tz tb Q fs m) : Good EV.P A (smb w) fs m := by
  unfold smN at hb
  split at hb
  · split at hb
    · exact gN_good hb.2 (hg _ hb.1)
    · exact hb.elim
  · exact hb.elim
def RowEq (rs cs : Array Value) (o n : Nat) : Prop := n < 9223372036854775807 ∧ ∀ j, j < n → IsStr rs j ∧ IsStr cs (o + j) ∧ strAt rs j = strAt cs (o + j)
def PickEq (w : Bool) (k : Nat) (bs : Array Value) (q : ByteArray) : Prop := match w with
  | false => q.size = 0
  | true => k ≤ bs.size ∧ AllU8 (bs.extract 0 k).toList ∧ strOf (bs.extract 0 k).toList = q
section
variable (P : Int) (n k o : Nat) (q : ByteArray) (rs cs bs : Array Value) (ty tz tb : TypeId)
theorem sm_round_t (hR : RowEq rs cs o n) : ∀ (K j : Nat), n - j < K → j ≤ n → Good EV.P (boolR true) 3 (gH EV 3 (smC P n (smB true k) P o n q) (smM true rs cs bs ty tz tb) [(5, i64 (.o j))]) (gM EV 3 (smC P n (smB true k) P o n q) (smM true rs cs bs ty tz tb) []) := by
  intro K
  induction K with
  | zero => intro j h; omega
  | succ K ih =>
    intro j hk hj
    refine past_vc EV_ok 1000 (sm_step_t P n k P o n q rs cs bs ty tz tb j (fun i' => ∃ t : Nat, i' = t ∧ n - t < K ∧ t ≤ n)) ?_ (fun _ _ h => h)
      (fun fs m hb => smN_good (w := true) (fun i' ⟨t, e, k1, k2⟩ => by rw [e]; exact ih t k1 k2) hb)
    have hn := hR.1
    rw [Int.toNat_natCast, Nat.mul_one, Nat.zero_add]
    refine ⟨fun h => ?_, fun h => rfl⟩
    have hlt : j < n := by simpa using h
    obtain ⟨i1, i2, i3⟩ := hR.2 j hlt
    refine ⟨⟨⟨by omega, by omega⟩, trivial⟩, ⟨i1, trivial⟩, ⟨⟨by omega, by omega⟩, trivial⟩, ⟨i2, trivial⟩, fun hb => ?_, fun hb => ?_⟩
    · rw [i3] at hb
      simp at hb
    · rw [ari_add, i64_nat (show j < 9223372036854775807 by omega)]
      refine ⟨⟨j + 1, rfl, by omega, by omega⟩, ?_⟩
      repeat' first | exact trivial | exact mH0'_3 | apply And.intro | exact rfl
theorem sm_good_t (hR : RowEq rs cs o n) (hP : PickEq true k bs q) : Good Try.prog (boolR true) 3 (smC P n (smB true k) P o n q) (smM true rs cs bs ty tz tb) := by
  have hP : k ≤ bs.size ∧ AllU8 (bs.extract 0 k).toList ∧ strOf (bs.extract 0 k).toList = q := hP
  refine run_vc EV_ok 1000 (sm_start_t P n k P o n q rs cs bs ty tz tb (fun i => i = ((0 : Nat) : Int))) ?_ (fun _ _ h => h)
    (fun fs m hb => smN_good (w := true) (fun i e => by rw [e]; exact sm_round_t P n k o q rs cs bs ty tz tb hR (n + 1) 0 (by omega) (by omega)) hb)
  · skip
    refine ⟨fun _ => ⟨fun _ => ⟨⟨by omega, by rw [Nat.zero_add]; exact hP.2.1, trivial⟩, fun h => ?_, fun _ => ?_⟩, fun h => ?_⟩, fun h => ?_⟩
    · rw [Nat.zero_add, hP.2.2] at h
      simp at h
    · repeat' first | exact trivial | exact mT0'_3 | apply And.intro | exact rfl
    · simp at h
    · simp at h
theorem sm_round_f (hR : RowEq rs cs o n) : ∀ (K j : Nat), n - j < K → j ≤ n → Good EV.P (boolR true) 2 (gH EV 2 (smC P n (smB false k) P o n q) (smM false rs cs bs ty tz tb) [(5, i64 (.o j))]) (gM EV 2 (smC P n (smB false k) P o n q) (smM false rs cs bs ty tz tb) []) := by
  intro K
  induction K with
  | zero => intro j h; omega
  | succ K ih =>
    intro j hk hj
    refine past_vc EV_ok 1000 (sm_step_f P n k P o n q rs cs bs ty tz tb j (fun i' => ∃ t : Nat, i' = t ∧ n - t < K ∧ t ≤ n)) ?_ (fun _ _ h => h)
      (fun fs m hb => smN_good (w := false) (fun i' ⟨t, e, k1, k2⟩ => by rw [e]; exact ih t k1 k2) hb)
    have hn := hR.1
    rw [Int.toNat_natCast, Nat.mul_one, Nat.zero_add]
    refine ⟨fun h => ?_, fun h => rfl⟩
    have hlt : j < n := by simpa using h
    obtain ⟨i1, i2, i3⟩ := hR.2 j hlt
    refine ⟨⟨⟨by omega, by omega⟩, trivial⟩, ⟨i1, trivial⟩, ⟨⟨by omega, by omega⟩, trivial⟩, ⟨i2, trivial⟩, fun hb => ?_, fun hb => ?_⟩
    · rw [i3] at hb
      simp at hb
    · rw [ari_add, i64_nat (show j < 9223372036854775807 by omega)]
      refine ⟨⟨j + 1, rfl, by omega, by omega⟩, ?_⟩
      repeat' first | exact trivial | exact mH0'_2 | apply And.intro | exact rfl
theorem sm_good_f (hR : RowEq rs cs o n) (hP : PickEq false k bs q) : Good Try.prog (boolR true) 2 (smC P n (smB false k) P o n q) (smM false rs cs bs ty tz tb) := by
  have hP : q.size = 0 := hP
  refine run_vc EV_ok 1000 (sm_start_f P n k P o n q rs cs bs ty tz tb (fun i => i = ((0 : Nat) : Int))) ?_ (fun _ _ h => h)
    (fun fs m hb => smN_good (w := false) (fun i e => by rw [e]; exact sm_round_f P n k o q rs cs bs ty tz tb hR (n + 1) 0 (by omega) (by omega)) hb)
  · skip
    have e0 := str_empty hP
    refine ⟨fun _ => ⟨fun _ => ⟨fun h => ?_, fun _ => ?_⟩, fun h => ?_⟩, fun h => ?_⟩
    · rw [e0] at h
      exact absurd h (by decide +kernel)
    · repeat' first | exact trivial | exact mT0'_2 | apply And.intro | exact rfl
    · simp at h
    · simp at h
end
end Go.Proofs.Ytapkbgccbmjfaaa
/- Of journal: the contracts, and ScriptBack's states. No condition. -/
namespace Go.Proofs.Ytapkbgccbmjfaaa
noncomputable section
def rowV (m : SMem) (i : Nat) : Option (Bool × Array Value) := match getB m.bl i with
  | some ⟨.raw cs, _, _⟩ => some (true, cs)
  | some ⟨.pop cs, _, _⟩ => some (false, cs)
  | _ => none
def nil3S : SV := .tup [.c (.f (.lit (.string ⟨⟨[]⟩⟩))), .c (.f (.int .i64 (.l 3)))]
def encV (e : ByteArray) : SV := .tup [.c (.f (.opq (.string e))), .c (.f (.int .i64 (.l 0)))]
def scOf : SV → Option (Int × SF × SF)
  | .s (.agg (.ls [.f (.int .i64 p), .f A, .f B])) => some (p.den, A, B)
  | _ => none
def encT7 (m : SMem) : SV → Option Tree
  | .s (.agg (.ls [.f (.int .i64 (.o P)), .f (.slice i o n c), .f (.slice j (.l 0) k d)])) => match rowV m i, rowV m j with
    | some (_, cs), some (false, bs) => some (needs [StrOk cs o.den n.den, BytOk bs 0 k.den] (.br (mayS P o.den n.den k.den cs bs) (.ret (encV (encS P o.den n.den k.den cs bs)) m) (.ret nil3S m)))
    | _, _ => none
  | .s (.agg (.ls [.f (.int .i64 (.o P)), .f (.slice i o n c), .f (.lit (.slice none 0 0))])) => match rowV m i with
    | some (false, cs) => some (needs [StrOk cs o.den n.den] (.br (mayS P o.den n.den 0 cs #[]) (.ret (encV (encS P o.den n.den 0 cs #[])) m) (.ret nil3S m)))
    | _ => none
  | _ => none
def mayT10 (m : SMem) : SV → Option Tree
  | .s (.agg (.ls [.f (.int .i64 (.o P)), .f (.slice i o n c), .f (.slice j (.l 0) k d)])) => match rowV m i, rowV m j with
    | some (true, cs), some (false, bs) => some (needs [StrOk cs o.den n.den, BytOk bs 0 k.den] (.ret (sB (.o (mayS P o.den n.den k.den cs bs))) m))
    | _, _ => none
  | _ => none
def sh (n : Nat) : Nat → Nat := push (fun i => i) 0 n
def ins2 (m : SMem) (m' : SMem) : SMem := ⟨m.next + m'.next, insB (reL (sh m.next) m'.bl m'.bl.keys) m.bl, m.xs⟩
def res3 : SV := .tup [.agg (.ls [.f (.int .i64 (.l 0)), nilC, nilC]), .c (.f (.int .i64 (.l 3)))]
def decT12 (m : SMem) : SV → Option Tree
  | .s (.c (.f (.opq (.string b)))) => some (needs [b.size < 140737488355328] (.br (okD b)
      (.br (decide ((leftB b).size ≠ 0)) (.ret ((resV (byteAt b 0) (numB b) (.f (.slice 1 (.l 0) (.o (leftB b).size) .any))).re (sh m.next)) (ins2 m (resM true (rowP b (numB b)) (celA (leftB b)))))
        (.ret ((resV (byteAt b 0) (numB b) nilC).re (sh m.next)) (ins2 m (resM false (rowP b (numB b)) (celA (leftB b))))))
      (.ret res3 m)))
  | _ => none
def greatT (m : SMem) : SV → Option Tree
  | .s (.agg (.ls [.f (.int .i64 (.o _)), .f (.slice i o n c), .f (.opq (.string q))])) => match rowV m i with
    | some (true, cs) => some (needs [StrI cs o.den n.den] (.ret (sB (.o (greatV n.den q cs o.den))) m))
    | _ => none
  | .s (.agg (.ls [.f (.int .i64 (.o _)), .f .e0, .f (.opq (.string q))])) => some (.ret (sB (.o (decide (6000 < q.size)))) m)
  | _ => none
def sameT14 (m : SMem) : SV → SV → Option Tree
  | .s (.agg (.ls [.f (.int .i64 (.o P)), .f (.slice i (.l 0) n c), .f (.slice j (.l 0) k d)])), .s (.agg (.ls [.f (.int .i64 (.o P')), .f (.slice i' o' n' c'), .f (.opq (.string q))])) => match rowV m i, rowV m j, rowV m i' with
    | some (false, rs), some (false, bs), some (true, cs) => some (needs [P = P', n.den = n'.den, RowEq rs cs o'.den n.den, PickEq true k.den bs q] (.ret (sB (.l true)) m))
    | _, _, _ => none
  | .s (.agg (.ls [.f (.int .i64 (.o P)), .f (.slice i (.l 0) n c), .f (.lit (.slice none 0 0))])), .s (.agg (.ls [.f (.int .i64 (.o P')), .f (.slice i' o' n' c'), .f (.opq (.string q))])) => match rowV m i, rowV m i' with
    | some (false, rs), some (true, cs) => some (needs [P = P', n.den = n'.den, RowEq rs cs o'.den n.den, PickEq false 0 #[] q] (.ret (sB (.l true)) m))
    | _, _ => none
  | _, _ => none
end
end Go.Proofs.Ytapkbgccbmjfaaa
/- Of journal: the reference's May, Bytes and Decode: their states. No condition. -/
namespace Go.Proofs.Ytapkbgccbmjfaaa
noncomputable section
def r15T (m : SMem) : SV → Option Tree
  | .s (.c (.f (.opq (.string s)))) => some (needs [s.size ≤ 2000] (.br (decide (s.size = 0)) (.ret (nilB true) m) (.br (refOk s) (.ret (.tup [.c (.f (.slice m.next (.l 0) (.o (sizeD s)) .any)), .c (.f (.bool (.l true)))]) (m.new (.pop (rdRow s)) 72)) (.ret (nilB false) m))))
  | _ => none
def con15 (g : FuncId) (l : List SV) (m : SMem) : Option Tree := match g, l with
  | 26, [x] => r15T m x
  | _, _ => none
def E15 : Env := ⟨Try.prog, fnOf, con15, fun _ f x => (Nat.beq f 14 || Nat.beq f 27) && isLoop x⟩
def m9C (P : Int) (o n : Nat) (q : ByteArray) : List SFr := [callFr 14 Try.f14.ntmps [refV P (slC 0 o n) q] (Try.f14.body.getD .skip)]
section
variable (v : Bool) (P : Int) (o n : Nat) (q : ByteArray) (cs : Array Value) (ty : TypeId)
def m9R : Tree := gR E15 1 (m9C P o n q) (prM v cs ty)
def m9S1 (i : Int) : Tree := gS E15 1 (m9C P o n q) (prM v cs ty) [(3, i64 (.o i))] []
def m9F2 (k : Int) : List SFr := setSl [(6, i64 (.o k))] (dropSl [3, 4, 5, 34, 36, 37, 38, 39, 40, 41, 42, 43, 44, 45, 46, 47, 48, 49, 50, 51] (((m9S1 v P o n q cs ty 0).fsAt 10).map SFr.bare))
def m9M : SMem := gM E15 1 (m9C P o n q) (prM v cs ty) []
def m9S2 (k : Int) : Tree := stepT E15.go (run E15 1000) 1 (headF (m9F2 v P o n q cs ty k)) (m9M v P o n q cs ty)
def m9N (h : Bool) (Q1 Q2 : Int → Prop) (fs : List SFr) (m : SMem) : Prop := match fs with
  | f :: _ => match rdI f 6 with
    | some k => Q2 k ∧ subOk 1 [(1, 1)] ((cond h headF id) (m9F2 v P o n q cs ty k)) (m9M v P o n q cs ty) fs m
    | none => match rdI f 3 with
      | some i => Q1 i ∧ gN E15 1 (m9C P o n q) (prM v cs ty) h [(3, i64 (.o i))] [] fs m
      | none => False
  | [] => False
def m9N1 (Q1 Q2 : Int → Prop) (fs : List SFr) (m : SMem) : Prop := match fs with
  | f :: _ => match rdI f 6 with
    | some k => Q2 k ∧ subOk 1 [(1, 1)] (m9F2 v P o n q cs ty k) (m9M v P o n q cs ty) fs m
    | none => match rdI f 3 with
      | some i => Q1 i ∧ gN E15 1 (m9C P o n q) (prM v cs ty) true [(3, i64 (.o i))] [] fs m
      | none => False
  | [] => False
end
def m9T0 : List SIt := headTd (gF E15 1 (m9C 0 0 0 .empty) (prM true #[] 0) [])
def m9H0 : List SIt := headTd (gH E15 1 (m9C 0 0 0 .empty) (prM true #[] 0) [])
def m9T2 : List SIt := headTd (m9F2 true 0 0 0 .empty #[] 0 0)
def m9H2 : List SIt := headTd (headF (m9F2 true 0 0 0 .empty #[] 0 0))
def strQ (e : ByteArray) (s : SV) (_ : SMem) : Prop := match s with
  | .s (.c (.f (.opq (.string s)))) => StrIs s e
  | _ => False
section
variable (P : Int) (o n : Nat) (q : ByteArray) (cs : Array Value) (ty : TypeId)
end
end
end Go.Proofs.Ytapkbgccbmjfaaa
/- Of journal: the reference's May and Bytes: their rounds, as propositions. No condition. -/
namespace Go.Proofs.Ytapkbgccbmjfaaa
set_option maxRecDepth 100000
theorem m9_start_t (P : Int) (o n : Nat) (q : ByteArray) (cs : Array Value) (ty : TypeId) (r : Bool) (Q1 Q2 : Int → Prop) : (m9R true P o n q cs ty).vc (boolR r) (m9N true P o n q cs ty false Q1 Q2) =
    (((decide (P < (1 : Int)) == false) = true → ((decide (P > (64 : Int)) == false) = true → ((decide ((↑n : Int) < (1 : Int)) == false) = true → ((decide ((↑n : Int) > (8 : Int)) == false) = true → (decide (((((ByteArray.size q) : Nat) : Int)) > (4000 : Int)) = true → false = r) ∧ (decide (((((ByteArray.size q) : Nat) : Int)) > (4000 : Int)) = false → Q1 (0 : Int) ∧ CallKind.normal = CallKind.normal ∧ TodoOk (ren 1 [(1, 1)]) m9T0 m9T0 ∧ P = P ∧ o = o ∧ n = n ∧ Value.string q = Value.string q ∧ (0 : Int) = (0 : Int) ∧ decide (P > (64 : Int)) = decide (P > (64 : Int)) ∧ (((((ByteArray.size q) : Nat) : Int)) = (((ByteArray.size q) : Nat) : Int)) ∧ (↑n : Int) = (↑n : Int) ∧ decide ((↑n : Int) > (8 : Int)) = decide ((↑n : Int) > (8 : Int)) ∧ P = P ∧ (↑n : Int) = (↑n : Int) ∧ P = P ∧ decide ((↑n : Int) < (1 : Int)) = decide ((↑n : Int) < (1 : Int)) ∧ decide (((((ByteArray.size q) : Nat) : Int)) > (4000 : Int)) = decide (((((ByteArray.size q) : Nat) : Int)) > (4000 : Int)) ∧ o = o ∧ n = n ∧ decide ((↑n : Int) < (1 : Int)) = decide ((↑n : Int) < (1 : Int)) ∧ decide (P < (1 : Int)) = decide (P < (1 : Int)) ∧ o = o ∧ n = n ∧ decide ((↑n : Int) > (8 : Int)) = decide ((↑n : Int) > (8 : Int)) ∧ decide (P > (64 : Int)) = decide (P > (64 : Int)) ∧ Value.string q = Value.string q ∧ ty = ty ∧ cs = cs ∧ (24 : Nat) = (24 : Nat) ∧ P = P ∧ o = o ∧ n = n ∧ Value.string q = Value.string q ∧ True)) ∧ ((decide ((↑n : Int) > (8 : Int)) == false) = false → false = r)) ∧ ((decide ((↑n : Int) < (1 : Int)) == false) = false → false = r)) ∧ ((decide (P > (64 : Int)) == false) = false → false = r)) ∧ ((decide (P < (1 : Int)) == false) = false → false = r)) := by kernel_rfl
theorem m9_start_f (P : Int) (o n : Nat) (q : ByteArray) (cs : Array Value) (ty : TypeId) (r : Bool) (Q1 Q2 : Int → Prop) : (m9R false P o n q cs ty).vc (boolR r) (m9N false P o n q cs ty false Q1 Q2) =
    (((decide (P < (1 : Int)) == false) = true → ((decide (P > (64 : Int)) == false) = true → ((decide ((↑n : Int) < (1 : Int)) == false) = true → ((decide ((↑n : Int) > (8 : Int)) == false) = true → (decide (((((ByteArray.size q) : Nat) : Int)) > (4000 : Int)) = true → false = r) ∧ (decide (((((ByteArray.size q) : Nat) : Int)) > (4000 : Int)) = false → Q1 (0 : Int) ∧ CallKind.normal = CallKind.normal ∧ TodoOk (ren 1 [(1, 1)]) m9T0 m9T0 ∧ P = P ∧ o = o ∧ n = n ∧ Value.string q = Value.string q ∧ (0 : Int) = (0 : Int) ∧ decide (P > (64 : Int)) = decide (P > (64 : Int)) ∧ (((((ByteArray.size q) : Nat) : Int)) = (((ByteArray.size q) : Nat) : Int)) ∧ (↑n : Int) = (↑n : Int) ∧ decide ((↑n : Int) > (8 : Int)) = decide ((↑n : Int) > (8 : Int)) ∧ P = P ∧ (↑n : Int) = (↑n : Int) ∧ P = P ∧ decide ((↑n : Int) < (1 : Int)) = decide ((↑n : Int) < (1 : Int)) ∧ decide (((((ByteArray.size q) : Nat) : Int)) > (4000 : Int)) = decide (((((ByteArray.size q) : Nat) : Int)) > (4000 : Int)) ∧ o = o ∧ n = n ∧ decide ((↑n : Int) < (1 : Int)) = decide ((↑n : Int) < (1 : Int)) ∧ decide (P < (1 : Int)) = decide (P < (1 : Int)) ∧ o = o ∧ n = n ∧ decide ((↑n : Int) > (8 : Int)) = decide ((↑n : Int) > (8 : Int)) ∧ decide (P > (64 : Int)) = decide (P > (64 : Int)) ∧ Value.string q = Value.string q ∧ ty = ty ∧ cs = cs ∧ (24 : Nat) = (24 : Nat) ∧ P = P ∧ o = o ∧ n = n ∧ Value.string q = Value.string q ∧ True)) ∧ ((decide ((↑n : Int) > (8 : Int)) == false) = false → false = r)) ∧ ((decide ((↑n : Int) < (1 : Int)) == false) = false → false = r)) ∧ ((decide (P > (64 : Int)) == false) = false → false = r)) ∧ ((decide (P < (1 : Int)) == false) = false → false = r)) := by kernel_rfl
theorem m9_one_t (P : Int) (o n : Nat) (q : ByteArray) (cs : Array Value) (ty : TypeId) (r : Bool) (i : Int) (Q1 Q2 : Int → Prop) : (m9S1 true P o n q cs ty i).vc (boolR r) (m9N1 true P o n q cs ty Q1 Q2) =
    ((decide (i < (↑n : Int)) = true → (((0 : Int) ≤ i ∧ i < (↑n : Int)) ∧ True) ∧ (cs[o + Int.toNat i * 1]? = some (Value.string (strAt cs (o + Int.toNat i * 1))) ∧ True) ∧ (ByteArray.size (strAt cs (o + Int.toNat i * 1)) ≤ (2000 : Nat) ∧ True) ∧ (decide (ByteArray.size (strAt cs (o + Int.toNat i * 1)) = (0 : Nat)) = true → Q1 (ari BinOp.add IntKind.i64 i (1 : Int)) ∧ CallKind.normal = CallKind.normal ∧ TodoOk (ren 1 [(1, 1)]) m9H0 m9H0 ∧ P = P ∧ o = o ∧ n = n ∧ Value.string q = Value.string q ∧ ari BinOp.add IntKind.i64 i (1 : Int) = ari BinOp.add IntKind.i64 i (1 : Int) ∧ decide (P > (64 : Int)) = decide (P > (64 : Int)) ∧ (((((ByteArray.size q) : Nat) : Int)) = (((ByteArray.size q) : Nat) : Int)) ∧ (↑n : Int) = (↑n : Int) ∧ decide ((↑n : Int) > (8 : Int)) = decide ((↑n : Int) > (8 : Int)) ∧ P = P ∧ (↑n : Int) = (↑n : Int) ∧ P = P ∧ decide ((↑n : Int) < (1 : Int)) = decide ((↑n : Int) < (1 : Int)) ∧ decide (((((ByteArray.size q) : Nat) : Int)) > (4000 : Int)) = decide (((((ByteArray.size q) : Nat) : Int)) > (4000 : Int)) ∧ o = o ∧ n = n ∧ decide ((↑n : Int) < (1 : Int)) = decide ((↑n : Int) < (1 : Int)) ∧ decide (P < (1 : Int)) = decide (P < (1 : Int)) ∧ o = o ∧ n = n ∧ decide ((↑n : Int) > (8 : Int)) = decide ((↑n : Int) > (8 : Int)) ∧ decide (P > (64 : Int)) = decide (P > (64 : Int)) ∧ Value.string q = Value.string q ∧ ty = ty ∧ cs = cs ∧ (24 : Nat) = (24 : Nat) ∧ P = P ∧ o = o ∧ n = n ∧ Value.string q = Value.string q ∧ True) ∧ (decide (ByteArray.size (strAt cs (o + Int.toNat i * 1)) = (0 : Nat)) = false → (refOk (strAt cs (o + Int.toNat i * 1)) = true → Q1 (ari BinOp.add IntKind.i64 i (1 : Int)) ∧ CallKind.normal = CallKind.normal ∧ TodoOk (ren 1 [(1, 1)]) m9H0 m9H0 ∧ P = P ∧ o = o ∧ n = n ∧ Value.string q = Value.string q ∧ ari BinOp.add IntKind.i64 i (1 : Int) = ari BinOp.add IntKind.i64 i (1 : Int) ∧ decide (P > (64 : Int)) = decide (P > (64 : Int)) ∧ (((((ByteArray.size q) : Nat) : Int)) = (((ByteArray.size q) : Nat) : Int)) ∧ (↑n : Int) = (↑n : Int) ∧ decide ((↑n : Int) > (8 : Int)) = decide ((↑n : Int) > (8 : Int)) ∧ P = P ∧ (↑n : Int) = (↑n : Int) ∧ P = P ∧ decide ((↑n : Int) < (1 : Int)) = decide ((↑n : Int) < (1 : Int)) ∧ decide (((((ByteArray.size q) : Nat) : Int)) > (4000 : Int)) = decide (((((ByteArray.size q) : Nat) : Int)) > (4000 : Int)) ∧ o = o ∧ n = n ∧ decide ((↑n : Int) < (1 : Int)) = decide ((↑n : Int) < (1 : Int)) ∧ decide (P < (1 : Int)) = decide (P < (1 : Int)) ∧ o = o ∧ n = n ∧ decide ((↑n : Int) > (8 : Int)) = decide ((↑n : Int) > (8 : Int)) ∧ decide (P > (64 : Int)) = decide (P > (64 : Int)) ∧ Value.string q = Value.string q ∧ ty = ty ∧ cs = cs ∧ (24 : Nat) = (24 : Nat) ∧ P = P ∧ o = o ∧ n = n ∧ Value.string q = Value.string q ∧ True) ∧ (refOk (strAt cs (o + Int.toNat i * 1)) = false → false = r))) ∧ (decide (i < (↑n : Int)) = false → Q2 (0 : Int) ∧ CallKind.normal = CallKind.normal ∧ TodoOk (ren 1 [(1, 1)]) m9T2 m9T2 ∧ P = P ∧ o = o ∧ n = n ∧ Value.string q = Value.string q ∧ decide (P > (64 : Int)) = decide (P > (64 : Int)) ∧ (((((ByteArray.size q) : Nat) : Int)) = (((ByteArray.size q) : Nat) : Int)) ∧ (↑n : Int) = (↑n : Int) ∧ decide ((↑n : Int) > (8 : Int)) = decide ((↑n : Int) > (8 : Int)) ∧ P = P ∧ (↑n : Int) = (↑n : Int) ∧ P = P ∧ decide ((↑n : Int) < (1 : Int)) = decide ((↑n : Int) < (1 : Int)) ∧ decide (((((ByteArray.size q) : Nat) : Int)) > (4000 : Int)) = decide (((((ByteArray.size q) : Nat) : Int)) > (4000 : Int)) ∧ o = o ∧ n = n ∧ decide ((↑n : Int) < (1 : Int)) = decide ((↑n : Int) < (1 : Int)) ∧ (0 : Int) = (0 : Int) ∧ decide (P < (1 : Int)) = decide (P < (1 : Int)) ∧ o = o ∧ n = n ∧ decide ((↑n : Int) > (8 : Int)) = decide ((↑n : Int) > (8 : Int)) ∧ decide (P > (64 : Int)) = decide (P > (64 : Int)) ∧ Value.string q = Value.string q ∧ ty = ty ∧ cs = cs ∧ (24 : Nat) = (24 : Nat) ∧ P = P ∧ o = o ∧ n = n ∧ Value.string q = Value.string q ∧ True)) := by kernel_rfl
theorem m9_one_f (P : Int) (o n : Nat) (q : ByteArray) (cs : Array Value) (ty : TypeId) (r : Bool) (i : Int) (Q1 Q2 : Int → Prop) : (m9S1 false P o n q cs ty i).vc (boolR r) (m9N1 false P o n q cs ty Q1 Q2) =
    ((decide (i < (↑n : Int)) = true → (((0 : Int) ≤ i ∧ i < (↑n : Int)) ∧ True) ∧ (cs[o + Int.toNat i * 1]? = some (Value.string (strAt cs (o + Int.toNat i * 1))) ∧ True) ∧ (ByteArray.size (strAt cs (o + Int.toNat i * 1)) ≤ (2000 : Nat) ∧ True) ∧ (decide (ByteArray.size (strAt cs (o + Int.toNat i * 1)) = (0 : Nat)) = true → Q1 (ari BinOp.add IntKind.i64 i (1 : Int)) ∧ CallKind.normal = CallKind.normal ∧ TodoOk (ren 1 [(1, 1)]) m9H0 m9H0 ∧ P = P ∧ o = o ∧ n = n ∧ Value.string q = Value.string q ∧ ari BinOp.add IntKind.i64 i (1 : Int) = ari BinOp.add IntKind.i64 i (1 : Int) ∧ decide (P > (64 : Int)) = decide (P > (64 : Int)) ∧ (((((ByteArray.size q) : Nat) : Int)) = (((ByteArray.size q) : Nat) : Int)) ∧ (↑n : Int) = (↑n : Int) ∧ decide ((↑n : Int) > (8 : Int)) = decide ((↑n : Int) > (8 : Int)) ∧ P = P ∧ (↑n : Int) = (↑n : Int) ∧ P = P ∧ decide ((↑n : Int) < (1 : Int)) = decide ((↑n : Int) < (1 : Int)) ∧ decide (((((ByteArray.size q) : Nat) : Int)) > (4000 : Int)) = decide (((((ByteArray.size q) : Nat) : Int)) > (4000 : Int)) ∧ o = o ∧ n = n ∧ decide ((↑n : Int) < (1 : Int)) = decide ((↑n : Int) < (1 : Int)) ∧ decide (P < (1 : Int)) = decide (P < (1 : Int)) ∧ o = o ∧ n = n ∧ decide ((↑n : Int) > (8 : Int)) = decide ((↑n : Int) > (8 : Int)) ∧ decide (P > (64 : Int)) = decide (P > (64 : Int)) ∧ Value.string q = Value.string q ∧ ty = ty ∧ cs = cs ∧ (24 : Nat) = (24 : Nat) ∧ P = P ∧ o = o ∧ n = n ∧ Value.string q = Value.string q ∧ True) ∧ (decide (ByteArray.size (strAt cs (o + Int.toNat i * 1)) = (0 : Nat)) = false → (refOk (strAt cs (o + Int.toNat i * 1)) = true → Q1 (ari BinOp.add IntKind.i64 i (1 : Int)) ∧ CallKind.normal = CallKind.normal ∧ TodoOk (ren 1 [(1, 1)]) m9H0 m9H0 ∧ P = P ∧ o = o ∧ n = n ∧ Value.string q = Value.string q ∧ ari BinOp.add IntKind.i64 i (1 : Int) = ari BinOp.add IntKind.i64 i (1 : Int) ∧ decide (P > (64 : Int)) = decide (P > (64 : Int)) ∧ (((((ByteArray.size q) : Nat) : Int)) = (((ByteArray.size q) : Nat) : Int)) ∧ (↑n : Int) = (↑n : Int) ∧ decide ((↑n : Int) > (8 : Int)) = decide ((↑n : Int) > (8 : Int)) ∧ P = P ∧ (↑n : Int) = (↑n : Int) ∧ P = P ∧ decide ((↑n : Int) < (1 : Int)) = decide ((↑n : Int) < (1 : Int)) ∧ decide (((((ByteArray.size q) : Nat) : Int)) > (4000 : Int)) = decide (((((ByteArray.size q) : Nat) : Int)) > (4000 : Int)) ∧ o = o ∧ n = n ∧ decide ((↑n : Int) < (1 : Int)) = decide ((↑n : Int) < (1 : Int)) ∧ decide (P < (1 : Int)) = decide (P < (1 : Int)) ∧ o = o ∧ n = n ∧ decide ((↑n : Int) > (8 : Int)) = decide ((↑n : Int) > (8 : Int)) ∧ decide (P > (64 : Int)) = decide (P > (64 : Int)) ∧ Value.string q = Value.string q ∧ ty = ty ∧ cs = cs ∧ (24 : Nat) = (24 : Nat) ∧ P = P ∧ o = o ∧ n = n ∧ Value.string q = Value.string q ∧ True) ∧ (refOk (strAt cs (o + Int.toNat i * 1)) = false → false = r))) ∧ (decide (i < (↑n : Int)) = false → Q2 (0 : Int) ∧ CallKind.normal = CallKind.normal ∧ TodoOk (ren 1 [(1, 1)]) m9T2 m9T2 ∧ P = P ∧ o = o ∧ n = n ∧ Value.string q = Value.string q ∧ decide (P > (64 : Int)) = decide (P > (64 : Int)) ∧ (((((ByteArray.size q) : Nat) : Int)) = (((ByteArray.size q) : Nat) : Int)) ∧ (↑n : Int) = (↑n : Int) ∧ decide ((↑n : Int) > (8 : Int)) = decide ((↑n : Int) > (8 : Int)) ∧ P = P ∧ (↑n : Int) = (↑n : Int) ∧ P = P ∧ decide ((↑n : Int) < (1 : Int)) = decide ((↑n : Int) < (1 : Int)) ∧ decide (((((ByteArray.size q) : Nat) : Int)) > (4000 : Int)) = decide (((((ByteArray.size q) : Nat) : Int)) > (4000 : Int)) ∧ o = o ∧ n = n ∧ decide ((↑n : Int) < (1 : Int)) = decide ((↑n : Int) < (1 : Int)) ∧ (0 : Int) = (0 : Int) ∧ decide (P < (1 : Int)) = decide (P < (1 : Int)) ∧ o = o ∧ n = n ∧ decide ((↑n : Int) > (8 : Int)) = decide ((↑n : Int) > (8 : Int)) ∧ decide (P > (64 : Int)) = decide (P > (64 : Int)) ∧ Value.string q = Value.string q ∧ ty = ty ∧ cs = cs ∧ (24 : Nat) = (24 : Nat) ∧ P = P ∧ o = o ∧ n = n ∧ Value.string q = Value.string q ∧ True)) := by kernel_rfl
theorem m9_two_t (P : Int) (o n : Nat) (q : ByteArray) (cs : Array Value) (ty : TypeId) (r : Bool) (k : Int) (Q1 Q2 : Int → Prop) : (m9S2 true P o n q cs ty k).vc (boolR r) (m9N true P o n q cs ty true Q1 Q2) =
    ((decide (k < (((ByteArray.size q) : Nat) : Int)) = true → (((0 : Int) ≤ k ∧ k < (↑((ByteArray.size q)) : Int)) ∧ True) ∧ ((decide (byteAt q (Int.toNat k) > (8 : Int)) == true) = true → ((decide (byteAt q (Int.toNat k) < (16 : Int)) == false) = true → (decide (byteAt q (Int.toNat k) > (23 : Int)) = true → false = r) ∧ (decide (byteAt q (Int.toNat k) > (23 : Int)) = false → Q2 (ari BinOp.add IntKind.i64 k (1 : Int)) ∧ CallKind.normal = CallKind.normal ∧ TodoOk (ren 1 [(1, 1)]) m9H2 m9H2 ∧ P = P ∧ o = o ∧ n = n ∧ Value.string q = Value.string q ∧ decide (P > (64 : Int)) = decide (P > (64 : Int)) ∧ (((((ByteArray.size q) : Nat) : Int)) = (((ByteArray.size q) : Nat) : Int)) ∧ (↑n : Int) = (↑n : Int) ∧ decide ((↑n : Int) > (8 : Int)) = decide ((↑n : Int) > (8 : Int)) ∧ P = P ∧ (↑n : Int) = (↑n : Int) ∧ P = P ∧ decide ((↑n : Int) < (1 : Int)) = decide ((↑n : Int) < (1 : Int)) ∧ decide (((((ByteArray.size q) : Nat) : Int)) > (4000 : Int)) = decide (((((ByteArray.size q) : Nat) : Int)) > (4000 : Int)) ∧ o = o ∧ n = n ∧ decide ((↑n : Int) < (1 : Int)) = decide ((↑n : Int) < (1 : Int)) ∧ ari BinOp.add IntKind.i64 k (1 : Int) = ari BinOp.add IntKind.i64 k (1 : Int) ∧ decide (P < (1 : Int)) = decide (P < (1 : Int)) ∧ o = o ∧ n = n ∧ decide ((↑n : Int) > (8 : Int)) = decide ((↑n : Int) > (8 : Int)) ∧ decide (P > (64 : Int)) = decide (P > (64 : Int)) ∧ Value.string q = Value.string q ∧ ty = ty ∧ cs = cs ∧ (24 : Nat) = (24 : Nat) ∧ P = P ∧ o = o ∧ n = n ∧ Value.string q = Value.string q ∧ True)) ∧ ((decide (byteAt q (Int.toNat k) < (16 : Int)) == false) = false → false = r)) ∧ ((decide (byteAt q (Int.toNat k) > (8 : Int)) == true) = false → (decide (byteAt q (Int.toNat k) > (23 : Int)) = true → false = r) ∧ (decide (byteAt q (Int.toNat k) > (23 : Int)) = false → Q2 (ari BinOp.add IntKind.i64 k (1 : Int)) ∧ CallKind.normal = CallKind.normal ∧ TodoOk (ren 1 [(1, 1)]) m9H2 m9H2 ∧ P = P ∧ o = o ∧ n = n ∧ Value.string q = Value.string q ∧ decide (P > (64 : Int)) = decide (P > (64 : Int)) ∧ (((((ByteArray.size q) : Nat) : Int)) = (((ByteArray.size q) : Nat) : Int)) ∧ (↑n : Int) = (↑n : Int) ∧ decide ((↑n : Int) > (8 : Int)) = decide ((↑n : Int) > (8 : Int)) ∧ P = P ∧ (↑n : Int) = (↑n : Int) ∧ P = P ∧ decide ((↑n : Int) < (1 : Int)) = decide ((↑n : Int) < (1 : Int)) ∧ decide (((((ByteArray.size q) : Nat) : Int)) > (4000 : Int)) = decide (((((ByteArray.size q) : Nat) : Int)) > (4000 : Int)) ∧ o = o ∧ n = n ∧ decide ((↑n : Int) < (1 : Int)) = decide ((↑n : Int) < (1 : Int)) ∧ ari BinOp.add IntKind.i64 k (1 : Int) = ari BinOp.add IntKind.i64 k (1 : Int) ∧ decide (P < (1 : Int)) = decide (P < (1 : Int)) ∧ o = o ∧ n = n ∧ decide ((↑n : Int) > (8 : Int)) = decide ((↑n : Int) > (8 : Int)) ∧ decide (P > (64 : Int)) = decide (P > (64 : Int)) ∧ Value.string q = Value.string q ∧ ty = ty ∧ cs = cs ∧ (24 : Nat) = (24 : Nat) ∧ P = P ∧ o = o ∧ n = n ∧ Value.string q = Value.string q ∧ True))) ∧ (decide (k < (((ByteArray.size q) : Nat) : Int)) = false → true = r)) := by kernel_rfl
theorem m9_two_f (P : Int) (o n : Nat) (q : ByteArray) (cs : Array Value) (ty : TypeId) (r : Bool) (k : Int) (Q1 Q2 : Int → Prop) : (m9S2 false P o n q cs ty k).vc (boolR r) (m9N false P o n q cs ty true Q1 Q2) =
    ((decide (k < (((ByteArray.size q) : Nat) : Int)) = true → (((0 : Int) ≤ k ∧ k < (↑((ByteArray.size q)) : Int)) ∧ True) ∧ ((decide (byteAt q (Int.toNat k) > (8 : Int)) == true) = true → ((decide (byteAt q (Int.toNat k) < (16 : Int)) == false) = true → (decide (byteAt q (Int.toNat k) > (23 : Int)) = true → false = r) ∧ (decide (byteAt q (Int.toNat k) > (23 : Int)) = false → Q2 (ari BinOp.add IntKind.i64 k (1 : Int)) ∧ CallKind.normal = CallKind.normal ∧ TodoOk (ren 1 [(1, 1)]) m9H2 m9H2 ∧ P = P ∧ o = o ∧ n = n ∧ Value.string q = Value.string q ∧ decide (P > (64 : Int)) = decide (P > (64 : Int)) ∧ (((((ByteArray.size q) : Nat) : Int)) = (((ByteArray.size q) : Nat) : Int)) ∧ (↑n : Int) = (↑n : Int) ∧ decide ((↑n : Int) > (8 : Int)) = decide ((↑n : Int) > (8 : Int)) ∧ P = P ∧ (↑n : Int) = (↑n : Int) ∧ P = P ∧ decide ((↑n : Int) < (1 : Int)) = decide ((↑n : Int) < (1 : Int)) ∧ decide (((((ByteArray.size q) : Nat) : Int)) > (4000 : Int)) = decide (((((ByteArray.size q) : Nat) : Int)) > (4000 : Int)) ∧ o = o ∧ n = n ∧ decide ((↑n : Int) < (1 : Int)) = decide ((↑n : Int) < (1 : Int)) ∧ ari BinOp.add IntKind.i64 k (1 : Int) = ari BinOp.add IntKind.i64 k (1 : Int) ∧ decide (P < (1 : Int)) = decide (P < (1 : Int)) ∧ o = o ∧ n = n ∧ decide ((↑n : Int) > (8 : Int)) = decide ((↑n : Int) > (8 : Int)) ∧ decide (P > (64 : Int)) = decide (P > (64 : Int)) ∧ Value.string q = Value.string q ∧ ty = ty ∧ cs = cs ∧ (24 : Nat) = (24 : Nat) ∧ P = P ∧ o = o ∧ n = n ∧ Value.string q = Value.string q ∧ True)) ∧ ((decide (byteAt q (Int.toNat k) < (16 : Int)) == false) = false → false = r)) ∧ ((decide (byteAt q (Int.toNat k) > (8 : Int)) == true) = false → (decide (byteAt q (Int.toNat k) > (23 : Int)) = true → false = r) ∧ (decide (byteAt q (Int.toNat k) > (23 : Int)) = false → Q2 (ari BinOp.add IntKind.i64 k (1 : Int)) ∧ CallKind.normal = CallKind.normal ∧ TodoOk (ren 1 [(1, 1)]) m9H2 m9H2 ∧ P = P ∧ o = o ∧ n = n ∧ Value.string q = Value.string q ∧ decide (P > (64 : Int)) = decide (P > (64 : Int)) ∧ (((((ByteArray.size q) : Nat) : Int)) = (((ByteArray.size q) : Nat) : Int)) ∧ (↑n : Int) = (↑n : Int) ∧ decide ((↑n : Int) > (8 : Int)) = decide ((↑n : Int) > (8 : Int)) ∧ P = P ∧ (↑n : Int) = (↑n : Int) ∧ P = P ∧ decide ((↑n : Int) < (1 : Int)) = decide ((↑n : Int) < (1 : Int)) ∧ decide (((((ByteArray.size q) : Nat) : Int)) > (4000 : Int)) = decide (((((ByteArray.size q) : Nat) : Int)) > (4000 : Int)) ∧ o = o ∧ n = n ∧ decide ((↑n : Int) < (1 : Int)) = decide ((↑n : Int) < (1 : Int)) ∧ ari BinOp.add IntKind.i64 k (1 : Int) = ari BinOp.add IntKind.i64 k (1 : Int) ∧ decide (P < (1 : Int)) = decide (P < (1 : Int)) ∧ o = o ∧ n = n ∧ decide ((↑n : Int) > (8 : Int)) = decide ((↑n : Int) > (8 : Int)) ∧ decide (P > (64 : Int)) = decide (P > (64 : Int)) ∧ Value.string q = Value.string q ∧ ty = ty ∧ cs = cs ∧ (24 : Nat) = (24 : Nat) ∧ P = P ∧ o = o ∧ n = n ∧ Value.string q = Value.string q ∧ True))) ∧ (decide (k < (((ByteArray.size q) : Nat) : Int)) = false → true = r)) := by kernel_rfl
theorem m9_nil (P : Int) (q : ByteArray) (r : Bool) : (run EVn 1000 0 [callFr 14 Try.f14.ntmps [refV P nilC q] (Try.f14.body.getD .skip)] M0).vc (boolR r) (fun _ _ => False) =
    (((decide (P < (1 : Int)) == false) = true → ((decide (P > (64 : Int)) == false) = true → false = r) ∧ ((decide (P > (64 : Int)) == false) = false → false = r)) ∧ ((decide (P < (1 : Int)) == false) = false → false = r)) := by kernel_rfl
theorem m9_e0 (P : Int) (q : ByteArray) (r : Bool) : (run EVn 1000 0 [callFr 14 Try.f14.ntmps [refV P (.f .e0) q] (Try.f14.body.getD .skip)] M0).vc (boolR r) (fun _ _ => False) =
    (((decide (P < (1 : Int)) == false) = true → ((decide (P > (64 : Int)) == false) = true → false = r) ∧ ((decide (P > (64 : Int)) == false) = false → false = r)) ∧ ((decide (P < (1 : Int)) == false) = false → false = r)) := by kernel_rfl
end Go.Proofs.Ytapkbgccbmjfaaa
/- Of journal: May, as a proposition. No condition. -/
namespace Go.Proofs.Ytapkbgccbmjfaaa
set_option maxRecDepth 100000
end Go.Proofs.Ytapkbgccbmjfaaa
/- Of journal: its bytes, there and back. No condition. -/
namespace Go.Proofs.Ytapkbgccbmjfaaa
set_option linter.unusedSectionVars false
set_option maxRecDepth 100000
def bl (s : ByteArray) : List UInt8 := s.data.toList
theorem bl_ext {s t : ByteArray} (h : bl s = bl t) : s = t := ByteArray.ext (Array.ext' h)
theorem bl_len (s : ByteArray) : (bl s).length = s.size := by unfold bl; rw [Array.length_toList]; rfl
theorem bl_extract (b : ByteArray) (s e : Nat) : bl (b.extract s e) = ((bl b).drop s).take (e - s) := by
  unfold bl
  rw [ByteArray.data_extract, Array.toList_extract, List.extract_eq_take_drop]
theorem byteAt_bl (s : ByteArray) (i : Nat) : byteAt s i = ((bl s)[i]?.map fun b => (b.toNat : Int)).getD 0 := byteAt_list s i
theorem bl_strOf (vs : List Value) : bl (strOf vs) = vs.map byteOf := strOf_list vs
theorem byteOf_u8 (b : UInt8) : byteOf (.int .u8 (b.toNat : Int)) = b := by
  show UInt8.ofNat ((b.toNat : Int)).toNat = b
  rw [Int.toNat_natCast, UInt8.ofNat_toNat]
theorem map_celA (s : ByteArray) : (celA s).toList.map byteOf = bl s := by
  unfold celA bl
  rw [Array.toList_map, List.map_map]
  conv => rhs; rw [← List.map_id s.data.toList]
  exact List.map_congr_left fun b _ => byteOf_u8 b
theorem sz6_byte {s : ByteArray} (h : s.size ≤ 1530) : byteOf (sz6 s) = UInt8.ofNat (s.size / 6) := by
  show UInt8.ofNat (IntKind.wrap .u8 (ari .quo .i64 (s.size : Int) 6)).toNat = _
  have e : ari .quo .i64 (s.size : Int) 6 = ((s.size / 6 : Nat) : Int) := by
    rw [ari_quo, Int.tdiv_eq_ediv_of_nonneg (by omega), Go.IntWalk.i64_in _ (by omega)]
    omega
  rw [e, Go.IntWalk.u8_in _ (by omega)]
  rw [Int.toNat_natCast]
def BLs (P : Int) (n : Nat) (cs : Array Value) (o : Nat) (j : Nat) : List UInt8 := (progA P n cs o j).toList.map byteOf
theorem BLs_succ (P : Int) (n : Nat) (cs : Array Value) (o j : Nat) : BLs P n cs o (j + 1) = BLs P n cs o j ++ byteOf (sz6 (strAt cs (o + j))) :: bl (strAt cs (o + j)) := by
  unfold BLs
  show (progA P n cs o j ++ #[sz6 (strAt cs (o + j))] ++ celA (strAt cs (o + j))).toList.map byteOf = _
  rw [Array.toList_append, Array.toList_append, List.map_append, List.map_append, map_celA, List.append_assoc]
  rfl
theorem BLs_pre (P : Int) (n : Nat) (cs : Array Value) (o : Nat) {j k : Nat} (h : j ≤ k) : ∃ t, BLs P n cs o k = BLs P n cs o j ++ t := by
  induction k with
  | zero => obtain rfl : j = 0 := by omega
            exact ⟨[], (List.append_nil _).symm⟩
  | succ k ih =>
    by_cases e : j = k + 1
    · rw [e]; exact ⟨[], (List.append_nil _).symm⟩
    · obtain ⟨t, ht⟩ := ih (by omega)
      rw [BLs_succ, ht, List.append_assoc]
      exact ⟨_, rfl⟩
theorem bl_enc (P : Int) (o n k : Nat) (cs bs : Array Value) : bl (encS P o n k cs bs) = BLs P n cs o n ++ (bs.extract 0 k).toList.map byteOf := by
  unfold encS BLs
  rw [bl_strOf, Array.toList_append, List.map_append]
section
variable (b : ByteArray) (h2 : 2 ≤ b.size)
include h2
end
theorem celA_all (s : ByteArray) : (celA s).extract 0 s.size = celA s := by
  have := celA_size s
  rw [← this, Array.extract_size]
theorem encS_nil (P : Int) (o n : Nat) (cs bs : Array Value) : encS P o n 0 cs bs = encS P o n 0 cs #[] := by
  unfold encS
  rw [Array.extract_zero, Array.extract_zero]
end Go.Proofs.Ytapkbgccbmjfaaa
/- Of journal: what Encode makes, is read as that. No condition. -/
namespace Go.Proofs.Ytapkbgccbmjfaaa
set_option linter.unusedSectionVars false
set_option maxRecDepth 100000
theorem byte_nat {n : Nat} (h : n ≤ 255) : ((UInt8.ofNat n).toNat : Int) = n := by
  rw [UInt8.toNat_ofNat']
  omega
section
variable (P : Int) (o n : Nat) (q : ByteArray) (cs : Array Value) (hm : mayS P o n q.size cs (celA q) = true)
include hm
theorem may_facts : 1 ≤ P ∧ P ≤ 64 ∧ 1 ≤ n ∧ n ≤ 8 ∧ q.size ≤ 4000 ∧ anyS cs o n = false ∧ anyB (celA q) 0 q.size = false := by
  unfold mayS at hm
  rw [Bool.and_eq_true, Bool.and_eq_true, decide_eq_true_eq, Bool.not_eq_true', Bool.not_eq_true'] at hm
  obtain ⟨⟨⟨p1, p2, p3, p4, p5⟩, p6⟩, p7⟩ := hm
  exact ⟨p1, p2, p3, p4, p5, p6, p7⟩
theorem bl_x : bl (encS P o n q.size cs (celA q)) = BLs P n cs o n ++ bl q := by
  rw [bl_enc, celA_all, map_celA]
theorem x_size : (encS P o n q.size cs (celA q)).size = (BLs P n cs o n).length + q.size := by
  rw [← bl_len, bl_x P o n q cs hm, List.length_append, bl_len]
theorem BLs_len (j : Nat) : (BLs P n cs o j).length = (progA P n cs o j).size := by
  unfold BLs
  rw [List.length_map, Array.length_toList]
theorem x_two : ∃ t, bl (encS P o n q.size cs (celA q)) = byteOf (.int .u8 (IntKind.wrap .u8 P)) :: byteOf (.int .u8 (IntKind.wrap .u8 (n : Int))) :: t := by
  obtain ⟨t, ht⟩ := BLs_pre P n cs o (Nat.zero_le n)
  exact ⟨t ++ bl q, by rw [bl_x P o n q cs hm, ht]; rfl⟩
theorem x_P : byteAt (encS P o n q.size cs (celA q)) 0 = P := by
  obtain ⟨p1, p2, _⟩ := may_facts P o n q cs hm
  obtain ⟨t, ht⟩ := x_two P o n q cs hm
  rw [byteAt_bl, ht]
  show ((UInt8.ofNat (IntKind.wrap .u8 P).toNat).toNat : Int) = P
  rw [Go.IntWalk.u8_in _ (by omega), byte_nat (by omega)]
  omega
theorem x_n : numB (encS P o n q.size cs (celA q)) = n := by
  obtain ⟨_, _, p3, p4, _⟩ := may_facts P o n q cs hm
  obtain ⟨t, ht⟩ := x_two P o n q cs hm
  have e : byteAt (encS P o n q.size cs (celA q)) 1 = n := by
    rw [byteAt_bl, ht]
    show ((UInt8.ofNat (IntKind.wrap .u8 (n : Int)).toNat).toNat : Int) = n
    rw [Go.IntWalk.u8_in _ (by omega), byte_nat (by omega)]
    omega
  unfold numB
  rw [e]
  exact Int.toNat_natCast n
theorem x_at {j : Nat} (hj : j < n) : ∃ t, bl (encS P o n q.size cs (celA q)) = BLs P n cs o j ++ byteOf (sz6 (strAt cs (o + j))) :: (bl (strAt cs (o + j)) ++ t) := by
  obtain ⟨t, ht⟩ := BLs_pre P n cs o (show j + 1 ≤ n by omega)
  refine ⟨t ++ bl q, ?_⟩
  rw [bl_x P o n q cs hm, ht, BLs_succ]
  simp only [List.append_assoc, List.cons_append]
theorem fwd : ∀ j, j ≤ n → posB (encS P o n q.size cs (celA q)) j = (BLs P n cs o j).length ∧ fitsB (encS P o n q.size cs (celA q)) j = true ∧ ∀ t, t < j → prg (encS P o n q.size cs (celA q)) t = strAt cs (o + t) := by
  obtain ⟨_, _, _, p4, _, p6, _⟩ := may_facts P o n q cs hm
  intro j
  induction j with
  | zero => exact fun _ => ⟨rfl, rfl, fun t h => by omega⟩
  | succ j ih =>
    intro hj
    obtain ⟨e1, e2, e3⟩ := ih (by omega)
    obtain ⟨d1, d2⟩ := decOk_size (anyS_at.1 p6 j (by omega))
    obtain ⟨t, ht⟩ := x_at P o n q cs hm (show j < n by omega)
    have hlen := bl_len (encS P o n q.size cs (celA q))
    have hL := congrArg List.length ht
    rw [hlen] at hL
    simp only [List.length_append, List.length_cons, bl_len] at hL
    have hb : byteAt (encS P o n q.size cs (celA q)) (BLs P n cs o j).length = (((strAt cs (o + j)).size / 6 : Nat) : Int) := by
      rw [byteAt_bl, ht, List.getElem?_append_right (Nat.le_refl _), Nat.sub_self]
      show ((byteOf (sz6 (strAt cs (o + j)))).toNat : Int) = _
      rw [sz6_byte (by omega), byte_nat (by omega)]
    have hp : posB (encS P o n q.size cs (celA q)) (j + 1) = (BLs P n cs o j).length + 1 + (strAt cs (o + j)).size := by
      show posB (encS P o n q.size cs (celA q)) j + 1 + 6 * (byteAt (encS P o n q.size cs (celA q)) (posB (encS P o n q.size cs (celA q)) j)).toNat = _
      rw [e1, hb, Int.toNat_natCast]
      omega
    refine ⟨?_, ?_, fun s hs => ?_⟩
    · rw [hp, BLs_succ, List.length_append, List.length_cons, bl_len]
      omega
    · unfold fitsB
      rw [e2, Bool.true_and]
      exact decide_eq_true (by rw [e1, hp]; omega)
    · by_cases h : s < j
      · exact e3 s h
      · obtain rfl : s = j := by omega
        apply bl_ext
        unfold prg
        rw [bl_extract, hp, e1, ht]
        have h1 : (BLs P n cs o s ++ byteOf (sz6 (strAt cs (o + s))) :: (bl (strAt cs (o + s)) ++ t)).drop ((BLs P n cs o s).length + 1) = bl (strAt cs (o + s)) ++ t := by
          rw [← List.drop_drop, List.drop_left]
          rfl
        rw [h1, show (BLs P n cs o s).length + 1 + (strAt cs (o + s)).size - ((BLs P n cs o s).length + 1) = (bl (strAt cs (o + s))).length by rw [bl_len]; omega, List.take_left]
theorem x_left : leftB (encS P o n q.size cs (celA q)) = q := by
  obtain ⟨e1, _, _⟩ := fwd P o n q cs hm n (Nat.le_refl _)
  apply bl_ext
  unfold leftB
  rw [x_n P o n q cs hm, bl_extract, e1, bl_x P o n q cs hm, List.drop_left, x_size P o n q cs hm]
  exact List.take_of_length_le (by rw [bl_len]; omega)
theorem x_ok : okD (encS P o n q.size cs (celA q)) = true := by
  obtain ⟨p1, p2, p3, p4, p5, p6, p7⟩ := may_facts P o n q cs hm
  obtain ⟨e1, e2, e3⟩ := fwd P o n q cs hm n (Nat.le_refl _)
  have hs : 2 ≤ (encS P o n q.size cs (celA q)).size := by
    obtain ⟨t, ht⟩ := x_two P o n q cs hm
    have := congrArg List.length ht
    rw [bl_len] at this
    simp only [List.length_cons] at this
    omega
  unfold okD
  rw [x_n P o n q cs hm, x_left P o n q cs hm, x_P P o n q cs hm, decide_eq_true hs, e2]
  unfold mayS
  rw [decide_eq_true (p := 1 ≤ P ∧ P ≤ 64 ∧ 1 ≤ n ∧ n ≤ 8 ∧ q.size ≤ 4000) ⟨p1, p2, p3, p4, p5⟩, p7, anyS_at.2 (fun j hj => by
    rw [Nat.zero_add, (rowP_str (b := encS P o n q.size cs (celA q)) hj).1, e3 j hj]
    exact anyS_at.1 p6 j hj)]
  rfl
theorem x_row (hS : StrOk cs o n) : RowEq (rowP (encS P o n q.size cs (celA q)) n) cs o n := by
  obtain ⟨e1, e2, e3⟩ := fwd P o n q cs hm n (Nat.le_refl _)
  refine ⟨hS.1, fun j hj => ?_⟩
  obtain ⟨h1, h2⟩ := rowP_str (b := encS P o n q.size cs (celA q)) hj
  exact ⟨h2, (hS.2 j hj).1, by rw [h1, e3 j hj]⟩
end
theorem pick_eq (q : ByteArray) : PickEq true q.size (celA q) q := by
  refine ⟨by rw [celA_size]; exact Nat.le_refl _, ?_, ?_⟩
  · rw [celA_all]
    exact celA_u8 q
  · rw [celA_all]
    apply bl_ext
    rw [bl_strOf, map_celA]
end Go.Proofs.Ytapkbgccbmjfaaa
/- Of journal: the reference's May and Bytes answer as they are told. No condition. -/
namespace Go.Proofs.Ytapkbgccbmjfaaa
set_option linter.unusedSectionVars false
set_option maxRecDepth 100000
set_option linter.constructorNameAsVariable false
set_option linter.unusedSimpArgs false
theorem r15T_ok {m : SMem} {x : SV} {t : Tree} (h : r15T m x = some t) : Con E0 26 [x] m t := by
  unfold r15T at h
  split at h
  · rename_i s
    cases h
    refine Con.br (fun hz => ?_) fun hz => Con.br (fun hd => ?_) fun hd => ?_
    · have e := str_empty (of_decide_eq_true hz)
      exact Con.ro E0_ok (l := [strV s]) (l' := [.s (.c (.f (.lit (.string ⟨⟨[]⟩⟩))))]) (ms := M0) (m := m) (A := rd0A true) fnR7 bodyR7 rfl (fun i => i) (fun i b hb => by
        have hb : (Tr.nil : Tr SBlk).get i = some b := hb
        rw [Tr.get_nil] at hb; cases hb) (fun R vs ha => by
          match vs, ha with
          | [v], ha => exact ⟨by rw [← e]; exact ha.1, trivial⟩) (fun _ => run_vc E0_ok 1000 (rd_lit true) rfl (fun s m h => h) fun _ _ h => h.elim) (fun _ _ _ _ _ => nilB_yes)
    · have h0 : s.size ≠ 0 := of_decide_eq_false hz
      exact Con.freshB E0_ok fnR7 bodyR7 (by kernel_rfl) rfl fun hq => rd_yes s h0 (hq _ (by simp)) hd
    · have h0 : s.size ≠ 0 := of_decide_eq_false hz
      exact Con.ro E0_ok (l := [strV s]) (l' := [strV s]) (ms := M0) (m := m) (A := rdAn false (s.size / 6) (rdRow s)) fnR7 bodyR7 rfl (fun i => i) (fun i b hb => by
        have hb : (Tr.nil : Tr SBlk).get i = some b := hb
        rw [Tr.get_nil] at hb; cases hb) (fun R vs ha => strV_ok ha) (fun hq => hd ▸ rd_all s h0 (hq _ (by simp))) (fun _ _ _ _ _ => nilB_no)
  · cases h
theorem con15_ok (g : FuncId) (l : List SV) (m : SMem) (t : Tree) (h : con15 g l m = some t) : Con E0 g l m t := by
  unfold con15 at h
  split at h
  · exact r15T_ok h
  · cases h
theorem E15_ok : EnvOk E15 := EnvOk.with E0_ok _ _ con15_ok
theorem m9T0_ok : TodoOk (ren 1 [(1, 1)]) m9T0 m9T0 := TodoOk.same (by kernel_rfl)
theorem m9H0_ok : TodoOk (ren 1 [(1, 1)]) m9H0 m9H0 := TodoOk.same (by kernel_rfl)
theorem m9T2_ok : TodoOk (ren 1 [(1, 1)]) m9T2 m9T2 := TodoOk.same (by kernel_rfl)
theorem m9H2_ok : TodoOk (ren 1 [(1, 1)]) m9H2 m9H2 := TodoOk.same (by kernel_rfl)
def StrR (cs : Array Value) (o n : Nat) : Prop := n < 9223372036854775807 ∧ ∀ j, j < n → IsStr cs (o + j) ∧ (strAt cs (o + j)).size ≤ 2000
section
variable {v : Bool} {P : Int} {o n : Nat} {q : ByteArray} {cs : Array Value} {ty : TypeId}
theorem m9M_next : idFrom 1 (m9M v P o n q cs ty).next = [(1, 1)] := by
  cases v
  · kernel_rfl
  · kernel_rfl
theorem m9_g2 {A : SV → SMem → Prop} {h : Bool} {F : List SFr} {M : SMem} {r : List (Nat × Nat)} {fs : List SFr} {m : SMem} (he : idFrom 1 M.next = r) (hb : subOk 1 r ((cond h headF id) F) M fs m) (hg : Good E15.P A 1 (headF F) M) : Good E15.P A 1 fs m := by
  rw [← he] at hb
  cases h with
  | true => exact Good.of_sub hb hg
  | false => exact Good.of_sub hb (Good.head hg)
theorem m9N_good {A : SV → SMem → Prop} {h : Bool} {Q1 Q2 : Int → Prop} (h1 : ∀ i, Q1 i → Good E15.P A 1 (gH E15 1 (m9C P o n q) (prM v cs ty) [(3, i64 (.o i))]) (gM E15 1 (m9C P o n q) (prM v cs ty) [])) (h2 : ∀ k, Q2 k → Good E15.P A 1 (headF (m9F2 v P o n q cs ty k)) (m9M v P o n q cs ty)) {fs : List SFr} {m : SMem} (hb : m9N v P o n q cs ty h Q1 Q2 fs m) : Good E15.P A 1 fs m := by
  have he := m9M_next (v := v) (P := P) (o := o) (n := n) (q := q) (cs := cs) (ty := ty)
  unfold m9N at hb
  generalize m9F2 v P o n q cs ty = F2 at hb h2
  generalize m9M v P o n q cs ty = M at hb h2 he
  generalize m9C P o n q = c at hb h1
  generalize prM v cs ty = pm at hb h1
  split at hb
  · split at hb
    · exact m9_g2 he hb.2 (h2 _ hb.1)
    · split at hb
      · exact gN_good hb.2 (h1 _ hb.1)
      · exact hb.elim
  · exact hb.elim
theorem m9N1_good {A : SV → SMem → Prop} {Q1 Q2 : Int → Prop} (h1 : ∀ i, Q1 i → Good E15.P A 1 (gH E15 1 (m9C P o n q) (prM v cs ty) [(3, i64 (.o i))]) (gM E15 1 (m9C P o n q) (prM v cs ty) [])) (h2 : ∀ k, Q2 k → Good E15.P A 1 (headF (m9F2 v P o n q cs ty k)) (m9M v P o n q cs ty)) {fs : List SFr} {m : SMem} (hb : m9N1 v P o n q cs ty Q1 Q2 fs m) : Good E15.P A 1 fs m := by
  have he := m9M_next (v := v) (P := P) (o := o) (n := n) (q := q) (cs := cs) (ty := ty)
  unfold m9N1 at hb
  generalize m9F2 v P o n q cs ty = F2 at hb h2
  generalize m9M v P o n q cs ty = M at hb h2 he
  generalize m9C P o n q = c at hb h1
  generalize prM v cs ty = pm at hb h1
  split at hb
  · split at hb
    · exact m9_g2 (h := false) he hb.2 (h2 _ hb.1)
    · split at hb
      · exact gN_good hb.2 (h1 _ hb.1)
      · exact hb.elim
  · exact hb.elim
end
theorem celA_int (q : ByteArray) {k : Nat} (hk : k < q.size) : intAt (celA q) (0 + k) = byteAt q k := by
  have hs : k < q.data.size := hk
  have e : (celA q)[0 + k]? = some (.int .u8 (q.data[k].toNat : Int)) := by
    unfold celA
    rw [Nat.zero_add, Array.getElem?_map, Array.getElem?_eq_getElem hs]
    rfl
  rw [(intAt_is e).1, byteAt_list, Array.getElem?_toList, Array.getElem?_eq_getElem hs]
  rfl
section
variable (P : Int) (o n : Nat) (q : ByteArray) (cs : Array Value) (ty : TypeId)
theorem m9_two {v : Bool} (hq : q.size ≤ 4000) (r : Bool) (hr : r = !anyB (celA q) 0 q.size)
    (step : ∀ (r : Bool) (k : Int) (Q1 Q2 : Int → Prop), (m9S2 v P o n q cs ty k).vc (boolR r) (m9N v P o n q cs ty true Q1 Q2) = (m9S2 true P o n q cs ty k).vc (boolR r) (m9N true P o n q cs ty true Q1 Q2)) :
    ∀ (K j : Nat), q.size - j < K → j ≤ q.size → anyB (celA q) 0 j = false → Good E15.P (boolR r) 1 (headF (m9F2 v P o n q cs ty (j : Int))) (m9M v P o n q cs ty) := by
  intro K
  induction K with
  | zero => intro j h; omega
  | succ K ih =>
    intro j hk hj hd
    refine past_vc E15_ok 1000 ((step r j (fun _ => False) (fun i' => ∃ t : Nat, i' = t ∧ q.size - t < K ∧ t ≤ q.size ∧ anyB (celA q) 0 t = false)).trans (m9_two_t P o n q cs ty r j _ _)) ?_ (fun _ _ h => h)
      (fun fs m hb => m9N_good (fun _ h => h.elim) (fun i' ⟨t, e, k1, k2, k3⟩ => by rw [e]; exact ih t k1 k2 k3) hb)
    rw [Int.toNat_natCast]
    refine ⟨fun h => ?_, fun h => ?_⟩
    · have hlt : j < q.size := by have := of_decide_eq_true h; omega
      refine ⟨⟨⟨by omega, by omega⟩, trivial⟩, ?_⟩
      have hno : noP (byteAt q j) = true → false = r := fun hb => by
        cases e : anyB (celA q) 0 q.size with
        | true => rw [hr, e]; rfl
        | false =>
          have := anyB_at.1 e j hlt
          rw [celA_int q hlt, hb] at this
          cases this
      have hyes : noP (byteAt q j) = false → ∃ t : Nat, ((j + 1 : Nat) : Int) = t ∧ q.size - t < K ∧ t ≤ q.size ∧ anyB (celA q) 0 t = false := fun hb => ⟨j + 1, rfl, by omega, by omega, by unfold anyB; rw [hd, celA_int q hlt, hb]; rfl⟩
      rw [ari_add, i64_nat (show j < 9223372036854775807 by omega)]
      generalize (∃ t : Nat, ((j + 1 : Nat) : Int) = t ∧ q.size - t < K ∧ t ≤ q.size ∧ anyB (celA q) 0 t = false) = Y at hyes ⊢
      generalize (false = r) = Z at hno ⊢
      unfold noP at hyes hno
      rw [decide_eq_false_iff_not] at hyes
      rw [decide_eq_true_eq] at hno
      generalize byteAt q j = x at hyes hno ⊢
      simp only [eqJ, beq_iff_eq, beq_eq_false_iff_ne, decide_eq_true_eq, decide_eq_false_iff_not, Bool.not_eq_eq_eq_not, Bool.not_true, Bool.not_false, ne_eq]
      clear step ih hd
      repeat' first | exact trivial | exact m9H2_ok | apply And.intro | (intro hh)
      all_goals first | exact rfl | (refine hyes ?_; simp at *; omega) | (refine hno ?_; simp at *; omega) | skip
    · have hjn : j = q.size := by have := of_decide_eq_false h; omega
      rw [hr, ← hjn, hd]
      rfl
theorem m9_one {v : Bool} (hS : StrR cs o n) (hq : q.size ≤ 4000) (r : Bool) (hr : r = (!anyS cs o n && !anyB (celA q) 0 q.size))
    (step2 : ∀ (r : Bool) (k : Int) (Q1 Q2 : Int → Prop), (m9S2 v P o n q cs ty k).vc (boolR r) (m9N v P o n q cs ty true Q1 Q2) = (m9S2 true P o n q cs ty k).vc (boolR r) (m9N true P o n q cs ty true Q1 Q2))
    (step : ∀ (r : Bool) (i : Int) (Q1 Q2 : Int → Prop), (m9S1 v P o n q cs ty i).vc (boolR r) (m9N1 v P o n q cs ty Q1 Q2) = (m9S1 true P o n q cs ty i).vc (boolR r) (m9N1 true P o n q cs ty Q1 Q2)) :
    ∀ (K j : Nat), n - j < K → j ≤ n → anyS cs o j = false → Good E15.P (boolR r) 1 (gH E15 1 (m9C P o n q) (prM v cs ty) [(3, i64 (.o j))]) (gM E15 1 (m9C P o n q) (prM v cs ty) []) := by
  intro K
  induction K with
  | zero => intro j h; omega
  | succ K ih =>
    intro j hk hj hd
    refine past_vc E15_ok 1000 ((step r j (fun i' => ∃ t : Nat, i' = t ∧ n - t < K ∧ t ≤ n ∧ anyS cs o t = false) (fun k => k = ((0 : Nat) : Int) ∧ anyS cs o n = false)).trans (m9_one_t P o n q cs ty r j _ _)) ?_ (fun _ _ h => h)
      (fun fs m hb => m9N1_good (fun i' ⟨t, e, k1, k2, k3⟩ => by rw [e]; exact ih t k1 k2 k3) (fun k ⟨e, e2⟩ => by rw [e]; exact m9_two P o n q cs ty hq r (by rw [hr, e2]; rfl) step2 (q.size + 1) 0 (by omega) (by omega) rfl) hb)
    have hn := hS.1
    rw [Int.toNat_natCast, Nat.mul_one]
    refine ⟨fun h => ?_, fun h => ?_⟩
    · have hlt : j < n := by have := of_decide_eq_true h; omega
      obtain ⟨i1, i2⟩ := hS.2 j hlt
      have yes : decOk (strAt cs (o + j)) = true → ∃ t : Nat, ((j + 1 : Nat) : Int) = t ∧ n - t < K ∧ t ≤ n ∧ anyS cs o t = false := fun hb => ⟨j + 1, rfl, by omega, by omega, by unfold anyS; rw [hd, hb]; rfl⟩
      have no : decOk (strAt cs (o + j)) = false → false = r := fun hb => by
        cases e : anyS cs o n with
        | true => rw [hr, e]; rfl
        | false => have := anyS_at.1 e j hlt; rw [hb] at this; cases this
      rw [refOk_eq _ i2, ari_add, i64_nat (show j < 9223372036854775807 by omega)]
      refine ⟨⟨⟨by omega, by omega⟩, trivial⟩, ⟨i1, trivial⟩, ⟨i2, trivial⟩, fun h0 => ?_, fun _ => ⟨fun h1 => ?_, no⟩⟩
      · refine ⟨yes (by rw [str_empty (of_decide_eq_true h0)]; exact dec_empty), ?_⟩
        repeat' first | exact trivial | exact m9H0_ok | apply And.intro | exact rfl
      · refine ⟨yes h1, ?_⟩
        repeat' first | exact trivial | exact m9H0_ok | apply And.intro | exact rfl
    · have hjn : j = n := by have := of_decide_eq_false h; omega
      refine ⟨⟨rfl, by rw [← hjn]; exact hd⟩, ?_⟩
      repeat' first | exact trivial | exact m9T2_ok | apply And.intro | exact rfl
theorem m9_good (v : Bool) (hS : StrR cs o n) : Good Try.prog (boolR (mayS P o n q.size cs (celA q))) 1 (m9C P o n q) (prM v cs ty) := by
  have s2 : ∀ (r : Bool) (k : Int) (Q1 Q2 : Int → Prop), (m9S2 v P o n q cs ty k).vc (boolR r) (m9N v P o n q cs ty true Q1 Q2) = (m9S2 true P o n q cs ty k).vc (boolR r) (m9N true P o n q cs ty true Q1 Q2) := by
    intro r k Q1 Q2
    cases v with
    | true => rfl
    | false => exact (m9_two_f P o n q cs ty r k Q1 Q2).trans (m9_two_t P o n q cs ty r k Q1 Q2).symm
  have s1 : ∀ (r : Bool) (i : Int) (Q1 Q2 : Int → Prop), (m9S1 v P o n q cs ty i).vc (boolR r) (m9N1 v P o n q cs ty Q1 Q2) = (m9S1 true P o n q cs ty i).vc (boolR r) (m9N1 true P o n q cs ty Q1 Q2) := by
    intro r k Q1 Q2
    cases v with
    | true => rfl
    | false => exact (m9_one_f P o n q cs ty r k Q1 Q2).trans (m9_one_t P o n q cs ty r k Q1 Q2).symm
  have s0 : ∀ (r : Bool) (Q1 Q2 : Int → Prop), (m9R v P o n q cs ty).vc (boolR r) (m9N v P o n q cs ty false Q1 Q2) = (m9R true P o n q cs ty).vc (boolR r) (m9N true P o n q cs ty false Q1 Q2) := by
    intro r Q1 Q2
    cases v with
    | true => rfl
    | false => exact (m9_start_f P o n q cs ty r Q1 Q2).trans (m9_start_t P o n q cs ty r Q1 Q2).symm
  refine run_vc E15_ok 1000 ((s0 _ (fun i => i = ((0 : Nat) : Int) ∧ 1 ≤ P ∧ P ≤ 64 ∧ 1 ≤ n ∧ n ≤ 8 ∧ q.size ≤ 4000) (fun _ => False)).trans (m9_start_t P o n q cs ty _ _ _)) ?_ (fun _ _ h => h)
    (fun fs m hb => m9N_good (fun i ⟨e, p1, p2, p3, p4, p5⟩ => by
      rw [e]
      exact m9_one P o n q cs ty hS p5 _ (by unfold mayS; rw [decide_eq_true (p := 1 ≤ P ∧ P ≤ 64 ∧ 1 ≤ n ∧ n ≤ 8 ∧ q.size ≤ 4000) ⟨p1, p2, p3, p4, p5⟩]; rfl) s2 s1 (n + 1) 0 (by omega) (by omega) rfl) (fun _ h => h.elim) hb)
  have no : ¬ (1 ≤ P ∧ P ≤ 64 ∧ 1 ≤ n ∧ n ≤ 8 ∧ q.size ≤ 4000) → false = mayS P o n q.size cs (celA q) := fun h => by unfold mayS; rw [decide_eq_false h]; rfl
  refine ⟨fun h1 => ⟨fun h2 => ⟨fun h3 => ⟨fun h4 => ⟨fun h5 => no ?_, fun h5 => ⟨?_, ?_⟩⟩, fun h4 => no ?_⟩, fun h3 => no ?_⟩, fun h2 => no ?_⟩, fun h1 => no ?_⟩
  case refine_3 => repeat' first | exact trivial | exact m9T0_ok | apply And.intro | exact rfl
  all_goals simp at *
  all_goals omega
theorem m9_none (x : SC) (hx : x = nilC ∨ x = .f .e0) : Good Try.prog (boolR false) 0 [callFr 14 Try.f14.ntmps [refV P x q] (Try.f14.body.getD .skip)] M0 := by
  rcases hx with rfl | rfl
  · refine run_vc EVn_ok 1000 (m9_nil P q false) ?_ (fun _ _ h => h) (fun _ _ h => h.elim)
    repeat' first | exact trivial | exact rfl | apply And.intro | intro _
  · refine run_vc EVn_ok 1000 (m9_e0 P q false) ?_ (fun _ _ h => h) (fun _ _ h => h.elim)
    repeat' first | exact trivial | exact rfl | apply And.intro | intro _
end
theorem bl_append (a b : ByteArray) : bl (a ++ b) = bl a ++ bl b := by
  unfold bl
  rw [ByteArray.data_append, Array.toList_append]
section
variable (P : Int) (o n : Nat) (q : ByteArray) (cs : Array Value) (ty : TypeId)
end
end Go.Proofs.Ytapkbgccbmjfaaa
/- Of journal: the contracts hold. No condition. -/
namespace Go.Proofs.Ytapkbgccbmjfaaa
set_option linter.unusedSectionVars false
set_option maxRecDepth 100000
theorem l02 : (0 : Nat) < 2 := by decide
theorem l12 : (1 : Nat) < 2 := by decide
theorem l03 : (0 : Nat) < 3 := by decide
theorem l13 : (1 : Nat) < 3 := by decide
theorem l23 : (2 : Nat) < 3 := by decide
theorem rowV_of {m : SMem} {i : Nat} {v : Bool} {cs : Array Value} (h : rowV m i = some (v, cs)) : ∃ ty wr, getB m.bl i = some ⟨prA v cs, ty, wr⟩ := by
  unfold rowV at h
  split at h
  · rename_i e; cases h; exact ⟨_, _, e⟩
  · rename_i e; cases h; exact ⟨_, _, e⟩
  · cases h
theorem sl_pull {R : Ren} {i : Nat} {o n : SN} {c : SK} {v : Value} {ι : Nat → Nat} {k j : Nat} {o' : SN} (h : (SF.slice i o n c).ok R v) (hj : j < k) (hι : ι j = i) (ho : o'.den = o.den) : (SF.slice j o' (.o n.den) .any).ok (pull ι k R) v := by
  obtain ⟨g, cp, h1, h2, _, h4⟩ := h
  refine ⟨g, cp, ?_, ?_, trivial, h4⟩
  · unfold pull
    rw [if_pos hj, hι]
    exact h1
  · rw [ho]
    exact h2
theorem agg3 {R R' : Ren} {a b c a' b' c' : SF} {v : Value} (h : (SV.s (.agg (.ls [.f a, .f b, .f c]))).ok R v) (ha : ∀ u, a.ok R u → a'.ok R' u) (hb : ∀ u, b.ok R u → b'.ok R' u) (hc : ∀ u, c.ok R u → c'.ok R' u) : (SV.s (.agg (.ls [.f a', .f b', .f c']))).ok R' v := by
  obtain ⟨cs, rfl, hl⟩ := h
  refine ⟨cs, rfl, ?_⟩
  show All2 (SC.ok R') _ cs.toList
  have hl : All2 (SC.ok R) [.f a, .f b, .f c] cs.toList := hl
  match hcs : cs.toList, hl with
  | [x, y, z], hl => exact ⟨ha _ hl.1, hb _ hl.2.1, hc _ hl.2.2.1, trivial⟩
theorem get2 {x y : SBlk} {i : Nat} {b : SBlk} (h : getB (((Tr.nil : Tr SBlk).set 0 (some x)).set 1 (some y)) i = some b) : (i = 0 ∧ b = x) ∨ (i = 1 ∧ b = y) := by
  rw [getB_set] at h
  split at h
  · rename_i e; cases h; exact .inr ⟨e, rfl⟩
  · rw [getB_set] at h
    split at h
    · rename_i e; cases h; exact .inl ⟨e, rfl⟩
    · have h : (Tr.nil : Tr SBlk).get i = some b := h
      rw [Tr.get_nil] at h
      cases h
theorem get3 {x y z : SBlk} {i : Nat} {b : SBlk} (h : getB ((((Tr.nil : Tr SBlk).set 0 (some x)).set 1 (some y)).set 2 (some z)) i = some b) : (i = 0 ∧ b = x) ∨ (i = 1 ∧ b = y) ∨ (i = 2 ∧ b = z) := by
  rw [getB_set] at h
  split at h
  · rename_i e; cases h; exact .inr (.inr ⟨e, rfl⟩)
  · rcases get2 h with h | h
    · exact .inl h
    · exact .inr (.inl h)
theorem fn5 : E0.fn 23 = some Try.f23 := by kernel_rfl
theorem body5 : Try.f23.body = some (Try.f23.body.getD .skip) := by kernel_rfl
theorem prA_pull {v : Bool} {cs : Array Value} {ι : Nat → Nat} {k : Nat} (R : Ren) (cs' : Array Value) (h : (prA v cs).okM R cs') : (prA v cs).okM (pull ι k R) cs' := by
  cases v <;> exact h
theorem greatT_ok {m : SMem} {x : SV} {t : Tree} (h : greatT m x = some t) : Con E0 23 [x] m t := by
  unfold greatT at h
  split at h
  · rename_i P i o n c q
    split at h
    · rename_i cs hr
      cases h
      obtain ⟨ty, wr, hb⟩ := rowV_of hr
      refine Con.ro E0_ok (l' := [refV P (slC 0 o.den n.den) q]) (ms := rawM cs ty) (A := boolR (greatV n.den q cs o.den)) fn5 body5 rfl (fun _ => i) ?_ ?_ (fun hq => gr_good P o.den n.den q cs ty (hq _ (List.mem_cons_self ..))) (fun _ _ _ _ _ => boolR_con)
      · intro j b hj
        obtain ⟨rfl, rfl⟩ := prM_get hj
        exact ⟨Nat.zero_lt_one, rfl, _, hb, rfl, fun R cs' h => h⟩
      · intro R vs ha
        match vs, ha with
        | [v], ha => exact ⟨agg3 ha.1 (fun _ h => h) (fun _ h => sl_pull h Nat.zero_lt_one rfl rfl) (fun _ h => h), trivial⟩
    · cases h
  · rename_i P q
    cases h
    refine Con.ro E0_ok (l := [refV P (.f .e0) q]) (l' := [refV P (.f .e0) q]) (ms := M0) (q := []) (A := boolR (decide (6000 < q.size))) fn5 body5 rfl (fun i => i) (fun i b hb => by
      have hb : (Tr.nil : Tr SBlk).get i = some b := hb
      rw [Tr.get_nil] at hb; cases hb) (fun R vs ha => ?_) (fun _ => gr_good0 P q) (fun _ _ _ _ _ => boolR_con)
    match vs, ha with
    | [v], ha => exact ⟨agg3 ha.1 (fun _ h => h) (fun _ h => h) (fun _ h => h), trivial⟩
  · cases h
theorem fn7 : E0.fn 24 = some Try.f24 := by kernel_rfl
theorem body7 : Try.f24.body = some (Try.f24.body.getD .skip) := by kernel_rfl
theorem encA_yes {e : ByteArray} {s : SV} {m' : SMem} {R R' : Ren} {v : Value} (h : encA true e s m') (hv : s.ok R' v) : (encV e).ok R v := by
  unfold encA at h
  split at h
  · rename_i s' y
    obtain ⟨_, h1, h2⟩ := h
    have h1 : s' = e := h1
    obtain ⟨vs, rfl, hl⟩ := hv
    match hvs : vs.toList, hl with
    | [a, c], hl =>
      refine ⟨vs, rfl, ?_⟩
      rw [hvs]
      obtain ⟨ha, hc, _⟩ := hl
      have hc : c = .int .i64 y.den := hc
      rw [h2] at hc
      rw [← h1]
      exact ⟨ha, hc, trivial⟩
  · exact absurd h.1 (by decide)
  · exact h.elim
theorem encA_no {e : ByteArray} {s : SV} {m' : SMem} {R R' : Ren} {v : Value} (h : encA false e s m') (hv : s.ok R' v) : nil3S.ok R v := by
  unfold encA at h
  split at h
  · exact absurd h.1 (by decide)
  · rename_i s' y
    obtain ⟨_, h1, h2⟩ := h
    have h1 : s' = .empty := h1
    obtain ⟨vs, rfl, hl⟩ := hv
    match hvs : vs.toList, hl with
    | [a, c], hl =>
      refine ⟨vs, rfl, ?_⟩
      rw [hvs]
      obtain ⟨ha, hc, _⟩ := hl
      have hc : c = .int .i64 y.den := hc
      rw [h2] at hc
      rw [h1] at ha
      exact ⟨ha, hc, trivial⟩
  · exact h.elim
theorem fn14 : E0.fn 22 = some Try.f22 := by kernel_rfl
theorem body14 : Try.f22.body = some (Try.f22.body.getD .skip) := by kernel_rfl
theorem boolR_lit {s : SV} {m' : SMem} {R R' : Ren} {v : Value} (h : boolR true s m') (hv : s.ok R' v) : (sB (.l true)).ok R v := by
  unfold boolR at h
  split at h
  · rename_i x
    have hv : v = .bool x.den := hv
    rw [h] at hv
    exact hv
  · exact h.elim
theorem sameT14_ok {m : SMem} {x y : SV} {t : Tree} (h : sameT14 m x y = some t) : Con E0 22 [x, y] m t := by
  unfold sameT14 at h
  split at h
  · rename_i P i n c j k d P' i' o' n' c' q
    split at h
    · rename_i rs bs cs h1 h2 h3
      cases h
      obtain ⟨ty, wr, hb⟩ := rowV_of h1
      obtain ⟨tb, wr', hb'⟩ := rowV_of h2
      obtain ⟨tz, wr2, hb2⟩ := rowV_of h3
      refine Con.ro E0_ok (l' := [.s (.agg (.ls [.f (.int .i64 (.o P)), .f (.slice 0 (.l 0) (.o n.den) .any), smB true k.den])), refV P' (slC 1 o'.den n'.den) q]) (ms := smM true rs cs bs ty tz tb) (A := boolR true) fn14 body14 rfl (fun x => match x with | 0 => i | 1 => i' | _ => j) ?_ ?_ (fun hq => ?_) (fun _ _ _ _ _ => boolR_lit)
      · intro x b hx
        rcases get3 hx with ⟨rfl, rfl⟩ | ⟨rfl, rfl⟩ | ⟨rfl, rfl⟩
        · exact ⟨l03, rfl, _, hb, rfl, fun R cs' h => h⟩
        · exact ⟨l13, rfl, _, hb2, rfl, fun R cs' h => h⟩
        · exact ⟨l23, rfl, _, hb', rfl, fun R cs' h => h⟩
      · intro R vs ha
        match vs, ha with
        | [u, w], ha => exact ⟨agg3 ha.1 (fun _ h => h) (fun _ h => sl_pull h l03 rfl rfl) (fun _ h => sl_pull h l23 rfl rfl), agg3 ha.2.1 (fun _ h => h) (fun _ h => sl_pull h l13 rfl rfl) (fun _ h => h), trivial⟩
      · have e1 : P = P' := hq _ (by simp)
        have e2 : n.den = n'.den := hq _ (by simp)
        rw [← e1, ← e2]
        exact sm_good_t P n.den k.den o'.den q rs cs bs ty tz tb (hq _ (by simp)) (hq _ (by simp))
    · cases h
  · rename_i P i n c P' i' o' n' c' q
    split at h
    · rename_i rs cs h1 h3
      cases h
      obtain ⟨ty, wr, hb⟩ := rowV_of h1
      obtain ⟨tz, wr2, hb2⟩ := rowV_of h3
      refine Con.ro E0_ok (l' := [.s (.agg (.ls [.f (.int .i64 (.o P)), .f (.slice 0 (.l 0) (.o n.den) .any), smB false 0])), refV P' (slC 1 o'.den n'.den) q]) (ms := smM false rs cs #[] ty tz 0) (A := boolR true) fn14 body14 rfl (fun x => match x with | 0 => i | _ => i') ?_ ?_ (fun hq => ?_) (fun _ _ _ _ _ => boolR_lit)
      · intro x b hx
        rcases get2 hx with ⟨rfl, rfl⟩ | ⟨rfl, rfl⟩
        · exact ⟨l02, rfl, _, hb, rfl, fun R cs' h => h⟩
        · exact ⟨l12, rfl, _, hb2, rfl, fun R cs' h => h⟩
      · intro R vs ha
        match vs, ha with
        | [u, w], ha => exact ⟨agg3 ha.1 (fun _ h => h) (fun _ h => sl_pull h l02 rfl rfl) (fun _ h => h), agg3 ha.2.1 (fun _ h => h) (fun _ h => sl_pull h l12 rfl rfl) (fun _ h => h), trivial⟩
      · have e1 : P = P' := hq _ (by simp)
        have e2 : n.den = n'.den := hq _ (by simp)
        rw [← e1, ← e2]
        exact sm_good_f P n.den 0 o'.den q rs cs #[] ty tz 0 (hq _ (by simp)) (hq _ (by simp))
    · cases h
  · cases h
end Go.Proofs.Ytapkbgccbmjfaaa
/- Of journal: Decode as a contract; ScriptBack's runs end with true. No condition. -/
namespace Go.Proofs.Ytapkbgccbmjfaaa
set_option linter.unusedSectionVars false
set_option maxRecDepth 100000
theorem Con.freshG {g : FuncId} {fn : Func} {c : Code} {l : List SV} {m ms' : SMem} {q : List Prop} {s0 : SV} (h1 : E0.fn g = some fn) (h2 : fn.body = some c) (hl : allB noIds l = true)
    (good : (∀ p ∈ q, p) → Good Try.prog (fun s m' => s = s0 ∧ m' = ms') 0 [callFr g fn.ntmps l c] M0) : Con E0 g l m (needs q (.ret (s0.re (sh m.next)) (ins2 m ms'))) := by
  intro A hs
  obtain ⟨hq, hA⟩ := Tree.sat_needs hs
  refine ⟨fn, h1, by rw [h2]; rfl, fun n0 F w0 w R args ha hR => ?_⟩
  have none : ∀ {i : Nat} {b : SBlk}, getB M0.bl i = some b → False := by
    intro i b hb
    have hb : (Tr.nil : Tr SBlk).get i = some b := hb
    rw [Tr.get_nil] at hb
    cases hb
  refine (frame (ms := M0) (ms' := ms') (m := m) (ι := fun i => i) (E0_ok.fns _ _ h1).1 h2 (good hq) rfl (fun i j h => absurd h (Nat.not_lt_zero _)) (fun i h => absurd h (Nat.not_lt_zero _)) (fun i b hb => (none hb).elim) (fun i b hb => (none hb).elim) (fun i b _ h => absurd h (Nat.not_lt_zero _)) (Nat.zero_le _) (ok_anys hl ha) hR).mono ?_
  rintro v w' ⟨R', hX, hR', hv⟩
  exact ⟨_, _, R', hA, hX, hR', hv⟩
theorem fn12 : E0.fn 37 = some Try.f37 := by kernel_rfl
theorem body12 : Try.f37.body = some (Try.f37.body.getD .skip) := by kernel_rfl
theorem noIds_str (b : ByteArray) : allB noIds [strV' b] = true := rfl
theorem dA_yes {w : Bool} {P : Int} {n k : Nat} {rs bs : Array Value} {s : SV} {m' : SMem} (h : dA true w P n k rs bs s m') : ∃ π, retOk 0 π (resV P n (cond w (.f (.slice 1 (.l 0) (.o k) .any)) nilC)) (resM w rs bs) s m' := by
  unfold dA at h
  split at h
  · split at h
    · exact absurd h.1 (by decide)
    · split at h
      · obtain ⟨_, h1, h2⟩ := h
        rw [h1]
        exact ⟨_, h2⟩
      · obtain ⟨_, h1, h2⟩ := h
        rw [h1]
        exact ⟨_, h2⟩
      · exact h.elim
    · exact h.elim
  · exact h.elim
theorem dA_no {w : Bool} {P : Int} {n k : Nat} {rs bs : Array Value} {s : SV} {m' : SMem} {R R' : Ren} {v : Value} (h : dA false w P n k rs bs s m') (hv : s.ok R' v) : res3.ok R v := by
  unfold dA at h
  split at h
  · rename_i p A B y
    split at h
    · obtain ⟨_, h1, h2, h3⟩ := h
      split at h3
      · obtain ⟨vs, rfl, hl⟩ := hv
        match hvs : vs.toList, hl with
        | [a, c], hl =>
          refine ⟨vs, rfl, ?_⟩
          rw [hvs]
          obtain ⟨⟨cs, ea, hc⟩, hd, _⟩ := hl
          have hd : c = .int .i64 y.den := hd
          rw [h2] at hd
          refine ⟨⟨cs, ea, ?_⟩, hd, trivial⟩
          have hc : All2 (SC.ok R') [.f (.int .i64 p), .f (.lit (.slice none 0 0)), .f (.lit (.slice none 0 0))] cs.toList := hc
          show All2 (SC.ok R) [.f (.int .i64 (.l 0)), nilC, nilC] cs.toList
          match hcs : cs.toList, hc with
          | [x, y', z], hc =>
            have hx : x = .int .i64 p.den := hc.1
            rw [h1] at hx
            exact ⟨hx, hc.2.1, hc.2.2.1, trivial⟩
      · exact h3.elim
    · split at h
      · exact absurd h.1 (by decide)
      · exact absurd h.1 (by decide)
      · exact h.elim
    · exact h.elim
  · exact h.elim
theorem decT12_ok {m : SMem} {x : SV} {t : Tree} (h : decT12 m x = some t) : Con E0 37 [x] m t := by
  unfold decT12 at h
  split at h
  · rename_i b
    cases h
    refine Con.br (fun hd => Con.br (fun hw => ?_) fun hw => ?_) fun hd => ?_
    · refine Con.freshG fn12 body12 (noIds_str b) fun hq => Good.retX ((dec_every b (hq _ (by simp))).mono fun s m' h => ?_)
      unfold dAb at h
      rw [hd, hw] at h
      exact dA_yes h
    · refine Con.freshG fn12 body12 (noIds_str b) fun hq => Good.retX ((dec_every b (hq _ (by simp))).mono fun s m' h => ?_)
      unfold dAb at h
      rw [hd, hw] at h
      exact dA_yes h
    · refine Con.ro E0_ok (l := [strV' b]) (l' := [strV' b]) (ms := M0) (m := m) (q := _) (A := dAb b) fn12 body12 rfl (fun i => i) (fun i b hb => by
        have hb : (Tr.nil : Tr SBlk).get i = some b := hb
        rw [Tr.get_nil] at hb; cases hb) (fun R vs ha => strV_ok ha) (fun hq => dec_every b (hq _ (by simp))) (fun s m' R R' v h hv => ?_)
      unfold dAb at h
      rw [hd] at h
      exact dA_no h hv
  · cases h
theorem same_str (b : ByteArray) : ((match mkSB (false && false) (ByteArray.toList b == ByteArray.toList b) with | SB.l b => b | SB.o b => b) == true) = true := by
  show ((b.toList == b.toList) == true) = true
  simp
theorem great_facts {n o : Nat} {q : ByteArray} {cs : Array Value} (hI : StrI cs o n) (h : greatV n q cs o = false) : StrOk cs o n ∧ BytOk (celA q) 0 q.size := by
  unfold greatV at h
  rw [Bool.or_eq_false_iff, Bool.or_eq_false_iff, decide_eq_false_iff_not, decide_eq_false_iff_not] at h
  obtain ⟨⟨h1, h2⟩, h3⟩ := h
  exact ⟨⟨by omega, fun j hj => ⟨hI.2 j hj, by have := anyG_at.1 h3 j hj; omega⟩⟩, celA_ok q (by omega)⟩
end Go.Proofs.Ytapkbgccbmjfaaa
/- Of journal: the reference's Decode, and Same for rows of one's own: their states. No condition. -/
namespace Go.Proofs.Ytapkbgccbmjfaaa
noncomputable section
def m9T (m : SMem) : SV → Option Tree
  | .s (.agg (.ls [.f (.int .i64 (.o P)), .f (.slice i o n _), .f (.opq (.string q))])) => match rowV m i with
    | some (_, cs) => some (needs [StrR cs o.den n.den] (.ret (sB (.o (mayS P o.den n.den q.size cs (celA q)))) m))
    | none => none
  | .s (.agg (.ls [.f (.int .i64 (.o _)), .f .e0, .f (.opq (.string _))])) => some (.ret (sB (.l false)) m)
  | .s (.agg (.ls [.f (.int .i64 (.o _)), .f (.lit (.slice none 0 0)), .f (.opq (.string _))])) => some (.ret (sB (.l false)) m)
  | _ => none
def resR (P : Int) (n : Nat) (q : ByteArray) : SV := .tup [.agg (.ls [.f (.int .i64 (.o P)), .f (.slice 0 (.l 0) (.o n) .any), .f (.opq (.string q))]), .c (.f (.bool (.l true)))]
end
end Go.Proofs.Ytapkbgccbmjfaaa
/- Of journal: the sums: their states. No condition. -/
namespace Go.Proofs.Ytapkbgccbmjfaaa
noncomputable section
def u32S (x : SI) : SV := .s (.c (.f (.int .u32 x)))
def u64S (x : SI) : SV := .s (.c (.f (.int .u64 x)))
def intR (k : IntKind) (r : Int) (s : SV) (_ : SMem) : Prop := match s with
  | .s (.c (.f (.int k' x))) => k' = k ∧ x.den = r
  | _ => False
def Esu : Env := ⟨Try.prog, fnOf, fun _ _ _ => none, fun _ f x => (Nat.beq f 12 || Nat.beq f 13) && isLoop x⟩
def suC (b : ByteArray) : List SFr := [callFr 12 Try.f12.ntmps [strV' b] (Try.f12.body.getD .skip)]
def rsC (b : ByteArray) : List SFr := [callFr 13 Try.f13.ntmps [strV' b] (Try.f13.body.getD .skip)]
def suN (h : Bool) (b : ByteArray) (Q : Int → Int → Prop) (fs : List SFr) (m : SMem) : Prop := match fs with
  | f :: _ => match rdI f 7, rdI f 3 with
    | some i, some n => Q i n ∧ gN Esu 0 (suC b) M0 h [(7, i64 (.o i)), (3, u32S (.o n))] [] fs m
    | _, _ => False
  | [] => False
def rsN (h : Bool) (b : ByteArray) (Q : Int → Int → Prop) (fs : List SFr) (m : SMem) : Prop := match fs with
  | f :: _ => match rdI f 4, rdI f 3 with
    | some i, some n => Q i n ∧ gN Esu 0 (rsC b) M0 h [(4, i64 (.o i)), (3, u64S (.o n))] [] fs m
    | _, _ => False
  | [] => False
def suT0 : List SIt := headTd (gF Esu 0 (suC .empty) M0 [])
def suH0 : List SIt := headTd (gH Esu 0 (suC .empty) M0 [])
def rsT0 : List SIt := headTd (gF Esu 0 (rsC .empty) M0 [])
def rsH0 : List SIt := headTd (gH Esu 0 (rsC .empty) M0 [])
end
end Go.Proofs.Ytapkbgccbmjfaaa
/- Of journal: the sums' rounds, as propositions. No condition. -/
namespace Go.Proofs.Ytapkbgccbmjfaaa
set_option maxRecDepth 100000
theorem su_start (b : ByteArray) (r : Int) (Q : Int → Int → Prop) : (gR Esu 0 (suC b) M0).vc (intR .u32 r) (suN false b Q) =
    (Q (0 : Int) (2166136261 : Int) ∧ CallKind.normal = CallKind.normal ∧ TodoOk (ren 0 []) suT0 suT0 ∧ Value.string b = Value.string b ∧ (2166136261 : Int) = (2166136261 : Int) ∧ (0 : Int) = (0 : Int) ∧ Value.string b = Value.string b ∧ (((((ByteArray.size b) : Nat) : Int)) = (((ByteArray.size b) : Nat) : Int)) ∧ True) := by kernel_rfl
theorem su_step (b : ByteArray) (r i n : Int) (Q : Int → Int → Prop) : (gS Esu 0 (suC b) M0 [(7, i64 (.o i)), (3, u32S (.o n))] []).vc (intR .u32 r) (suN true b Q) =
    ((decide (i < (((ByteArray.size b) : Nat) : Int)) = true → (((0 : Int) ≤ i ∧ i < (↑((ByteArray.size b)) : Int)) ∧ True) ∧ Q (ari BinOp.add IntKind.i64 i (1 : Int)) (ari BinOp.mul IntKind.u32 (ari BinOp.xor IntKind.u32 n (IntKind.wrap IntKind.u32 (byteAt b (Int.toNat i)))) (16777619 : Int)) ∧ CallKind.normal = CallKind.normal ∧ TodoOk (ren 0 []) suH0 suH0 ∧ Value.string b = Value.string b ∧ ari BinOp.mul IntKind.u32 (ari BinOp.xor IntKind.u32 n (IntKind.wrap IntKind.u32 (byteAt b (Int.toNat i)))) (16777619 : Int) = ari BinOp.mul IntKind.u32 (ari BinOp.xor IntKind.u32 n (IntKind.wrap IntKind.u32 (byteAt b (Int.toNat i)))) (16777619 : Int) ∧ ari BinOp.add IntKind.i64 i (1 : Int) = ari BinOp.add IntKind.i64 i (1 : Int) ∧ Value.string b = Value.string b ∧ (((((ByteArray.size b) : Nat) : Int)) = (((ByteArray.size b) : Nat) : Int)) ∧ True) ∧ (decide (i < (((ByteArray.size b) : Nat) : Int)) = false → IntKind.u32 = IntKind.u32 ∧ n = r)) := by kernel_rfl
theorem rs_start (b : ByteArray) (r : Int) (Q : Int → Int → Prop) : (gR Esu 0 (rsC b) M0).vc (intR .u32 r) (rsN false b Q) =
    (Q (0 : Int) (2166136261 : Int) ∧ CallKind.normal = CallKind.normal ∧ TodoOk (ren 0 []) rsT0 rsT0 ∧ Value.string b = Value.string b ∧ (2166136261 : Int) = (2166136261 : Int) ∧ (0 : Int) = (0 : Int) ∧ True) := by kernel_rfl
theorem rs_step (b : ByteArray) (r i n : Int) (Q : Int → Int → Prop) : (gS Esu 0 (rsC b) M0 [(4, i64 (.o i)), (3, u64S (.o n))] []).vc (intR .u32 r) (rsN true b Q) =
    ((decide (i < (((ByteArray.size b) : Nat) : Int)) = true → (((0 : Int) ≤ i ∧ i < (↑((ByteArray.size b)) : Int)) ∧ True) ∧ Q (ari BinOp.add IntKind.i64 i (1 : Int)) (ari BinOp.rem IntKind.u64 (ari BinOp.mul IntKind.u64 (ari BinOp.xor IntKind.u64 n (IntKind.wrap IntKind.u64 (byteAt b (Int.toNat i)))) (16777619 : Int)) (4294967296 : Int)) ∧ CallKind.normal = CallKind.normal ∧ TodoOk (ren 0 []) rsH0 rsH0 ∧ Value.string b = Value.string b ∧ ari BinOp.rem IntKind.u64 (ari BinOp.mul IntKind.u64 (ari BinOp.xor IntKind.u64 n (IntKind.wrap IntKind.u64 (byteAt b (Int.toNat i)))) (16777619 : Int)) (4294967296 : Int) = ari BinOp.rem IntKind.u64 (ari BinOp.mul IntKind.u64 (ari BinOp.xor IntKind.u64 n (IntKind.wrap IntKind.u64 (byteAt b (Int.toNat i)))) (16777619 : Int)) (4294967296 : Int) ∧ ari BinOp.add IntKind.i64 i (1 : Int) = ari BinOp.add IntKind.i64 i (1 : Int) ∧ True) ∧ (decide (i < (((ByteArray.size b) : Nat) : Int)) = false → IntKind.u32 = IntKind.u32 ∧ IntKind.wrap IntKind.u32 n = r)) := by kernel_rfl
end Go.Proofs.Ytapkbgccbmjfaaa
/- Of journal: the reference's Decode's rounds and Same's, as propositions. No condition. -/
namespace Go.Proofs.Ytapkbgccbmjfaaa
set_option maxRecDepth 100000
end Go.Proofs.Ytapkbgccbmjfaaa
/- Of journal: the reference's Decode answers as it is told; Same of two rows of one's own. No condition. -/
namespace Go.Proofs.Ytapkbgccbmjfaaa
set_option linter.unusedSectionVars false
set_option linter.unusedVariables false
set_option maxRecDepth 100000
theorem fnU9 : E0.fn 14 = some Try.f14 := by kernel_rfl
theorem bodyU9 : Try.f14.body = some (Try.f14.body.getD .skip) := by kernel_rfl
theorem m9M0 {P : Int} {x : SC} {q : ByteArray} (hx : x = nilC ∨ x = .f .e0) (m : SMem) : Con E0 14 [refV P x q] m (.ret (sB (.l false)) m) := by
  refine Con.ro E0_ok (l := [refV P x q]) (l' := [refV P x q]) (ms := M0) (m := m) (q := []) (A := boolR false) fnU9 bodyU9 rfl (fun i => i) (fun i b hb => by
    have hb : (Tr.nil : Tr SBlk).get i = some b := hb
    rw [Tr.get_nil] at hb; cases hb) (fun R vs ha => ?_) (fun _ => m9_none P q x hx) (fun s m' R R' v h hv => ?_)
  · rcases hx with rfl | rfl
    · match vs, ha with
      | [v], ha => exact ⟨agg3 ha.1 (fun _ h => h) (fun _ h => h) (fun _ h => h), trivial⟩
    · match vs, ha with
      | [v], ha => exact ⟨agg3 ha.1 (fun _ h => h) (fun _ h => h) (fun _ h => h), trivial⟩
  · unfold boolR at h
    split at h
    · rename_i x
      have hv : v = .bool x.den := hv
      rw [h] at hv
      exact hv
    · exact h.elim
theorem m9T_ok {m : SMem} {x : SV} {t : Tree} (h : m9T m x = some t) : Con E0 14 [x] m t := by
  unfold m9T at h
  split at h
  · rename_i P i o n c q
    split at h
    · rename_i v cs hr
      cases h
      obtain ⟨ty, wr, hb⟩ := rowV_of hr
      refine Con.ro E0_ok (l' := [refV P (slC 0 o.den n.den) q]) (ms := prM v cs ty) (A := boolR (mayS P o.den n.den q.size cs (celA q))) fnU9 bodyU9 rfl (fun _ => i) ?_ ?_ (fun hq => m9_good P o.den n.den q cs ty v (hq _ (List.mem_cons_self ..))) (fun _ _ _ _ _ => boolR_con)
      · intro j b hj
        obtain ⟨rfl, rfl⟩ := prM_get hj
        exact ⟨Nat.zero_lt_one, rfl, _, hb, rfl, fun R cs' h => prA_pull R cs' h⟩
      · intro R vs ha
        match vs, ha with
        | [u], ha => exact ⟨agg3 ha.1 (fun _ h => h) (fun _ h => sl_pull h Nat.zero_lt_one rfl rfl) (fun _ h => h), trivial⟩
    · cases h
  · cases h
    exact m9M0 (.inr rfl) m
  · cases h
    exact m9M0 (.inl rfl) m
  · cases h
section
variable (b : ByteArray) (hb : b.size < 140737488355328) (h2 : 2 ≤ b.size)
include hb h2
end
section
variable (P : Int) (n k o : Nat) (q : ByteArray) (rs cs bs : Array Value) (ty tz tb : TypeId)
end
end Go.Proofs.Ytapkbgccbmjfaaa
/- Of journal: the sums answer as they are told. No condition. -/
namespace Go.Proofs.Ytapkbgccbmjfaaa
set_option linter.unusedSectionVars false
set_option maxRecDepth 100000
theorem Esu_ok : EnvOk Esu := EnvOk.with E0_ok _ _ (fun _ _ _ _ h => by cases h)
def sumN (b : ByteArray) : Nat → Nat
  | 0 => 2166136261
  | j + 1 => ((sumN b j ^^^ (byteAt b j).toNat) * 16777619) % 4294967296
theorem sumN_lt (b : ByteArray) : ∀ j, sumN b j < 4294967296
  | 0 => by unfold sumN; decide
  | j + 1 => Nat.mod_lt _ (by decide)
theorem byteAt_nat (b : ByteArray) (j : Nat) : byteAt b j = ((byteAt b j).toNat : Int) ∧ (byteAt b j).toNat < 256 := by
  have := byteAt_range b j
  omega
theorem xor_lt (b : ByteArray) (j : Nat) : sumN b j ^^^ (byteAt b j).toNat < 4294967296 :=
  Nat.xor_lt_two_pow (n := 32) (sumN_lt b j) (Nat.lt_trans (byteAt_nat b j).2 (by decide))
theorem step32 (b : ByteArray) (j : Nat) : ari .mul .u32 (ari .xor .u32 (sumN b j : Int) (IntKind.wrap .u32 (byteAt b j))) 16777619 = (sumN b (j + 1) : Int) := by
  obtain ⟨h1, h2⟩ := byteAt_nat b j
  have hx := xor_lt b j
  have e1 : IntKind.wrap .u32 (byteAt b j) = ((byteAt b j).toNat : Int) := by rw [Go.IntWalk.u32_in _ (by omega)]; exact h1
  have e2 : ari .xor .u32 (sumN b j : Int) ((byteAt b j).toNat : Int) = ((sumN b j ^^^ (byteAt b j).toNat : Nat) : Int) := u32_xor_nat _ _ (sumN_lt b j) (by omega)
  rw [e1, e2, ari_mul, sumN, IntKind.wrap_u32]
  generalize sumN b j ^^^ (byteAt b j).toNat = x at *
  omega
theorem step64 (b : ByteArray) (j : Nat) : ari .rem .u64 (ari .mul .u64 (ari .xor .u64 (sumN b j : Int) (IntKind.wrap .u64 (byteAt b j))) 16777619) 4294967296 = (sumN b (j + 1) : Int) := by
  obtain ⟨h1, h2⟩ := byteAt_nat b j
  have hx := xor_lt b j
  have hs := sumN_lt b j
  have e1 : IntKind.wrap .u64 (byteAt b j) = ((byteAt b j).toNat : Int) := by rw [Go.IntWalk.u64_in _ (by omega)]; exact h1
  have e2 : ari .xor .u64 (sumN b j : Int) ((byteAt b j).toNat : Int) = ((sumN b j ^^^ (byteAt b j).toNat : Nat) : Int) := u64_xor_nat _ _ (by omega) (by omega)
  rw [e1, e2, ari_mul, ari_rem, sumN, Go.IntWalk.u64_in _ (by omega)]
  generalize sumN b j ^^^ (byteAt b j).toNat = x at *
  rw [Int.tmod_eq_emod_of_nonneg (by omega)]
  omega
theorem suT0_ok : TodoOk (ren 0 []) suT0 suT0 := TodoOk.same (by kernel_rfl)
theorem suH0_ok : TodoOk (ren 0 []) suH0 suH0 := TodoOk.same (by kernel_rfl)
theorem rsT0_ok : TodoOk (ren 0 []) rsT0 rsT0 := TodoOk.same (by kernel_rfl)
theorem rsH0_ok : TodoOk (ren 0 []) rsH0 rsH0 := TodoOk.same (by kernel_rfl)
theorem suN_good {h : Bool} {b : ByteArray} {A : SV → SMem → Prop} {Q : Int → Int → Prop} (hg : ∀ i n, Q i n → Good Esu.P A 0 (gH Esu 0 (suC b) M0 [(7, i64 (.o i)), (3, u32S (.o n))]) (gM Esu 0 (suC b) M0 [])) {fs : List SFr} {m : SMem} (hb : suN h b Q fs m) : Good Esu.P A 0 fs m := by
  unfold suN at hb
  split at hb
  · split at hb
    · exact gN_good hb.2 (hg _ _ hb.1)
    · exact hb.elim
  · exact hb.elim
theorem rsN_good {h : Bool} {b : ByteArray} {A : SV → SMem → Prop} {Q : Int → Int → Prop} (hg : ∀ i n, Q i n → Good Esu.P A 0 (gH Esu 0 (rsC b) M0 [(4, i64 (.o i)), (3, u64S (.o n))]) (gM Esu 0 (rsC b) M0 [])) {fs : List SFr} {m : SMem} (hb : rsN h b Q fs m) : Good Esu.P A 0 fs m := by
  unfold rsN at hb
  split at hb
  · split at hb
    · exact gN_good hb.2 (hg _ _ hb.1)
    · exact hb.elim
  · exact hb.elim
section
variable (b : ByteArray) (hb : b.size < 9223372036854775807)
include hb
theorem su_round : ∀ (K j : Nat), b.size - j < K → j ≤ b.size → Good Esu.P (intR .u32 (sumN b b.size : Int)) 0 (gH Esu 0 (suC b) M0 [(7, i64 (.o j)), (3, u32S (.o (sumN b j : Int)))]) (gM Esu 0 (suC b) M0 []) := by
  intro K
  induction K with
  | zero => intro j h; omega
  | succ K ih =>
    intro j hk hj
    refine past_vc Esu_ok 1000 (su_step b _ j (sumN b j : Int) (fun i' n' => ∃ t : Nat, i' = t ∧ n' = (sumN b t : Int) ∧ b.size - t < K ∧ t ≤ b.size)) ?_ (fun _ _ h => h)
      (fun fs m hb => suN_good (fun i' n' ⟨t, e, e2, k1, k2⟩ => by rw [e, e2]; exact ih t k1 k2) hb)
    rw [Int.toNat_natCast, step32, ari_add, i64_nat (show j < 9223372036854775807 by omega)]
    refine ⟨fun h => ?_, fun h => ?_⟩
    · have hlt : j < b.size := by have := of_decide_eq_true h; omega
      refine ⟨⟨⟨by omega, by omega⟩, trivial⟩, ⟨j + 1, rfl, rfl, by omega, by omega⟩, ?_⟩
      repeat' first | exact trivial | exact suH0_ok | apply And.intro | exact rfl
    · have : j = b.size := by have := of_decide_eq_false h; omega
      exact ⟨rfl, by rw [this]⟩
theorem su_good : Good Try.prog (intR .u32 (sumN b b.size : Int)) 0 (suC b) M0 := by
  refine run_vc Esu_ok 1000 (su_start b _ (fun i n => i = ((0 : Nat) : Int) ∧ n = (sumN b 0 : Int))) ?_ (fun _ _ h => h)
    (fun fs m hb' => suN_good (fun i n ⟨e, e2⟩ => by rw [e, e2]; exact su_round b hb (b.size + 1) 0 (by omega) (by omega)) hb')
  refine ⟨⟨rfl, rfl⟩, ?_⟩
  repeat' first | exact trivial | exact suT0_ok | apply And.intro | exact rfl
theorem rs_round : ∀ (K j : Nat), b.size - j < K → j ≤ b.size → Good Esu.P (intR .u32 (sumN b b.size : Int)) 0 (gH Esu 0 (rsC b) M0 [(4, i64 (.o j)), (3, u64S (.o (sumN b j : Int)))]) (gM Esu 0 (rsC b) M0 []) := by
  intro K
  induction K with
  | zero => intro j h; omega
  | succ K ih =>
    intro j hk hj
    refine past_vc Esu_ok 1000 (rs_step b _ j (sumN b j : Int) (fun i' n' => ∃ t : Nat, i' = t ∧ n' = (sumN b t : Int) ∧ b.size - t < K ∧ t ≤ b.size)) ?_ (fun _ _ h => h)
      (fun fs m hb => rsN_good (fun i' n' ⟨t, e, e2, k1, k2⟩ => by rw [e, e2]; exact ih t k1 k2) hb)
    rw [Int.toNat_natCast, step64, ari_add, i64_nat (show j < 9223372036854775807 by omega)]
    refine ⟨fun h => ?_, fun h => ?_⟩
    · have hlt : j < b.size := by have := of_decide_eq_true h; omega
      refine ⟨⟨⟨by omega, by omega⟩, trivial⟩, ⟨j + 1, rfl, rfl, by omega, by omega⟩, ?_⟩
      repeat' first | exact trivial | exact rsH0_ok | apply And.intro | exact rfl
    · have e : j = b.size := by have := of_decide_eq_false h; omega
      refine ⟨rfl, ?_⟩
      rw [e]
      exact Go.IntWalk.u32_in _ (by have := sumN_lt b b.size; omega)
theorem rs_good : Good Try.prog (intR .u32 (sumN b b.size : Int)) 0 (rsC b) M0 := by
  refine run_vc Esu_ok 1000 (rs_start b _ (fun i n => i = ((0 : Nat) : Int) ∧ n = (sumN b 0 : Int))) ?_ (fun _ _ h => h)
    (fun fs m hb' => rsN_good (fun i n ⟨e, e2⟩ => by rw [e, e2]; exact rs_round b hb (b.size + 1) 0 (by omega) (by omega)) hb')
  refine ⟨⟨rfl, rfl⟩, ?_⟩
  repeat' first | exact trivial | exact rsT0_ok | apply And.intro | exact rfl
end
def sumT (m : SMem) : SV → Option Tree
  | .s (.c (.f (.opq (.string b)))) => some (needs [b.size < 9223372036854775807] (.ret (u32S (.o (sumN b b.size : Int))) m))
  | _ => none
theorem intR_con {k : IntKind} {r : Int} {s : SV} {m' : SMem} {R R' : Ren} {v : Value} (h : intR k r s m') (hv : s.ok R' v) : (SV.s (.c (.f (.int k (.o r))))).ok R v := by
  unfold intR at h
  split at h
  · rename_i k' x
    obtain ⟨rfl, h⟩ := h
    have hv : v = .int k' x.den := hv
    rw [hv, h]
    rfl
  · exact h.elim
theorem fn12s : E0.fn 12 = some Try.f12 := by kernel_rfl
theorem body12s : Try.f12.body = some (Try.f12.body.getD .skip) := by kernel_rfl
theorem fn13s : E0.fn 13 = some Try.f13 := by kernel_rfl
theorem body13s : Try.f13.body = some (Try.f13.body.getD .skip) := by kernel_rfl
theorem sumT_ok {m : SMem} {x : SV} {t : Tree} (h : sumT m x = some t) : Con E0 12 [x] m t ∧ Con E0 13 [x] m t := by
  unfold sumT at h
  split at h
  · rename_i b
    cases h
    refine ⟨?_, ?_⟩
    · exact Con.ro E0_ok (l := [strV' b]) (l' := [strV' b]) (ms := M0) (m := m) (q := _) (A := intR .u32 (sumN b b.size : Int)) fn12s body12s rfl (fun i => i) (fun i b hb => by
        have hb : (Tr.nil : Tr SBlk).get i = some b := hb
        rw [Tr.get_nil] at hb; cases hb) (fun R vs ha => strV_ok ha) (fun hq => su_good b (hq _ (by simp))) (fun _ _ _ _ _ => intR_con)
    · exact Con.ro E0_ok (l := [strV' b]) (l' := [strV' b]) (ms := M0) (m := m) (q := _) (A := intR .u32 (sumN b b.size : Int)) fn13s body13s rfl (fun i => i) (fun i b hb => by
        have hb : (Tr.nil : Tr SBlk).get i = some b := hb
        rw [Tr.get_nil] at hb; cases hb) (fun R vs ha => strV_ok ha) (fun hq => rs_good b (hq _ (by simp))) (fun _ _ _ _ _ => intR_con)
  · cases h
end Go.Proofs.Ytapkbgccbmjfaaa
/- Of journal: bytes and behind them their sum: states. No condition. -/
namespace Go.Proofs.Ytapkbgccbmjfaaa
noncomputable section
def fourB (k : Int) : ByteArray := strOf [.int .u8 (IntKind.wrap .u8 k), .int .u8 (IntKind.wrap .u8 (ari .shr .u32 k 8)), .int .u8 (IntKind.wrap .u8 (ari .shr .u32 k 16)), .int .u8 (IntKind.wrap .u8 (ari .shr .u32 k 24))]
def smA (a b : ByteArray) : ByteArray := b ++ fourB (sumN (a ++ b) (a ++ b).size : Int)
def strX : SV → Option ByteArray
  | .s (.c (.f (.opq (.string s)))) => some s
  | .s (.c (.f (.lit (.string s)))) => some s
  | _ => none
def conU (g : FuncId) (l : List SV) (m : SMem) : Option Tree := match g, l with
  | 12, [x] => sumT m x
  | 13, [x] => sumT m x
  | _, _ => none
def EU : Env := ⟨Try.prog, fnOf, conU, fun _ _ _ => false⟩
def smC' (a b : ByteArray) : List SFr := [callFr 25 Try.f25.ntmps [strV' a, strV' b] (Try.f25.body.getD .skip)]
def smT (m : SMem) (x y : SV) : Option Tree := match strX x, strX y with
  | some a, some b => some (needs [a.size + b.size ≤ 1000000] (.ret (strV' (smA a b)) m))
  | _, _ => none
end
end Go.Proofs.Ytapkbgccbmjfaaa
/- Of journal: bytes with their sum, as propositions. No condition. -/
namespace Go.Proofs.Ytapkbgccbmjfaaa
set_option maxRecDepth 100000
theorem sm_run (a b e : ByteArray) : (run EU 1000 0 (smC' a b) M0).vc (strQ e) (fun _ _ => False) =
    (((↑(ByteArray.size a + ByteArray.size b) : Int) ≤ (9223372036854775807 : Int) ∧ True) ∧ (ByteArray.size (a ++ b) < (9223372036854775807 : Nat) ∧ True) ∧ ((↑(ByteArray.size b + ByteArray.size (strOf [Value.int IntKind.u8 (IntKind.wrap IntKind.u8 (↑(sumN (a ++ b) (ByteArray.size (a ++ b))) : Int)), Value.int IntKind.u8 (IntKind.wrap IntKind.u8 (ari BinOp.shr IntKind.u32 (↑(sumN (a ++ b) (ByteArray.size (a ++ b))) : Int) (8 : Int))), Value.int IntKind.u8 (IntKind.wrap IntKind.u8 (ari BinOp.shr IntKind.u32 (↑(sumN (a ++ b) (ByteArray.size (a ++ b))) : Int) (16 : Int))), Value.int IntKind.u8 (IntKind.wrap IntKind.u8 (ari BinOp.shr IntKind.u32 (↑(sumN (a ++ b) (ByteArray.size (a ++ b))) : Int) (24 : Int)))])) : Int) ≤ (9223372036854775807 : Int) ∧ True) ∧ b ++ strOf [Value.int IntKind.u8 (IntKind.wrap IntKind.u8 (↑(sumN (a ++ b) (ByteArray.size (a ++ b))) : Int)), Value.int IntKind.u8 (IntKind.wrap IntKind.u8 (ari BinOp.shr IntKind.u32 (↑(sumN (a ++ b) (ByteArray.size (a ++ b))) : Int) (8 : Int))), Value.int IntKind.u8 (IntKind.wrap IntKind.u8 (ari BinOp.shr IntKind.u32 (↑(sumN (a ++ b) (ByteArray.size (a ++ b))) : Int) (16 : Int))), Value.int IntKind.u8 (IntKind.wrap IntKind.u8 (ari BinOp.shr IntKind.u32 (↑(sumN (a ++ b) (ByteArray.size (a ++ b))) : Int) (24 : Int)))] = e) := by kernel_rfl
end Go.Proofs.Ytapkbgccbmjfaaa
/- Of journal: contracts of sums, and of scripts without picks; JournalBegins' states. No condition. -/
namespace Go.Proofs.Ytapkbgccbmjfaaa
set_option linter.unusedSectionVars false
set_option maxRecDepth 100000
theorem strX_ok {x : SV} {a : ByteArray} (h : strX x = some a) {R R' : Ren} {v : Value} (hv : x.ok R v) : (strV' a).ok R' v := by
  unfold strX at h
  split at h
  · cases h; exact ⟨hv.1, hv.2⟩
  · cases h; exact ⟨hv.1, rfl⟩
  · cases h
theorem strQ_con {e : ByteArray} {s : SV} {m' : SMem} {R R' : Ren} {v : Value} (h : strQ e s m') (hv : s.ok R' v) : (strV' e).ok R v := by
  unfold strQ at h
  split at h
  · rename_i s'
    have h : s' = e := h
    rw [← h]
    exact ⟨hv.1, hv.2⟩
  · exact h.elim
theorem no_blocks {P : Nat → SBlk → Prop} : ∀ i b, getB M0.bl i = some b → P i b := fun i b hb => by
  have hb : (Tr.nil : Tr SBlk).get i = some b := hb
  rw [Tr.get_nil] at hb; cases hb
theorem conU_ok (g : FuncId) (l : List SV) (m : SMem) (t : Tree) (h : conU g l m = some t) : Con E0 g l m t := by
  unfold conU at h
  split at h
  · exact (sumT_ok h).1
  · exact (sumT_ok h).2
  · cases h
theorem EU_ok : EnvOk EU := EnvOk.with E0_ok _ _ conU_ok
theorem fn25s : E0.fn 25 = some Try.f25 := by kernel_rfl
theorem body25s : Try.f25.body = some (Try.f25.body.getD .skip) := by kernel_rfl
theorem fourB_size (k : Int) : (fourB k).size = 4 := strOf_size _
theorem sm_good (a b : ByteArray) (h : a.size + b.size ≤ 1000000) : Good Try.prog (strQ (smA a b)) 0 (smC' a b) M0 := by
  refine run_vc EU_ok 1000 (sm_run a b _) ?_ (fun _ _ h => h) (fun _ _ h => h.elim)
  have h4 : ∀ x y z w, (strOf [Value.int .u8 x, Value.int .u8 y, Value.int .u8 z, Value.int .u8 w]).size = 4 := fun _ _ _ _ => strOf_size _
  rw [h4, ByteArray.size_append]
  exact ⟨⟨by omega, trivial⟩, ⟨by omega, trivial⟩, ⟨by omega, trivial⟩, by unfold smA fourB; rw [ByteArray.size_append]⟩
theorem smT_ok {m : SMem} {x y : SV} {t : Tree} (h : smT m x y = some t) : Con E0 25 [x, y] m t := by
  unfold smT at h
  split at h
  · rename_i a b ha hb
    cases h
    refine Con.ro E0_ok (l' := [strV' a, strV' b]) (ms := M0) (A := strQ (smA a b)) fn25s body25s rfl (fun i => i) no_blocks (fun R vs hv => ?_) (fun hq => sm_good a b (hq _ (by simp))) (fun _ _ _ _ _ => strQ_con)
    match vs, hv with
    | [u, w], hv => exact ⟨strX_ok ha hv.1, strX_ok hb hv.2.1, trivial⟩
  · cases h
section
noncomputable section
def encN (m : SMem) : SV → Option Tree
  | .s (.agg (.ls [.f (.int .i64 (.o P)), .f (.slice i o n _), .f (.lit (.slice none 0 0))])) => match rowV m i with
    | some (_, cs) => some (needs [StrOk cs o.den n.den] (.br (mayS P o.den n.den 0 cs #[]) (.ret (encV (encS P o.den n.den 0 cs #[])) m) (.ret nil3S m)))
    | none => none
  | _ => none
end
end
end Go.Proofs.Ytapkbgccbmjfaaa
/- Of journal: JournalBegins' runs, as propositions. No condition. -/
namespace Go.Proofs.Ytapkbgccbmjfaaa
set_option maxRecDepth 100000
end Go.Proofs.Ytapkbgccbmjfaaa
/- Of journal: the known journal. No condition. -/
namespace Go.Proofs.Ytapkbgccbmjfaaa
set_option maxRecDepth 100000
theorem wakes_vc (r : Bool) : (run E0 1000000 0 [callFr 9 Try.f9.ntmps [] (Try.f9.body.getD .skip)] ⟨0, .nil, []⟩).vc (boolR r) (fun _ _ => False) =
    (((6 : Int) ≤ (9223372036854775807 : Int) ∧ True) ∧ ((9 : Int) ≤ (9223372036854775807 : Int) ∧ True) ∧ ((9 : Int) ≤ (9223372036854775807 : Int) ∧ True) ∧ ((13 : Int) ≤ (9223372036854775807 : Int) ∧ True) ∧ ((9 : Int) ≤ (9223372036854775807 : Int) ∧ True) ∧ ((13 : Int) ≤ (9223372036854775807 : Int) ∧ True) ∧ ((3 : Int) ≤ (9223372036854775807 : Int) ∧ True) ∧ ((7 : Int) ≤ (9223372036854775807 : Int) ∧ True) ∧ ((7 : Int) ≤ (9223372036854775807 : Int) ∧ True) ∧ ((20 : Int) ≤ (9223372036854775807 : Int) ∧ True) ∧ ((9 : Int) ≤ (9223372036854775807 : Int) ∧ True) ∧ ((13 : Int) ≤ (9223372036854775807 : Int) ∧ True) ∧ ((7 : Int) ≤ (9223372036854775807 : Int) ∧ True) ∧ ((7 : Int) ≤ (9223372036854775807 : Int) ∧ True) ∧ ((21 : Int) ≤ (9223372036854775807 : Int) ∧ True) ∧ ((9 : Int) ≤ (9223372036854775807 : Int) ∧ True) ∧ ((13 : Int) ≤ (9223372036854775807 : Int) ∧ True) ∧ ((7 : Int) ≤ (9223372036854775807 : Int) ∧ True) ∧ ((7 : Int) ≤ (9223372036854775807 : Int) ∧ True) ∧ ((21 : Int) ≤ (9223372036854775807 : Int) ∧ True) ∧ ((9 : Int) ≤ (9223372036854775807 : Int) ∧ True) ∧ ((13 : Int) ≤ (9223372036854775807 : Int) ∧ True) ∧ ((7 : Int) ≤ (9223372036854775807 : Int) ∧ True) ∧ ((7 : Int) ≤ (9223372036854775807 : Int) ∧ True) ∧ ((2166136261 : Int) == (2166136261 : Int)) = r) := by kernel_rfl
end Go.Proofs.Ytapkbgccbmjfaaa
/- Of journal: Encode of a script that came in, without picks: its states. No condition. -/
namespace Go.Proofs.Ytapkbgccbmjfaaa
noncomputable section
def rdM3 (_v : Bool) (cs bs : Array Value) (ty ty' : TypeId) : SMem := ⟨2, ((Tr.nil : Tr SBlk).set 0 (some ⟨.raw cs, ty, false⟩)).set 1 (some ⟨.raw bs, ty', false⟩), []⟩
section
variable (v w : Bool) (P : Int) (o n k' : Nat) (cs bs : Array Value) (ty ty' : TypeId)
def xR : Tree := gR EV 2 (encC P (slC 0 o n) (pkC w k')) (rdM3 v cs bs ty ty')
def xF0 : List SFr := (xR v w P o n k' cs bs ty ty').fsE.map SFr.bare
def xM0 : SMem := (xR v w P o n k' cs bs ty ty').memE.bare
def xF1 (i : Int) (k : Nat) : List SFr := setSl [(21, i64 (.o i)), (4, .s (.c (.f (.slice 4 (.l 0) (.o k) (.full 1)))))] (dropSl [17] (xF0 v w P o n k' cs bs ty ty'))
def xM1 (vs : Array Value) : SMem := putAll [(4, .pop vs)] (xM0 v w P o n k' cs bs ty ty')
def xS0 : Tree := stepT EV.go (run EV 1000) 2 (headF (xF0 v w P o n k' cs bs ty ty')) (xM0 v w P o n k' cs bs ty ty')
def xS1 (i : Int) (k : Nat) (vs : Array Value) : Tree := stepT EV.go (run EV 1000) 2 (headF (xF1 v w P o n k' cs bs ty ty' i k)) (xM1 v w P o n k' cs bs ty ty' vs)
def xN0 (fs : List SFr) (m : SMem) : Prop := subOk 2 (idFrom 2 (xM0 v w P o n k' cs bs ty ty').next) (xF0 v w P o n k' cs bs ty ty') (xM0 v w P o n k' cs bs ty ty') fs m
def xN1 (Q : Int → Nat → Array Value → Prop) (fs : List SFr) (m : SMem) : Prop := match fs with
  | f :: _ => match rdI f 21, rdS f 4 m with
    | some i, some (some (sid, k, vs)) => Q i k vs ∧ subOk 2 [(2, 2), (3, 3), (4, sid)] (headF (xF1 v w P o n k' cs bs ty ty' i k)) (xM1 v w P o n k' cs bs ty ty' vs) fs m
    | _, _ => False
  | [] => False
end
def xT0 : List SIt := headTd (xF0 true false 0 0 0 0 #[] #[] 0 0)
def xH0 : List SIt := headTd (headF (xF0 true false 0 0 0 0 #[] #[] 0 0))
end
end Go.Proofs.Ytapkbgccbmjfaaa
/- Of journal: that Encode's rounds, as propositions. No condition. -/
namespace Go.Proofs.Ytapkbgccbmjfaaa
set_option maxRecDepth 100000
theorem xn_start (P : Int) (o n k' : Nat) (cs bs : Array Value) (ty ty' : TypeId) (ok : Bool) (e : ByteArray) : (xR true false P o n k' cs bs ty ty').vc (encA ok e) (xN0 true false P o n k' cs bs ty ty') =
    (((decide (P < (1 : Int)) == false) = true → ((decide (P > (64 : Int)) == false) = true → ((decide ((↑n : Int) < (1 : Int)) == false) = true → ((decide ((↑n : Int) > (8 : Int)) == false) = true → (rowOk true cs o n ∧ True) ∧ (((!anyV true cs o n) == true) = true → CallKind.normal = CallKind.normal ∧ TodoOk (ren 2 [(2, 2), (3, 3), (4, 4)]) xT0 xT0 ∧ P = P ∧ o = o ∧ n = n ∧ Value.slice none (0 : Nat) (0 : Nat) = Value.slice none (0 : Nat) (0 : Nat) ∧ P = P ∧ o = o ∧ n = n ∧ Value.slice none (0 : Nat) (0 : Nat) = Value.slice none (0 : Nat) (0 : Nat) ∧ (↑n : Int) = (↑n : Int) ∧ P = P ∧ o = o ∧ n = n ∧ Value.string (ByteArray.mk #[]) = Value.string (ByteArray.mk #[]) ∧ IntKind.wrap IntKind.u8 (↑n : Int) = IntKind.wrap IntKind.u8 (↑n : Int) ∧ IntKind.wrap IntKind.u8 P = IntKind.wrap IntKind.u8 P ∧ (↑n : Int) = (↑n : Int) ∧ o = o ∧ n = n ∧ ty = ty ∧ cs = cs ∧ ty' = ty' ∧ bs = bs ∧ (32 : Nat) = (32 : Nat) ∧ P = P ∧ o = o ∧ n = n ∧ Value.slice none (0 : Nat) (0 : Nat) = Value.slice none (0 : Nat) (0 : Nat) ∧ (32 : Nat) = (32 : Nat) ∧ P = P ∧ o = o ∧ n = n ∧ Value.slice none (0 : Nat) (0 : Nat) = Value.slice none (0 : Nat) (0 : Nat) ∧ (5 : Nat) = (5 : Nat) ∧ IntKind.wrap IntKind.u8 P = IntKind.wrap IntKind.u8 P ∧ IntKind.wrap IntKind.u8 (↑n : Int) = IntKind.wrap IntKind.u8 (↑n : Int) ∧ True) ∧ (((!anyV true cs o n) == true) = false → ok = false ∧ StrIs (ByteArray.mk #[]) ByteArray.empty ∧ (3 : Int) = (3 : Int))) ∧ ((decide ((↑n : Int) > (8 : Int)) == false) = false → ok = false ∧ StrIs (ByteArray.mk #[]) ByteArray.empty ∧ (3 : Int) = (3 : Int))) ∧ ((decide ((↑n : Int) < (1 : Int)) == false) = false → ok = false ∧ StrIs (ByteArray.mk #[]) ByteArray.empty ∧ (3 : Int) = (3 : Int))) ∧ ((decide (P > (64 : Int)) == false) = false → ok = false ∧ StrIs (ByteArray.mk #[]) ByteArray.empty ∧ (3 : Int) = (3 : Int))) ∧ ((decide (P < (1 : Int)) == false) = false → ok = false ∧ StrIs (ByteArray.mk #[]) ByteArray.empty ∧ (3 : Int) = (3 : Int))) := by kernel_rfl
theorem xn_first (P : Int) (o n k' : Nat) (cs bs : Array Value) (ty ty' : TypeId) (ok : Bool) (e : ByteArray) (Q : Int → Nat → Array Value → Prop) : (xS0 true false P o n k' cs bs ty ty').vc (encA ok e) (xN1 true false P o n k' cs bs ty ty' Q) =
    ((decide ((0 : Int) < (↑n : Int)) = true → (((0 : Int) ≤ (0 : Int) ∧ (0 : Int) < (↑n : Int)) ∧ True) ∧ (cs[o]? = some (Value.string (strAt cs o)) ∧ True) ∧ ((((3 : Nat) + ByteArray.size (strAt cs o)) * 1 ≤ (140737488355328 : Nat) ∧ (3 : Nat) + ByteArray.size (strAt cs o) ≤ (140737488355328 : Nat)) ∧ True) ∧ Q (1 : Int) ((3 : Nat) + ByteArray.size (strAt cs o)) (#[Value.int IntKind.u8 (IntKind.wrap IntKind.u8 P), Value.int IntKind.u8 (IntKind.wrap IntKind.u8 (↑n : Int)), Value.int IntKind.u8 (IntKind.wrap IntKind.u8 (ari BinOp.quo IntKind.i64 ((((ByteArray.size (strAt cs o)) : Nat) : Int)) (6 : Int)))] ++ Array.map (fun b => Value.int IntKind.u8 (↑(UInt8.toNat b) : Int)) (ByteArray.data (strAt cs o))) ∧ CallKind.normal = CallKind.normal ∧ TodoOk (ren 2 [(2, 2), (3, 3), (4, 7)]) xH0 xH0 ∧ P = P ∧ o = o ∧ n = n ∧ Value.slice none (0 : Nat) (0 : Nat) = Value.slice none (0 : Nat) (0 : Nat) ∧ P = P ∧ o = o ∧ n = n ∧ Value.slice none (0 : Nat) (0 : Nat) = Value.slice none (0 : Nat) (0 : Nat) ∧ (↑n : Int) = (↑n : Int) ∧ P = P ∧ o = o ∧ n = n ∧ (1 : Int) = (1 : Int) ∧ Value.string (ByteArray.mk #[]) = Value.string (ByteArray.mk #[]) ∧ (3 : Nat) + ByteArray.size (strAt cs o) = (3 : Nat) + ByteArray.size (strAt cs o) ∧ IntKind.wrap IntKind.u8 (↑n : Int) = IntKind.wrap IntKind.u8 (↑n : Int) ∧ IntKind.wrap IntKind.u8 P = IntKind.wrap IntKind.u8 P ∧ (↑n : Int) = (↑n : Int) ∧ o = o ∧ n = n ∧ ty = ty ∧ cs = cs ∧ ty' = ty' ∧ bs = bs ∧ (32 : Nat) = (32 : Nat) ∧ P = P ∧ o = o ∧ n = n ∧ Value.slice none (0 : Nat) (0 : Nat) = Value.slice none (0 : Nat) (0 : Nat) ∧ (32 : Nat) = (32 : Nat) ∧ P = P ∧ o = o ∧ n = n ∧ Value.slice none (0 : Nat) (0 : Nat) = Value.slice none (0 : Nat) (0 : Nat) ∧ (5 : Nat) = (5 : Nat) ∧ #[Value.int IntKind.u8 (IntKind.wrap IntKind.u8 P), Value.int IntKind.u8 (IntKind.wrap IntKind.u8 (↑n : Int)), Value.int IntKind.u8 (IntKind.wrap IntKind.u8 (ari BinOp.quo IntKind.i64 ((((ByteArray.size (strAt cs o)) : Nat) : Int)) (6 : Int)))] ++ Array.map (fun b => Value.int IntKind.u8 (↑(UInt8.toNat b) : Int)) (ByteArray.data (strAt cs o)) = #[Value.int IntKind.u8 (IntKind.wrap IntKind.u8 P), Value.int IntKind.u8 (IntKind.wrap IntKind.u8 (↑n : Int)), Value.int IntKind.u8 (IntKind.wrap IntKind.u8 (ari BinOp.quo IntKind.i64 ((((ByteArray.size (strAt cs o)) : Nat) : Int)) (6 : Int)))] ++ Array.map (fun b => Value.int IntKind.u8 (↑(UInt8.toNat b) : Int)) (ByteArray.data (strAt cs o)) ∧ True) ∧ (decide ((0 : Int) < (↑n : Int)) = false → ok = true ∧ StrIs (strOf [Value.int IntKind.u8 (IntKind.wrap IntKind.u8 P), Value.int IntKind.u8 (IntKind.wrap IntKind.u8 (↑n : Int))]) e ∧ (0 : Int) = (0 : Int))) := by kernel_rfl
theorem xn_step (P : Int) (o n k' : Nat) (cs bs : Array Value) (ty ty' : TypeId) (ok : Bool) (e : ByteArray) (i : Int) (k : Nat) (vs : Array Value) (Q : Int → Nat → Array Value → Prop) : (xS1 true false P o n k' cs bs ty ty' i k vs).vc (encA ok e) (xN1 true false P o n k' cs bs ty ty' Q) =
    ((decide (i < (↑n : Int)) = true → (((0 : Int) ≤ i ∧ i < (↑n : Int)) ∧ True) ∧ (cs[o + Int.toNat i * 1]? = some (Value.string (strAt cs (o + Int.toNat i * 1))) ∧ True) ∧ (((k + 1) * 1 ≤ (140737488355328 : Nat) ∧ k + 1 ≤ (140737488355328 : Nat)) ∧ k * 1 = Array.size vs ∧ True) ∧ (((k + 1 + ByteArray.size (strAt cs (o + Int.toNat i * 1))) * 1 ≤ (140737488355328 : Nat) ∧ k + 1 + ByteArray.size (strAt cs (o + Int.toNat i * 1)) ≤ (140737488355328 : Nat)) ∧ (k + 1) * 1 = Array.size (vs ++ #[Value.int IntKind.u8 (IntKind.wrap IntKind.u8 (ari BinOp.quo IntKind.i64 ((((ByteArray.size (strAt cs (o + Int.toNat i * 1))) : Nat) : Int)) (6 : Int)))]) ∧ True) ∧ Q (ari BinOp.add IntKind.i64 i (1 : Int)) (k + 1 + ByteArray.size (strAt cs (o + Int.toNat i * 1))) (vs ++ #[Value.int IntKind.u8 (IntKind.wrap IntKind.u8 (ari BinOp.quo IntKind.i64 ((((ByteArray.size (strAt cs (o + Int.toNat i * 1))) : Nat) : Int)) (6 : Int)))] ++ Array.map (fun b => Value.int IntKind.u8 (↑(UInt8.toNat b) : Int)) (ByteArray.data (strAt cs (o + Int.toNat i * 1)))) ∧ CallKind.normal = CallKind.normal ∧ TodoOk (ren 2 [(2, 2), (3, 3), (4, 7)]) xH0 xH0 ∧ P = P ∧ o = o ∧ n = n ∧ Value.slice none (0 : Nat) (0 : Nat) = Value.slice none (0 : Nat) (0 : Nat) ∧ P = P ∧ o = o ∧ n = n ∧ Value.slice none (0 : Nat) (0 : Nat) = Value.slice none (0 : Nat) (0 : Nat) ∧ (↑n : Int) = (↑n : Int) ∧ P = P ∧ o = o ∧ n = n ∧ ari BinOp.add IntKind.i64 i (1 : Int) = ari BinOp.add IntKind.i64 i (1 : Int) ∧ Value.string (ByteArray.mk #[]) = Value.string (ByteArray.mk #[]) ∧ k + 1 + ByteArray.size (strAt cs (o + Int.toNat i * 1)) = k + 1 + ByteArray.size (strAt cs (o + Int.toNat i * 1)) ∧ IntKind.wrap IntKind.u8 (↑n : Int) = IntKind.wrap IntKind.u8 (↑n : Int) ∧ IntKind.wrap IntKind.u8 P = IntKind.wrap IntKind.u8 P ∧ (↑n : Int) = (↑n : Int) ∧ o = o ∧ n = n ∧ ty = ty ∧ cs = cs ∧ ty' = ty' ∧ bs = bs ∧ (32 : Nat) = (32 : Nat) ∧ P = P ∧ o = o ∧ n = n ∧ Value.slice none (0 : Nat) (0 : Nat) = Value.slice none (0 : Nat) (0 : Nat) ∧ (32 : Nat) = (32 : Nat) ∧ P = P ∧ o = o ∧ n = n ∧ Value.slice none (0 : Nat) (0 : Nat) = Value.slice none (0 : Nat) (0 : Nat) ∧ (5 : Nat) = (5 : Nat) ∧ vs ++ #[Value.int IntKind.u8 (IntKind.wrap IntKind.u8 (ari BinOp.quo IntKind.i64 ((((ByteArray.size (strAt cs (o + Int.toNat i * 1))) : Nat) : Int)) (6 : Int)))] ++ Array.map (fun b => Value.int IntKind.u8 (↑(UInt8.toNat b) : Int)) (ByteArray.data (strAt cs (o + Int.toNat i * 1))) = vs ++ #[Value.int IntKind.u8 (IntKind.wrap IntKind.u8 (ari BinOp.quo IntKind.i64 ((((ByteArray.size (strAt cs (o + Int.toNat i * 1))) : Nat) : Int)) (6 : Int)))] ++ Array.map (fun b => Value.int IntKind.u8 (↑(UInt8.toNat b) : Int)) (ByteArray.data (strAt cs (o + Int.toNat i * 1))) ∧ True) ∧ (decide (i < (↑n : Int)) = false → ((0 : Nat) + k ≤ Array.size vs ∧ AllU8 (Array.extract vs (0 : Nat) ((0 : Nat) + k)).1 ∧ True) ∧ ok = true ∧ StrIs (strOf (Array.toList (Array.extract vs (0 : Nat) ((0 : Nat) + k)))) e ∧ (0 : Int) = (0 : Int))) := by kernel_rfl
theorem xn_no (P : Int) (o n k' : Nat) (cs bs : Array Value) (ty ty' : TypeId) (ok : Bool) (e : ByteArray) : (xR true false P o n k' cs bs ty ty').vc (encA ok e) (fun _ _ => False) =
    (((decide (P < (1 : Int)) == false) = true → ((decide (P > (64 : Int)) == false) = true → ((decide ((↑n : Int) < (1 : Int)) == false) = true → ((decide ((↑n : Int) > (8 : Int)) == false) = true → (rowOk true cs o n ∧ True) ∧ (((!anyV true cs o n) == true) = true → False) ∧ (((!anyV true cs o n) == true) = false → ok = false ∧ StrIs (ByteArray.mk #[]) ByteArray.empty ∧ (3 : Int) = (3 : Int))) ∧ ((decide ((↑n : Int) > (8 : Int)) == false) = false → ok = false ∧ StrIs (ByteArray.mk #[]) ByteArray.empty ∧ (3 : Int) = (3 : Int))) ∧ ((decide ((↑n : Int) < (1 : Int)) == false) = false → ok = false ∧ StrIs (ByteArray.mk #[]) ByteArray.empty ∧ (3 : Int) = (3 : Int))) ∧ ((decide (P > (64 : Int)) == false) = false → ok = false ∧ StrIs (ByteArray.mk #[]) ByteArray.empty ∧ (3 : Int) = (3 : Int))) ∧ ((decide (P < (1 : Int)) == false) = false → ok = false ∧ StrIs (ByteArray.mk #[]) ByteArray.empty ∧ (3 : Int) = (3 : Int))) := by kernel_rfl
end Go.Proofs.Ytapkbgccbmjfaaa
/- Of journal: Encode of a script that came in, without picks. No condition. -/
namespace Go.Proofs.Ytapkbgccbmjfaaa
set_option linter.unusedSectionVars false
set_option maxRecDepth 100000
theorem xT0_ok : TodoOk (ren 2 [(2, 2), (3, 3), (4, 4)]) xT0 xT0 := TodoOk.same (by kernel_rfl)
theorem xH0_7 : TodoOk (ren 2 [(2, 2), (3, 3), (4, 7)]) xH0 xH0 := TodoOk.same (by kernel_rfl)
theorem xN1_good {v w : Bool} {P : Int} {o n k' : Nat} {cs bs : Array Value} {ty ty' : TypeId} {A : SV → SMem → Prop} {Q : Int → Nat → Array Value → Prop} (hg : ∀ i k vs, Q i k vs → Good EV.P A 2 (headF (xF1 v w P o n k' cs bs ty ty' i k)) (xM1 v w P o n k' cs bs ty ty' vs)) {fs : List SFr} {m : SMem} (hb : xN1 v w P o n k' cs bs ty ty' Q fs m) : Good EV.P A 2 fs m := by
  unfold xN1 at hb
  split at hb
  · split at hb
    · exact Good.of_sub hb.2 (hg _ _ _ hb.1)
    · exact hb.elim
  · exact hb.elim
theorem xN0_good {v w : Bool} {P : Int} {o n k' : Nat} {cs bs : Array Value} {ty ty' : TypeId} {A : SV → SMem → Prop} (hg : Good EV.P A 2 (headF (xF0 v w P o n k' cs bs ty ty')) (xM0 v w P o n k' cs bs ty ty')) {fs : List SFr} {m : SMem} (hb : xN0 v w P o n k' cs bs ty ty' fs m) : Good EV.P A 2 fs m :=
  Good.of_sub hb (Good.head hg)
section
variable (P : Int) (o n k' : Nat) (cs bs : Array Value) (ty ty' : TypeId)
theorem xn_round (hS : StrOk cs o n) (hB : BytOk bs 0 k') (hk0 : false = false → k' = 0) (hm : mayS P o n k' cs bs = true) :
    ∀ (K j : Nat), n - j < K → 1 ≤ j → j ≤ n → Good EV.P (encA true (encS P o n k' cs bs)) 2 (headF (xF1 true false P o n k' cs bs ty ty' (j : Int) (progA P n cs o j).size)) (xM1 true false P o n k' cs bs ty ty' (progA P n cs o j)) := by
  unfold mayS at hm
  rw [Bool.and_eq_true, Bool.and_eq_true, decide_eq_true_eq, Bool.not_eq_true', Bool.not_eq_true'] at hm
  obtain ⟨⟨⟨p1, p2, p3, p4, p5⟩, p6⟩, p7⟩ := hm
  intro K
  induction K with
  | zero => intro j h; omega
  | succ K ih =>
    intro j hk hj1 hj
    have hpre : anyS cs o j = false := anyS_at.2 fun t ht => anyS_at.1 p6 t (by omega)
    have hsz := progA_le (P := P) (n := n) hpre
    refine past_vc EV_ok 1000 (xn_step P o n k' cs bs ty ty' true _ (j : Int) (progA P n cs o j).size (progA P n cs o j) (fun i' k vs => ∃ t : Nat, i' = t ∧ k = (progA P n cs o t).size ∧ vs = progA P n cs o t ∧ n - t < K ∧ 1 ≤ t ∧ t ≤ n)) ?_ (fun _ _ h => h)
      (fun fs m hb => xN1_good (fun i' k vs ⟨t, e1, e2, e3, k1, k2, k3⟩ => by rw [e1, e2, e3]; exact ih t k1 k2 k3) hb)
    rw [Int.toNat_natCast, Nat.mul_one]
    refine ⟨fun h => ?_, fun h => ?_⟩
    · have hlt : j < n := by simpa using h
      obtain ⟨i1, i2⟩ := hS.2 j hlt
      have hd := (decOk_size (anyS_at.1 p6 j hlt)).2
      have eA : ari BinOp.add IntKind.i64 (j : Int) 1 = ((j + 1 : Nat) : Int) := by rw [ari_add, i64_nat (show j < 9223372036854775807 by omega)]
      rw [eA]
      refine ⟨⟨⟨by omega, by omega⟩, trivial⟩, ⟨i1, trivial⟩, ⟨⟨by omega, by omega⟩, by omega, trivial⟩, ⟨⟨by omega, by omega⟩, ?_, trivial⟩, ⟨j + 1, rfl, (progA_succ ..).symm, rfl, by omega, by omega, by omega⟩, ?_⟩
      · rw [Array.size_append, Nat.mul_one]; rfl
      · repeat' first | exact trivial | exact xH0_7 | apply And.intro | exact rfl
    · have h1 : ¬ j < n := by simpa using h
      have hjn : j = n := by omega
      rw [hjn]
      rw [hjn] at hsz
      have h0 : k' = 0 := hk0 rfl
      rw [Nat.zero_add, Array.extract_size]
      refine ⟨⟨Nat.le_refl _, progA_u8 P n cs o n, trivial⟩, rfl, ?_, rfl⟩
      show strOf _ = encS P o n k' cs bs
      unfold encS
      rw [h0, Array.extract_zero, Array.append_empty]
theorem xn_good (hS : StrOk cs o n) (hB : BytOk bs 0 k') (hk0 : false = false → k' = 0) (hn : n < 9223372036854775807) : Good Try.prog (encA (mayS P o n k' cs bs) (encS P o n k' cs bs)) 2 (encC P (slC 0 o n) (pkC false k')) (rdM3 true cs bs ty ty') := by
  cases hm : mayS P o n k' cs bs with
  | true =>
    have hm' := hm
    unfold mayS at hm'
    rw [Bool.and_eq_true, Bool.and_eq_true, decide_eq_true_eq, Bool.not_eq_true', Bool.not_eq_true'] at hm'
    obtain ⟨⟨⟨p1, p2, p3, p4, p5⟩, p6⟩, p7⟩ := hm'
    have first : Good EV.P (encA true (encS P o n k' cs bs)) 2 (headF (xF0 true false P o n k' cs bs ty ty')) (xM0 true false P o n k' cs bs ty ty') := by
      refine past_vc EV_ok 1000 (xn_first P o n k' cs bs ty ty' true _ (fun i' k vs => i' = ((1 : Nat) : Int) ∧ k = (progA P n cs o 1).size ∧ vs = progA P n cs o 1)) ?_ (fun _ _ h => h)
        (fun fs m hb => xN1_good (fun i' k vs ⟨e1, e2, e3⟩ => by rw [e1, e2, e3]; exact xn_round P o n k' cs bs ty ty' hS hB hk0 hm (n + 1) 1 (by omega) (by omega) (by omega)) hb)
      have hd := (decOk_size (anyS_at.1 p6 0 (by omega))).2
      obtain ⟨i1, i2⟩ := hS.2 0 (by omega)
      rw [Nat.add_zero] at hd i1
      refine ⟨fun h => ?_, fun h => ?_⟩
      · refine ⟨⟨⟨by omega, by omega⟩, trivial⟩, ⟨i1, trivial⟩, ⟨⟨by omega, by omega⟩, trivial⟩, ⟨rfl, ?_, rfl⟩, ?_⟩
        · rw [progA_succ]
          rfl
        · repeat' first | exact trivial | exact xH0_7 | apply And.intro | exact rfl
      · have h1 : ¬ 0 < n := by simpa using h
        omega
    refine run_vc EV_ok 1000 (xn_start P o n k' cs bs ty ty' true _) ?_ (fun _ _ h => h) (fun fs m hb => xN0_good first hb)
    have d1 : decide (P < 1) = false := decide_eq_false (by omega)
    have d2 : decide (P > 64) = false := decide_eq_false (by omega)
    have d3 : decide ((n : Int) < 1) = false := decide_eq_false (by omega)
    have d4 : decide ((n : Int) > 8) = false := decide_eq_false (by omega)
    have d5 : decide ((k' : Int) > 4000) = false := decide_eq_false (by omega)
    simp only [d1, d2, d3, d4, d5, anyV_t, anyV_f, p6, p7, beq_self_eq_true, Bool.not_false, Bool.not_true, Bool.true_eq_false, Bool.false_eq_true, false_implies, true_implies, reduceCtorEq]
    repeat' first | exact trivial | exact hS | exact hB | exact xT0_ok | apply And.intro | exact rfl
  | false =>
    refine run_vc EV_ok 1000 (xn_no P o n k' cs bs ty ty' false _) ?_ (fun _ _ h => h) (fun fs m hb => hb.elim)
    repeat' first | exact trivial | exact hS | exact hB | exact rfl | apply And.intro | intro _
    all_goals
      exfalso
      have e0 : anyB bs 0 k' = false := by rw [hk0 rfl]; rfl
      have hk4 : k' ≤ 4000 := by have := hk0 rfl; omega
      clear hk0 hB
      simp_all [mayS, anyV]
      try omega
end
end Go.Proofs.Ytapkbgccbmjfaaa
/- Of journal: the contracts hold; JournalBegins' runs end with true. No condition. -/
namespace Go.Proofs.Ytapkbgccbmjfaaa
set_option linter.unusedSectionVars false
set_option linter.unusedVariables false
set_option maxRecDepth 100000
theorem celA_none : celA .empty = #[] := Array.eq_empty_of_size_eq_zero (by unfold celA; rw [Array.size_map]; rfl)
theorem none_size : ByteArray.empty.size = 0 := rfl
theorem encN_con {P : Int} {i : Nat} {o n : SN} {c : SK} {m : SMem} {cs : Array Value} {v : Bool} (hr : rowV m i = some (v, cs)) (r : Bool) (s0 : SV) (hm : mayS P o.den n.den 0 cs #[] = r) (hs : ∀ s m' R R' v, encA r (encS P o.den n.den 0 cs #[]) s m' → s.ok R' v → s0.ok R v) : Con E0 24 [.s (.agg (.ls [.f (.int .i64 (.o P)), .f (.slice i o n c), nilC]))] m (needs [StrOk cs o.den n.den] (.ret s0 m)) := by
  obtain ⟨ty, wr, hb⟩ := rowV_of hr
  have args : ∀ R vs, All2 (SV.ok R) [.s (.agg (.ls [.f (.int .i64 (.o P)), .f (.slice i o n c), nilC]))] vs → All2 (SV.ok (pull (fun _ => i) 2 R)) [scV P (slC 0 o.den n.den) (pkC false 0)] vs := fun R vs ha => by
    match vs, ha with
    | [u], ha => exact ⟨agg3 ha.1 (fun _ h => h) (fun _ h => sl_pull h l02 rfl rfl) (fun _ h => h), trivial⟩
  cases v with
  | true =>
    refine Con.ro E0_ok (l' := [scV P (slC 0 o.den n.den) (pkC false 0)]) (ms := rdM3 true cs cs ty ty) (A := encA r (encS P o.den n.den 0 cs #[])) fn7 body7 rfl (fun _ => i) ?_ args (fun hq => ?_) hs
    · intro x b hx
      rcases get2 hx with ⟨rfl, rfl⟩ | ⟨rfl, rfl⟩
      · exact ⟨l02, rfl, _, hb, rfl, fun R cs' h => h⟩
      · exact ⟨l12, rfl, _, hb, rfl, fun R cs' h => h⟩
    · have hS : StrOk cs o.den n.den := hq _ (by simp)
      have hg := xn_good P o.den n.den 0 cs cs ty ty hS ⟨by omega, fun j hj => by omega⟩ (fun _ => rfl) hS.1
      have e1 : mayS P o.den n.den 0 cs cs = mayS P o.den n.den 0 cs #[] := rfl
      rw [e1, hm, encS_nil] at hg
      exact hg
  | false =>
    refine Con.ro E0_ok (l' := [scV P (slC 0 o.den n.den) (pkC false 0)]) (ms := rdM2 false cs #[] ty ty) (A := encA r (encS P o.den n.den 0 cs #[])) fn7 body7 rfl (fun _ => i) ?_ args (fun hq => ?_) hs
    · intro x b hx
      rcases get2 hx with ⟨rfl, rfl⟩ | ⟨rfl, rfl⟩
      · exact ⟨l02, rfl, _, hb, rfl, fun R cs' h => h⟩
      · refine ⟨l12, rfl, _, hb, rfl, fun R cs' h => ?_⟩
        have h : cs'.toList.take cs.size = cs.toList ∧ ∀ v ∈ cs'.toList, v.oneCell' = true := h
        exact ⟨rfl, h.2⟩
    · have hS : StrOk cs o.den n.den := hq _ (by simp)
      exact hm ▸ en_good_ff P o.den n.den 0 cs #[] ty ty hS ⟨by omega, fun j hj => by omega⟩ (fun _ => rfl) hS.1
theorem encN_ok {m : SMem} {x : SV} {t : Tree} (h : encN m x = some t) : Con E0 24 [x] m t := by
  unfold encN at h
  split at h
  · rename_i P i o n c
    split at h
    · rename_i v cs hr
      cases h
      exact Con.br (fun hm => encN_con hr true _ hm fun _ _ _ _ _ => encA_yes) (fun hm => encN_con hr false _ hm fun _ _ _ _ _ => encA_no)
    · cases h
  · cases h
theorem wakes_good : Good Try.prog (boolR true) 0 [callFr 9 Try.f9.ntmps [] (Try.f9.body.getD .skip)] M0 :=
  run_vc E0_ok 1000000 (wakes_vc true) (by repeat' first | exact trivial | exact rfl | decide | apply And.intro) (fun _ _ h => h) (fun _ _ h => h.elim)
theorem wakes_fn : E0.fn 9 = some Try.f9 := by kernel_rfl
theorem wakes_body : Try.f9.body = some (Try.f9.body.getD .skip) := by kernel_rfl
theorem wakes_con (m : SMem) : Con E0 9 [] m (needs [] (.ret (sB (.l true)) m)) :=
  Con.ro E0_ok (l := []) (l' := []) (ms := M0) (q := []) (A := boolR true) wakes_fn wakes_body rfl (fun i => i) no_blocks (fun R vs ha => by match vs, ha with | [], _ => trivial) (fun _ => wakes_good) (fun _ _ _ _ _ => boolR_lit)
def magB : ByteArray := ByteArray.mk #[66, 76, 87, 75]
def twoB (z : Nat) : ByteArray := strOf [Value.int .u8 (IntKind.wrap .u8 (z : Int)), Value.int .u8 (IntKind.wrap .u8 (ari .shr .i64 (z : Int) 8))]
theorem twoB_size (z : Nat) : (twoB z).size = 2 := strOf_size _
theorem enc0_size {P : Int} {o n : Nat} {cs : Array Value} (hm : mayS P o n 0 cs #[] = true) : (encS P o n 0 cs #[]).size ≤ 4000 := by
  have hm' : mayS P o n ByteArray.empty.size cs (celA .empty) = true := by rw [celA_none, none_size]; exact hm
  obtain ⟨_, _, _, p4, p5, p6, _⟩ := may_facts P o n .empty cs hm'
  have h1 := x_size P o n .empty cs hm'
  have h2 := BLs_len P o n .empty cs hm' n
  have h3 := progA_le (P := P) (n := n) p6
  rw [celA_none, none_size] at h1
  omega
theorem app_none (X : ByteArray) : ByteArray.mk #[] ++ X = X := by
  apply ByteArray.ext
  rw [ByteArray.data_append]
  simp
end Go.Proofs.Ytapkbgccbmjfaaa
/- Of journal: whether picks may be, and what is read: contracts' trees, and states. No condition. -/
namespace Go.Proofs.Ytapkbgccbmjfaaa
noncomputable section
def resF : SV := .tup [.agg (.ls [.f (.int .i64 (.l 0)), nilC, .f (.lit (.string ⟨⟨[]⟩⟩))]), .c (.f (.bool (.l false)))]
def decT13 (m : SMem) : SV → Option Tree
  | .s (.c (.f (.opq (.string b)))) => some (needs [b.size < 140737488355328] (.br (okD b)
      (.ret ((resR (byteAt b 0) (numB b) (leftB b)).re (sh m.next)) (ins2 m (resM false (rowP b (numB b)) #[])))
      (.ret resF m)))
  | _ => none
def same2T (m : SMem) : SV → SV → Option Tree
  | .s (.agg (.ls [.f (.int .i64 (.o P)), .f (.slice i (.l 0) n _), .f (.slice j (.l 0) k _)])), .s (.agg (.ls [.f (.int .i64 (.o P')), .f (.slice i' o' n' _), .f (.opq (.string q))])) => match rowV m i, rowV m j, rowV m i' with
    | some (false, rs), some (false, bs), some (false, cs) => some (needs [P = P', n.den = n'.den, RowEq rs cs o'.den n.den, PickEq true k.den bs q] (.ret (sB (.l true)) m))
    | _, _, _ => none
  | .s (.agg (.ls [.f (.int .i64 (.o P)), .f (.slice i (.l 0) n _), .f (.lit (.slice none 0 0))])), .s (.agg (.ls [.f (.int .i64 (.o P')), .f (.slice i' o' n' _), .f (.opq (.string q))])) => match rowV m i, rowV m i' with
    | some (false, rs), some (false, cs) => some (needs [P = P', n.den = n'.den, RowEq rs cs o'.den n.den, PickEq false 0 #[] q] (.ret (sB (.l true)) m))
    | _, _ => none
  | _, _ => none
def rowB (m : SMem) (i : Nat) : Option (Array Value) := match getB m.bl i with
  | some ⟨.op cs, _, _⟩ => some cs
  | some ⟨.pop cs, _, _⟩ => some cs
  | _ => none
def conP (g : FuncId) (l : List SV) (m : SMem) : Option Tree := match g, l with
  | 42, [x, .s (.c (.fn (.func 43) [] []))] => cfT false m x
  | _, _ => none
def EP : Env := ⟨Try.prog, fnOf, conP, fun _ _ _ => false⟩
def mpC (n : Nat) : List SFr := [callFr 32 Try.f32.ntmps [.s (.c (.f (.slice 0 (.l 0) (.o n) .any)))] (Try.f32.body.getD .skip)]
def mpT (m : SMem) : SV → Option Tree
  | .s (.c (.f (.slice i (.l 0) n _))) => match rowB m i with
    | some cs => some (needs [BytOk cs 0 n.den] (.ret (sB (.o (decide (n.den ≤ 4000) && !anyB cs 0 n.den))) m))
    | none => none
  | _ => none
def endN (b : ByteArray) : Nat := 6 + (byteAt b 4).toNat + 256 * (byteAt b 5).toNat
def cB (b : ByteArray) : ByteArray := b.extract 6 (endN b)
def preH (b : ByteArray) : Bool := decide (6 ≤ b.size) && ((b.extract 0 4).toList == magB.toList) && (decide (endN b + 4 ≤ b.size) && ((smA .empty (b.extract 0 (endN b))).toList == (b.extract 0 (endN b + 4)).toList))
def hres (P : Int) (n sz : Nat) (B : SC) (y : Bool) : SV := .tup [.agg (.ls [.f (.int .i64 (.o P)), .f (.slice 0 (.l 0) (.o n) .any), B]), .c (.f (.int .i64 (.o sz))), .c (.f (.bool (.l y)))]
def hno (z : SI) : SV := .tup [.agg (.ls [.f (.int .i64 (.l 0)), nilC, nilC]), .c (.f (.int .i64 z)), .c (.f (.bool (.l false)))]
def hA (pre ok w : Bool) (P : Int) (n k sz : Nat) (rs bs : Array Value) (s : SV) (m : SMem) : Prop := match s with
  | .tup [.agg (.ls [.f (.int .i64 p), .f A, .f B]), .c (.f (.int .i64 z)), .c (.f (.bool y))] => match A with
    | .lit (.slice none 0 0) => y.den = false ∧ p.den = 0 ∧ ((pre = false ∧ z.den = 0) ∨ (pre = true ∧ ok = false ∧ z.den = sz)) ∧ (match B with | .lit (.slice none 0 0) => True | _ => False)
    | .slice sid _ _ _ => match B with
      | .lit (.slice none 0 0) => pre = true ∧ ok = true ∧ w = false ∧ retOk 0 [(0, sid)] (hres P n sz nilC true) (resM false rs bs) s m
      | .slice tid _ _ _ => pre = true ∧ ok = true ∧ w = true ∧ retOk 0 [(0, sid), (1, tid)] (hres P n sz (.f (.slice 1 (.l 0) (.o k) .any)) false) (resM true rs bs) s m
      | _ => False
    | _ => False
  | _ => False
def conH (g : FuncId) (l : List SV) (m : SMem) : Option Tree := match g, l with
  | 25, [x, y] => smT m x y
  | 37, [x] => decT12 m x
  | _, _ => none
def EH : Env := ⟨Try.prog, fnOf, conH, fun _ _ _ => false⟩
def hdC (b : ByteArray) : List SFr := [callFr 29 Try.f29.ntmps [strV' b] (Try.f29.body.getD .skip)]
def hdT (m : SMem) : SV → Option Tree
  | .s (.c (.f (.opq (.string b)))) => some (needs [b.size ≤ 100000] (.br (preH b)
      (.br (okD (cB b))
        (.br (decide ((leftB (cB b)).size ≠ 0)) (.ret ((hres (byteAt (cB b) 0) (numB (cB b)) (endN b + 4) (.f (.slice 1 (.l 0) (.o (leftB (cB b)).size) .any)) false).re (sh m.next)) (ins2 m (resM true (rowP (cB b) (numB (cB b))) (celA (leftB (cB b))))))
          (.ret ((hres (byteAt (cB b) 0) (numB (cB b)) (endN b + 4) nilC true).re (sh m.next)) (ins2 m (resM false (rowP (cB b) (numB (cB b))) (celA (leftB (cB b)))))))
        (.ret (hno (.o (endN b + 4 : Nat))) m))
      (.ret (hno (.l 0)) m)))
  | _ => none
def conR (g : FuncId) (l : List SV) (m : SMem) : Option Tree := match g, l with
  | 25, [x, y] => smT m x y
  | 29, [x] => hdT m x
  | 32, [x] => mpT m x
  | _, _ => none
def ER : Env := ⟨Try.prog, fnOf, conR, fun _ f x => Nat.beq f 38 && isLoop x⟩
def reC (j : ByteArray) : List SFr := [callFr 16 Try.f16.ntmps [strV' j] (Try.f16.body.getD .skip)]
end
end Go.Proofs.Ytapkbgccbmjfaaa
/- Of journal: whether picks may be, and the head, as propositions. No condition. -/
namespace Go.Proofs.Ytapkbgccbmjfaaa
set_option maxRecDepth 100000
theorem mp_run (n : Nat) (cs : Array Value) (ty : TypeId) (r : Bool) : (run EP 1000 1 (mpC n) (prM false cs ty)).vc (boolR r) (fun _ _ => False) =
    ((decide ((↑n : Int) > (4000 : Int)) = true → false = r) ∧ (decide ((↑n : Int) > (4000 : Int)) = false → (rowOk false cs (0 : Nat) n ∧ True) ∧ (!anyV false cs (0 : Nat) n) = r)) := by kernel_rfl
theorem hd_run (b : ByteArray) (pre ok w : Bool) (P : Int) (n k sz : Nat) (rs bs : Array Value) : (run EH 1000 0 (hdC b) M0).vc (hA pre ok w P n k sz rs bs) (fun _ _ => False) =
    (((decide (((((ByteArray.size b) : Nat) : Int)) < (6 : Int)) == false) = true → (((4 : Nat) ≤ (ByteArray.size b)) ∧ True) ∧ ((!ByteArray.toList (ByteArray.extract b (0 : Nat) (4 : Nat)) == ByteArray.toList (ByteArray.mk #[(66 : UInt8), (76 : UInt8), (87 : UInt8), (75 : UInt8)])) = true → false = false ∧ (0 : Int) = (0 : Int) ∧ (pre = false ∧ (0 : Int) = (0 : Int) ∨ pre = true ∧ ok = false ∧ (0 : Int) = (↑sz : Int)) ∧ True) ∧ ((!ByteArray.toList (ByteArray.extract b (0 : Nat) (4 : Nat)) == ByteArray.toList (ByteArray.mk #[(66 : UInt8), (76 : UInt8), (87 : UInt8), (75 : UInt8)])) = false → (((0 : Int) ≤ (4 : Int) ∧ (4 : Int) < (↑((ByteArray.size b)) : Int)) ∧ True) ∧ (((0 : Int) ≤ (5 : Int) ∧ (5 : Int) < (↑((ByteArray.size b)) : Int)) ∧ True) ∧ ((decide (((((ByteArray.size b) : Nat) : Int)) < ari BinOp.add IntKind.i64 (ari BinOp.add IntKind.i64 (ari BinOp.add IntKind.i64 (6 : Int) (IntKind.wrap IntKind.i64 (byteAt b (4 : Nat)))) (ari BinOp.shl IntKind.i64 (IntKind.wrap IntKind.i64 (byteAt b (5 : Nat))) (8 : Int))) (4 : Int)) == false) = true → ((0 : Int) ≤ ari BinOp.add IntKind.i64 (ari BinOp.add IntKind.i64 (6 : Int) (IntKind.wrap IntKind.i64 (byteAt b (4 : Nat)))) (ari BinOp.shl IntKind.i64 (IntKind.wrap IntKind.i64 (byteAt b (5 : Nat))) (8 : Int)) ∧ (Int.toNat (ari BinOp.add IntKind.i64 (ari BinOp.add IntKind.i64 (6 : Int) (IntKind.wrap IntKind.i64 (byteAt b (4 : Nat)))) (ari BinOp.shl IntKind.i64 (IntKind.wrap IntKind.i64 (byteAt b (5 : Nat))) (8 : Int))) ≤ (ByteArray.size b)) ∧ True) ∧ ((0 : Nat) + ByteArray.size (ByteArray.extract b (0 : Nat) (Int.toNat (ari BinOp.add IntKind.i64 (ari BinOp.add IntKind.i64 (6 : Int) (IntKind.wrap IntKind.i64 (byteAt b (4 : Nat)))) (ari BinOp.shl IntKind.i64 (IntKind.wrap IntKind.i64 (byteAt b (5 : Nat))) (8 : Int))))) ≤ (1000000 : Nat) ∧ True) ∧ ((0 : Int) ≤ ari BinOp.add IntKind.i64 (ari BinOp.add IntKind.i64 (ari BinOp.add IntKind.i64 (6 : Int) (IntKind.wrap IntKind.i64 (byteAt b (4 : Nat)))) (ari BinOp.shl IntKind.i64 (IntKind.wrap IntKind.i64 (byteAt b (5 : Nat))) (8 : Int))) (4 : Int) ∧ (Int.toNat (ari BinOp.add IntKind.i64 (ari BinOp.add IntKind.i64 (ari BinOp.add IntKind.i64 (6 : Int) (IntKind.wrap IntKind.i64 (byteAt b (4 : Nat)))) (ari BinOp.shl IntKind.i64 (IntKind.wrap IntKind.i64 (byteAt b (5 : Nat))) (8 : Int))) (4 : Int)) ≤ (ByteArray.size b)) ∧ True) ∧ ((!ByteArray.toList (smA (ByteArray.mk #[]) (ByteArray.extract b (0 : Nat) (Int.toNat (ari BinOp.add IntKind.i64 (ari BinOp.add IntKind.i64 (6 : Int) (IntKind.wrap IntKind.i64 (byteAt b (4 : Nat)))) (ari BinOp.shl IntKind.i64 (IntKind.wrap IntKind.i64 (byteAt b (5 : Nat))) (8 : Int)))))) == ByteArray.toList (ByteArray.extract b (0 : Nat) (Int.toNat (ari BinOp.add IntKind.i64 (ari BinOp.add IntKind.i64 (ari BinOp.add IntKind.i64 (6 : Int) (IntKind.wrap IntKind.i64 (byteAt b (4 : Nat)))) (ari BinOp.shl IntKind.i64 (IntKind.wrap IntKind.i64 (byteAt b (5 : Nat))) (8 : Int))) (4 : Int))))) = true → false = false ∧ (0 : Int) = (0 : Int) ∧ (pre = false ∧ (0 : Int) = (0 : Int) ∨ pre = true ∧ ok = false ∧ (0 : Int) = (↑sz : Int)) ∧ True) ∧ ((!ByteArray.toList (smA (ByteArray.mk #[]) (ByteArray.extract b (0 : Nat) (Int.toNat (ari BinOp.add IntKind.i64 (ari BinOp.add IntKind.i64 (6 : Int) (IntKind.wrap IntKind.i64 (byteAt b (4 : Nat)))) (ari BinOp.shl IntKind.i64 (IntKind.wrap IntKind.i64 (byteAt b (5 : Nat))) (8 : Int)))))) == ByteArray.toList (ByteArray.extract b (0 : Nat) (Int.toNat (ari BinOp.add IntKind.i64 (ari BinOp.add IntKind.i64 (ari BinOp.add IntKind.i64 (6 : Int) (IntKind.wrap IntKind.i64 (byteAt b (4 : Nat)))) (ari BinOp.shl IntKind.i64 (IntKind.wrap IntKind.i64 (byteAt b (5 : Nat))) (8 : Int))) (4 : Int))))) = false → ((0 : Int) ≤ ari BinOp.add IntKind.i64 (ari BinOp.add IntKind.i64 (6 : Int) (IntKind.wrap IntKind.i64 (byteAt b (4 : Nat)))) (ari BinOp.shl IntKind.i64 (IntKind.wrap IntKind.i64 (byteAt b (5 : Nat))) (8 : Int)) ∧ (Int.toNat (ari BinOp.add IntKind.i64 (ari BinOp.add IntKind.i64 (6 : Int) (IntKind.wrap IntKind.i64 (byteAt b (4 : Nat)))) (ari BinOp.shl IntKind.i64 (IntKind.wrap IntKind.i64 (byteAt b (5 : Nat))) (8 : Int))) ≤ (ByteArray.size b)) ∧ (6 : Nat) ≤ Int.toNat (ari BinOp.add IntKind.i64 (ari BinOp.add IntKind.i64 (6 : Int) (IntKind.wrap IntKind.i64 (byteAt b (4 : Nat)))) (ari BinOp.shl IntKind.i64 (IntKind.wrap IntKind.i64 (byteAt b (5 : Nat))) (8 : Int))) ∧ True) ∧ (ByteArray.size (ByteArray.extract b (6 : Nat) (Int.toNat (ari BinOp.add IntKind.i64 (ari BinOp.add IntKind.i64 (6 : Int) (IntKind.wrap IntKind.i64 (byteAt b (4 : Nat)))) (ari BinOp.shl IntKind.i64 (IntKind.wrap IntKind.i64 (byteAt b (5 : Nat))) (8 : Int))))) < (140737488355328 : Nat) ∧ True) ∧ (okD (ByteArray.extract b (6 : Nat) (Int.toNat (ari BinOp.add IntKind.i64 (ari BinOp.add IntKind.i64 (6 : Int) (IntKind.wrap IntKind.i64 (byteAt b (4 : Nat)))) (ari BinOp.shl IntKind.i64 (IntKind.wrap IntKind.i64 (byteAt b (5 : Nat))) (8 : Int))))) = true → (decide (ByteArray.size (leftB (ByteArray.extract b (6 : Nat) (Int.toNat (ari BinOp.add IntKind.i64 (ari BinOp.add IntKind.i64 (6 : Int) (IntKind.wrap IntKind.i64 (byteAt b (4 : Nat)))) (ari BinOp.shl IntKind.i64 (IntKind.wrap IntKind.i64 (byteAt b (5 : Nat))) (8 : Int)))))) ≠ (0 : Nat)) = true → pre = true ∧ ok = true ∧ w = true ∧ P = byteAt (ByteArray.extract b (6 : Nat) (Int.toNat (ari BinOp.add IntKind.i64 (ari BinOp.add IntKind.i64 (6 : Int) (IntKind.wrap IntKind.i64 (byteAt b (4 : Nat)))) (ari BinOp.shl IntKind.i64 (IntKind.wrap IntKind.i64 (byteAt b (5 : Nat))) (8 : Int))))) (0 : Nat) ∧ n = numB (ByteArray.extract b (6 : Nat) (Int.toNat (ari BinOp.add IntKind.i64 (ari BinOp.add IntKind.i64 (6 : Int) (IntKind.wrap IntKind.i64 (byteAt b (4 : Nat)))) (ari BinOp.shl IntKind.i64 (IntKind.wrap IntKind.i64 (byteAt b (5 : Nat))) (8 : Int))))) ∧ k = ByteArray.size (leftB (ByteArray.extract b (6 : Nat) (Int.toNat (ari BinOp.add IntKind.i64 (ari BinOp.add IntKind.i64 (6 : Int) (IntKind.wrap IntKind.i64 (byteAt b (4 : Nat)))) (ari BinOp.shl IntKind.i64 (IntKind.wrap IntKind.i64 (byteAt b (5 : Nat))) (8 : Int)))))) ∧ (↑sz : Int) = ari BinOp.add IntKind.i64 (ari BinOp.add IntKind.i64 (ari BinOp.add IntKind.i64 (6 : Int) (IntKind.wrap IntKind.i64 (byteAt b (4 : Nat)))) (ari BinOp.shl IntKind.i64 (IntKind.wrap IntKind.i64 (byteAt b (5 : Nat))) (8 : Int))) (4 : Int) ∧ false = ((↑(ByteArray.size (leftB (ByteArray.extract b (6 : Nat) (Int.toNat (ari BinOp.add IntKind.i64 (ari BinOp.add IntKind.i64 (6 : Int) (IntKind.wrap IntKind.i64 (byteAt b (4 : Nat)))) (ari BinOp.shl IntKind.i64 (IntKind.wrap IntKind.i64 (byteAt b (5 : Nat))) (8 : Int))))))) : Int) == (0 : Int)) ∧ (9 : TypeId) = (9 : TypeId) ∧ rs = rowP (ByteArray.extract b (6 : Nat) (Int.toNat (ari BinOp.add IntKind.i64 (ari BinOp.add IntKind.i64 (6 : Int) (IntKind.wrap IntKind.i64 (byteAt b (4 : Nat)))) (ari BinOp.shl IntKind.i64 (IntKind.wrap IntKind.i64 (byteAt b (5 : Nat))) (8 : Int))))) (numB (ByteArray.extract b (6 : Nat) (Int.toNat (ari BinOp.add IntKind.i64 (ari BinOp.add IntKind.i64 (6 : Int) (IntKind.wrap IntKind.i64 (byteAt b (4 : Nat)))) (ari BinOp.shl IntKind.i64 (IntKind.wrap IntKind.i64 (byteAt b (5 : Nat))) (8 : Int)))))) ∧ (5 : TypeId) = (5 : TypeId) ∧ bs = celA (leftB (ByteArray.extract b (6 : Nat) (Int.toNat (ari BinOp.add IntKind.i64 (ari BinOp.add IntKind.i64 (6 : Int) (IntKind.wrap IntKind.i64 (byteAt b (4 : Nat)))) (ari BinOp.shl IntKind.i64 (IntKind.wrap IntKind.i64 (byteAt b (5 : Nat))) (8 : Int)))))) ∧ True) ∧ (decide (ByteArray.size (leftB (ByteArray.extract b (6 : Nat) (Int.toNat (ari BinOp.add IntKind.i64 (ari BinOp.add IntKind.i64 (6 : Int) (IntKind.wrap IntKind.i64 (byteAt b (4 : Nat)))) (ari BinOp.shl IntKind.i64 (IntKind.wrap IntKind.i64 (byteAt b (5 : Nat))) (8 : Int)))))) ≠ (0 : Nat)) = false → pre = true ∧ ok = true ∧ w = false ∧ P = byteAt (ByteArray.extract b (6 : Nat) (Int.toNat (ari BinOp.add IntKind.i64 (ari BinOp.add IntKind.i64 (6 : Int) (IntKind.wrap IntKind.i64 (byteAt b (4 : Nat)))) (ari BinOp.shl IntKind.i64 (IntKind.wrap IntKind.i64 (byteAt b (5 : Nat))) (8 : Int))))) (0 : Nat) ∧ n = numB (ByteArray.extract b (6 : Nat) (Int.toNat (ari BinOp.add IntKind.i64 (ari BinOp.add IntKind.i64 (6 : Int) (IntKind.wrap IntKind.i64 (byteAt b (4 : Nat)))) (ari BinOp.shl IntKind.i64 (IntKind.wrap IntKind.i64 (byteAt b (5 : Nat))) (8 : Int))))) ∧ Value.slice none (0 : Nat) (0 : Nat) = Value.slice none (0 : Nat) (0 : Nat) ∧ (↑sz : Int) = ari BinOp.add IntKind.i64 (ari BinOp.add IntKind.i64 (ari BinOp.add IntKind.i64 (6 : Int) (IntKind.wrap IntKind.i64 (byteAt b (4 : Nat)))) (ari BinOp.shl IntKind.i64 (IntKind.wrap IntKind.i64 (byteAt b (5 : Nat))) (8 : Int))) (4 : Int) ∧ (9 : TypeId) = (9 : TypeId) ∧ rs = rowP (ByteArray.extract b (6 : Nat) (Int.toNat (ari BinOp.add IntKind.i64 (ari BinOp.add IntKind.i64 (6 : Int) (IntKind.wrap IntKind.i64 (byteAt b (4 : Nat)))) (ari BinOp.shl IntKind.i64 (IntKind.wrap IntKind.i64 (byteAt b (5 : Nat))) (8 : Int))))) (numB (ByteArray.extract b (6 : Nat) (Int.toNat (ari BinOp.add IntKind.i64 (ari BinOp.add IntKind.i64 (6 : Int) (IntKind.wrap IntKind.i64 (byteAt b (4 : Nat)))) (ari BinOp.shl IntKind.i64 (IntKind.wrap IntKind.i64 (byteAt b (5 : Nat))) (8 : Int)))))) ∧ True)) ∧ (okD (ByteArray.extract b (6 : Nat) (Int.toNat (ari BinOp.add IntKind.i64 (ari BinOp.add IntKind.i64 (6 : Int) (IntKind.wrap IntKind.i64 (byteAt b (4 : Nat)))) (ari BinOp.shl IntKind.i64 (IntKind.wrap IntKind.i64 (byteAt b (5 : Nat))) (8 : Int))))) = false → false = false ∧ (0 : Int) = (0 : Int) ∧ (pre = false ∧ ari BinOp.add IntKind.i64 (ari BinOp.add IntKind.i64 (ari BinOp.add IntKind.i64 (6 : Int) (IntKind.wrap IntKind.i64 (byteAt b (4 : Nat)))) (ari BinOp.shl IntKind.i64 (IntKind.wrap IntKind.i64 (byteAt b (5 : Nat))) (8 : Int))) (4 : Int) = (0 : Int) ∨ pre = true ∧ ok = false ∧ ari BinOp.add IntKind.i64 (ari BinOp.add IntKind.i64 (ari BinOp.add IntKind.i64 (6 : Int) (IntKind.wrap IntKind.i64 (byteAt b (4 : Nat)))) (ari BinOp.shl IntKind.i64 (IntKind.wrap IntKind.i64 (byteAt b (5 : Nat))) (8 : Int))) (4 : Int) = (↑sz : Int)) ∧ True))) ∧ ((decide (((((ByteArray.size b) : Nat) : Int)) < ari BinOp.add IntKind.i64 (ari BinOp.add IntKind.i64 (ari BinOp.add IntKind.i64 (6 : Int) (IntKind.wrap IntKind.i64 (byteAt b (4 : Nat)))) (ari BinOp.shl IntKind.i64 (IntKind.wrap IntKind.i64 (byteAt b (5 : Nat))) (8 : Int))) (4 : Int)) == false) = false → false = false ∧ (0 : Int) = (0 : Int) ∧ (pre = false ∧ (0 : Int) = (0 : Int) ∨ pre = true ∧ ok = false ∧ (0 : Int) = (↑sz : Int)) ∧ True))) ∧ ((decide (((((ByteArray.size b) : Nat) : Int)) < (6 : Int)) == false) = false → false = false ∧ (0 : Int) = (0 : Int) ∧ (pre = false ∧ (0 : Int) = (0 : Int) ∨ pre = true ∧ ok = false ∧ (0 : Int) = (↑sz : Int)) ∧ True)) := by kernel_rfl
end Go.Proofs.Ytapkbgccbmjfaaa
/- Of journal: whether picks may be, and the head, as contracts. No condition. -/
namespace Go.Proofs.Ytapkbgccbmjfaaa
set_option linter.unusedSectionVars false
set_option linter.unusedVariables false
set_option maxRecDepth 100000
theorem conP_ok (g : FuncId) (l : List SV) (m : SMem) (t : Tree) (h : conP g l m = some t) : Con E0 g l m t := by
  unfold conP at h
  split at h
  · exact cfT_ok (b := false) h
  · cases h
theorem EP_ok : EnvOk EP := EnvOk.with E0_ok _ _ conP_ok
theorem fn32p : E0.fn 32 = some Try.f32 := by kernel_rfl
theorem body32p : Try.f32.body = some (Try.f32.body.getD .skip) := by kernel_rfl
theorem mp_good (n : Nat) (cs : Array Value) (ty : TypeId) (hB : BytOk cs 0 n) : Good Try.prog (boolR (decide (n ≤ 4000) && !anyB cs 0 n)) 1 (mpC n) (prM false cs ty) := by
  refine run_vc EP_ok 1000 (mp_run n cs ty _) ?_ (fun _ _ h => h) (fun _ _ h => h.elim)
  refine ⟨fun h => ?_, fun h => ⟨⟨hB, trivial⟩, ?_⟩⟩
  · have h := of_decide_eq_true h
    rw [decide_eq_false (p := n ≤ 4000) (by omega)]; rfl
  · have h := of_decide_eq_false h
    rw [decide_eq_true (p := n ≤ 4000) (by omega)]; rfl
theorem rowB_of {m : SMem} {i : Nat} {cs : Array Value} (h : rowB m i = some cs) : ∃ a ty wr, getB m.bl i = some ⟨a, ty, wr⟩ ∧ ∀ R cs', a.okM R cs' → (SA.pop cs).okM R cs' := by
  unfold rowB at h
  split at h
  · rename_i e
    cases h
    refine ⟨_, _, _, e, fun R cs' h => ?_⟩
    have h : cs' = cs ∧ ∀ v ∈ cs'.toList, v.oneCell' = true := h
    obtain ⟨e1, h2⟩ := h
    subst e1
    exact ⟨by rw [← Array.length_toList, List.take_length], h2⟩
  · rename_i e; cases h; exact ⟨_, _, _, e, fun R cs' h => h⟩
  · cases h
theorem mpT_ok {m : SMem} {x : SV} {t : Tree} (h : mpT m x = some t) : Con E0 32 [x] m t := by
  unfold mpT at h
  split at h
  · rename_i i n c
    split at h
    · rename_i cs hr
      cases h
      obtain ⟨a, ty, wr, hb, hcs⟩ := rowB_of hr
      refine Con.ro E0_ok (l' := [.s (.c (.f (.slice 0 (.l 0) (.o n.den) .any)))]) (ms := prM false cs ty) (A := boolR (decide (n.den ≤ 4000) && !anyB cs 0 n.den)) fn32p body32p rfl (fun _ => i) ?_ ?_ (fun hq => mp_good n.den cs ty (hq _ (by simp))) (fun _ _ _ _ _ => boolR_con)
      · intro j b hj
        obtain ⟨rfl, rfl⟩ := prM_get hj
        exact ⟨Nat.zero_lt_one, rfl, _, hb, rfl, fun R cs' h => hcs R cs' h⟩
      · intro R vs ha
        match vs, ha with
        | [u], ha => exact ⟨sl_pull ha.1 Nat.zero_lt_one rfl rfl, trivial⟩
    · cases h
  · cases h
theorem conH_ok (g : FuncId) (l : List SV) (m : SMem) (t : Tree) (h : conH g l m = some t) : Con E0 g l m t := by
  unfold conH at h
  split at h
  · exact smT_ok h
  · exact decT12_ok h
  · cases h
theorem EH_ok : EnvOk EH := EnvOk.with E0_ok _ _ conH_ok
theorem fn29h : E0.fn 29 = some Try.f29 := by kernel_rfl
theorem body29h : Try.f29.body = some (Try.f29.body.getD .skip) := by kernel_rfl
theorem end_eq (b : ByteArray) : ari .add .i64 (ari .add .i64 6 (IntKind.wrap .i64 (byteAt b 4))) (ari .shl .i64 (IntKind.wrap .i64 (byteAt b 5)) 8) = (endN b : Int) ∧ ari .add .i64 (endN b : Int) 4 = ((endN b + 4 : Nat) : Int) := by
  have r4 := byteAt_range b 4
  have r5 := byteAt_range b 5
  have e : ari .shl .i64 (IntKind.wrap .i64 (byteAt b 5)) 8 = 256 * byteAt b 5 := by
    rw [Go.IntWalk.i64_in (byteAt b 5) (by omega)]
    show IntKind.wrap .i64 (byteAt b 5 * 2 ^ 8) = _
    rw [Go.IntWalk.i64_in _ (by omega)]
    omega
  rw [e, Go.IntWalk.i64_in (byteAt b 4) (by omega)]
  unfold endN
  refine ⟨?_, ?_⟩
  · rw [ari_add, ari_add, Go.IntWalk.i64_in (6 + byteAt b 4) (by omega), Go.IntWalk.i64_in _ (by omega)]
    omega
  · rw [ari_add, Go.IntWalk.i64_in _ (by omega)]
    omega
theorem end_le (b : ByteArray) : 6 ≤ endN b ∧ endN b ≤ 65541 := by
  have r4 := byteAt_range b 4
  have r5 := byteAt_range b 5
  unfold endN
  omega
theorem beq_not {a b : List UInt8} (h : (!(a == b)) = true) : (a == b) = false := by simpa using h
theorem beq_yes {a b : List UInt8} (h : (!(a == b)) = false) : (a == b) = true := by simpa using h
theorem hd_good (b : ByteArray) (hb : b.size ≤ 100000) : Good Try.prog (hA (preH b) (okD (cB b)) (decide ((leftB (cB b)).size ≠ 0)) (byteAt (cB b) 0) (numB (cB b)) (leftB (cB b)).size (endN b + 4) (rowP (cB b) (numB (cB b))) (celA (leftB (cB b)))) 0 (hdC b) M0 := by
  refine run_vc EH_ok 1000 (hd_run b _ _ _ _ _ _ _ _ _) ?_ (fun _ _ h => h) (fun _ _ h => h.elim)
  obtain ⟨e1, e2⟩ := end_eq b
  have el := end_le b
  rw [e1, e2, Int.toNat_natCast, Int.toNat_natCast]
  rw [show ByteArray.mk #[(66 : UInt8), (76 : UInt8), (87 : UInt8), (75 : UInt8)] = magB from rfl, show ByteArray.mk #[] = ByteArray.empty from rfl]
  rw [show b.extract 6 (endN b) = cB b from rfl]
  have hcs : (cB b).size < 140737488355328 := by unfold cB; rw [ext_size]; omega
  have hes : (b.extract 0 (endN b)).size ≤ 100000 := by rw [ext_size]; omega
  have no1 : b.size < 6 → preH b = false := fun h => by unfold preH; rw [decide_eq_false (by omega)]; rfl
  have no2 : ((b.extract 0 4).toList == magB.toList) = false → preH b = false := fun h => by unfold preH; rw [h, Bool.and_false, Bool.false_and]
  have no3 : b.size < endN b + 4 → preH b = false := fun h => by unfold preH; rw [decide_eq_false (p := endN b + 4 ≤ b.size) (by omega), Bool.false_and, Bool.and_false]
  have no4 : ((smA .empty (b.extract 0 (endN b))).toList == (b.extract 0 (endN b + 4)).toList) = false → preH b = false := fun h => by unfold preH; rw [h, Bool.and_false, Bool.and_false]
  have yes : ¬ b.size < 6 → ((b.extract 0 4).toList == magB.toList) = true → ¬ b.size < endN b + 4 → ((smA .empty (b.extract 0 (endN b))).toList == (b.extract 0 (endN b + 4)).toList) = true → preH b = true := fun h1 h2 h3 h4 => by
    unfold preH
    rw [h2, h4, decide_eq_true (p := 6 ≤ b.size) (by omega), decide_eq_true (p := endN b + 4 ≤ b.size) (by omega)]
    rfl
  refine ⟨fun h1 => ?_, fun h1 => ⟨rfl, rfl, .inl ⟨no1 (by have : decide ((b.size : Int) < 6) = true := (by simpa using h1); have := of_decide_eq_true this; omega), rfl⟩, trivial⟩⟩
  have n6 : ¬ b.size < 6 := by have : decide ((b.size : Int) < 6) = false := (by simpa using h1); have := of_decide_eq_false this; omega
  refine ⟨⟨by omega, trivial⟩, fun h2 => ⟨rfl, rfl, .inl ⟨no2 (beq_not h2), rfl⟩, trivial⟩, fun h2 => ⟨⟨⟨by omega, by omega⟩, trivial⟩, ⟨⟨by omega, by omega⟩, trivial⟩, fun h3 => ?_, fun h3 => ⟨rfl, rfl, .inl ⟨no3 (by have : decide ((b.size : Int) < ((endN b + 4 : Nat) : Int)) = true := (by simpa using h3); have := of_decide_eq_true this; omega), rfl⟩, trivial⟩⟩⟩
  have n7 : ¬ b.size < endN b + 4 := by have : decide ((b.size : Int) < ((endN b + 4 : Nat) : Int)) = false := (by simpa using h3); have := of_decide_eq_false this; omega
  refine ⟨⟨by omega, by omega, trivial⟩, ⟨by omega, trivial⟩, ⟨by omega, by omega, trivial⟩, fun h4 => ⟨rfl, rfl, .inl ⟨no4 (beq_not h4), rfl⟩, trivial⟩, fun h4 => ⟨⟨by omega, by omega, by omega, trivial⟩, ⟨hcs, trivial⟩, fun h5 => ⟨fun h6 => ?_, fun h6 => ?_⟩, fun h5 => ⟨rfl, rfl, .inr ⟨yes n6 (beq_yes h2) n7 (beq_yes h4), h5, rfl⟩, trivial⟩⟩⟩
  · have hp := yes n6 (beq_yes h2) n7 (beq_yes h4)
    have h7 : ¬ (leftB (cB b)).size = 0 := by simpa using h6
    have h8 : false = (((leftB (cB b)).size : Int) == 0) := by
      have : ¬ ((leftB (cB b)).size : Int) = 0 := by omega
      exact (beq_eq_false_iff_ne.2 this).symm
    refine ⟨hp, h5, h6, rfl, rfl, rfl, rfl, h8, ?_⟩
    repeat' first | exact trivial | apply And.intro | exact rfl
  · have hp := yes n6 (beq_yes h2) n7 (beq_yes h4)
    refine ⟨hp, h5, h6, rfl, rfl, rfl, ?_⟩
    repeat' first | exact trivial | apply And.intro | exact rfl
theorem hA_yes0 {P : Int} {n k sz : Nat} {rs bs : Array Value} {s : SV} {m' : SMem} (h : hA true true false P n k sz rs bs s m') : ∃ π, retOk 0 π (hres P n sz nilC true) (resM false rs bs) s m' := by
  unfold hA at h
  split at h
  · split at h
    · obtain ⟨_, _, h, _⟩ := h
      rcases h with h | h
      · exact absurd h.1 (by decide)
      · exact absurd h.2.1 (by decide)
    · split at h
      · exact ⟨_, h.2.2.2⟩
      · exact absurd h.2.2.1 (by decide)
      · exact h.elim
    · exact h.elim
  · exact h.elim
theorem hA_yes1 {P : Int} {n k sz : Nat} {rs bs : Array Value} {s : SV} {m' : SMem} (h : hA true true true P n k sz rs bs s m') : ∃ π, retOk 0 π (hres P n sz (.f (.slice 1 (.l 0) (.o k) .any)) false) (resM true rs bs) s m' := by
  unfold hA at h
  split at h
  · split at h
    · obtain ⟨_, _, h, _⟩ := h
      rcases h with h | h
      · exact absurd h.1 (by decide)
      · exact absurd h.2.1 (by decide)
    · split at h
      · exact absurd h.2.2.1 (by decide)
      · exact ⟨_, h.2.2.2⟩
      · exact h.elim
    · exact h.elim
  · exact h.elim
theorem hA_no {pre ok w : Bool} (hno' : (pre && ok) = false) {P : Int} {n k sz : Nat} {rs bs : Array Value} {s : SV} {m' : SMem} {R R' : Ren} {v : Value} (h : hA pre ok w P n k sz rs bs s m') (hv : s.ok R' v) : (hno (.o (if pre then sz else 0 : Nat))).ok R v := by
  unfold hA at h
  split at h
  · rename_i p A B z y
    split at h
    · obtain ⟨h1, h2, h3, h4⟩ := h
      split at h4
      · obtain ⟨vs, rfl, hl⟩ := hv
        match hvs : vs.toList, hl with
        | [a, c, d], hl =>
          refine ⟨vs, rfl, ?_⟩
          rw [hvs]
          obtain ⟨⟨cs, ea, hc⟩, hd, he, _⟩ := hl
          have hd : c = .int .i64 z.den := hd
          have he : d = .bool y.den := he
          rw [h1] at he
          have hz : z.den = ((if pre then sz else 0 : Nat) : Int) := by
            rcases h3 with ⟨hp, hz⟩ | ⟨hp, _, hz⟩
            · rw [hp, hz]; rfl
            · rw [hp, hz]; rfl
          rw [hz] at hd
          refine ⟨⟨cs, ea, ?_⟩, hd, he, trivial⟩
          have hc : All2 (SC.ok R') [.f (.int .i64 p), .f (.lit (.slice none 0 0)), .f (.lit (.slice none 0 0))] cs.toList := hc
          show All2 (SC.ok R) [.f (.int .i64 (.l 0)), nilC, nilC] cs.toList
          match hcs : cs.toList, hc with
          | [x, y', z'], hc =>
            have hx : x = .int .i64 p.den := hc.1
            rw [h2] at hx
            exact ⟨hx, hc.2.1, hc.2.2.1, trivial⟩
      · exact h4.elim
    · split at h
      · rw [h.1, h.2.1] at hno'; exact absurd hno' (by decide)
      · rw [h.1, h.2.1] at hno'; exact absurd hno' (by decide)
      · exact h.elim
    · exact h.elim
  · exact h.elim
theorem hdT_ok {m : SMem} {x : SV} {t : Tree} (h : hdT m x = some t) : Con E0 29 [x] m t := by
  unfold hdT at h
  split at h
  · rename_i b
    cases h
    have no : ∀ (z : SI), (preH b && okD (cB b)) = false → z.den = ((if preH b then endN b + 4 else 0 : Nat) : Int) → Con E0 29 [strV' b] m (needs [b.size ≤ 100000] (.ret (hno z) m)) := fun z hn hz => by
      refine Con.ro E0_ok (l := [strV' b]) (l' := [strV' b]) (ms := M0) (m := m) (q := _) (A := hA (preH b) (okD (cB b)) (decide ((leftB (cB b)).size ≠ 0)) (byteAt (cB b) 0) (numB (cB b)) (leftB (cB b)).size (endN b + 4) (rowP (cB b) (numB (cB b))) (celA (leftB (cB b)))) fn29h body29h rfl (fun i => i) no_blocks (fun R vs ha => strV_ok ha) (fun hq => hd_good b (hq _ (by simp))) (fun s m' R R' v h hv => ?_)
      have hk := hA_no (R := R) hn h hv
      obtain ⟨vs, e, hl⟩ := hk
      refine ⟨vs, e, ?_⟩
      match hvs : vs.toList, hl with
      | [a, c, d], hl =>
        refine ⟨hl.1, ?_, hl.2.2⟩
        have hc : c = .int .i64 ((if preH b then endN b + 4 else 0 : Nat) : Int) := hl.2.1
        rw [← hz] at hc
        exact hc
    refine Con.br (fun hp => Con.br (fun hd => Con.br (fun hw => ?_) fun hw => ?_) fun hd => ?_) fun hp => ?_
    · refine Con.freshG fn29h body29h (noIds_str b) fun hq => Good.retX ((hd_good b (hq _ (by simp))).mono fun s m' h => ?_)
      rw [hp, hd, hw] at h
      exact hA_yes1 h
    · refine Con.freshG fn29h body29h (noIds_str b) fun hq => Good.retX ((hd_good b (hq _ (by simp))).mono fun s m' h => ?_)
      rw [hp, hd, hw] at h
      exact hA_yes0 h
    · exact no _ (by rw [hd, Bool.and_false]) (by rw [hp]; rfl)
    · exact no _ (by rw [hp, Bool.false_and]) (by rw [hp]; rfl)
  · cases h
end Go.Proofs.Ytapkbgccbmjfaaa
/- Of journal: Read's states. No condition. -/
namespace Go.Proofs.Ytapkbgccbmjfaaa
noncomputable section
def jrR (b : ByteArray) : Tree := (gR ER 0 (reC b) M0).pick [true, true, false]
def jrF (b : ByteArray) : List SFr := (jrR b).fsE.map SFr.bare
def told (b : ByteArray) (B : SC) (z : Int) : SA := .ls [.f (.int .i64 (.o (byteAt (cB b) 0))), .f (.slice 1 (.l 0) (.o (numB (cB b))) .any), B, .f (.int .i64 (.o z)), .f (.bool (.l false))]
def intA (a : Int) : SA := .ls [.f (.int .i64 (.o a))]
def jrM0 (b : ByteArray) (a z : Int) : SMem := putAll [(3, told b nilC z), (6, intA a)] (jrR b).memE.bare
def jrM1 (b : ByteArray) (a z : Int) (k : Nat) (vs : Array Value) : SMem :=
  ⟨10, (putAll [(3, told b (.f (.slice 9 (.l 0) (.o k) (.full 1))) z), (6, intA a)] (jrR b).memE.bare).bl.set 9 (some ⟨.pop vs, 5, true⟩), (jrR b).memE.bare.xs⟩
def rdTo (m : SMem) (id : Nat) : Option (SF × Int) := match getB m.bl id with
  | some ⟨.ls [.f _, .f _, .f A, .f (.int .i64 z), .f _], _, _⟩ => some (A, z.den)
  | _ => none
def rdOne (m : SMem) (id : Nat) : Option Int := match getB m.bl id with
  | some ⟨.ls [.f (.int .i64 a)], _, _⟩ => some a.den
  | _ => none
def jrN (b : ByteArray) (Q0 : Int → Int → Prop) (Q1 : Int → Int → Nat → Array Value → Prop) (fs : List SFr) (m : SMem) : Prop := match rdOne m 6, rdTo m 3 with
  | some a, some (.lit (.slice none 0 0), z) => Q0 a z ∧ subOk 0 (idFrom 0 9) (headF (jrF b)) (jrM0 b a z) fs m
  | some a, some (.slice sid _ k _, z) => match rdA m sid with
    | some vs => Q1 a z k.den vs ∧ subOk 0 [(0, 0), (1, 1), (2, 2), (3, 3), (4, 4), (5, 5), (6, 6), (7, 7), (8, 8), (9, sid)] (headF (jrF b)) (jrM1 b a z k.den vs) fs m
    | none => False
  | _, _ => False
def jrN0 (b : ByteArray) (Q0 : Int → Int → Prop) (fs : List SFr) (m : SMem) : Prop := match rdOne m 6, rdTo m 3 with
  | some a, some (_, z) => Q0 a z ∧ subOk 0 (idFrom 0 9) (jrF b) (jrM0 b a z) fs m
  | _, _ => False
def jrS0 (b : ByteArray) (a z : Int) : Tree := stepT ER.go (run ER 1000) 0 (headF (jrF b)) (jrM0 b a z)
def jrS1 (b : ByteArray) (a z : Int) (k : Nat) (vs : Array Value) : Tree := stepT ER.go (run ER 1000) 0 (headF (jrF b)) (jrM1 b a z k vs)
def reV (P : Int) (n : Nat) (B : SC) (z : Int) (tn : Bool) : SV := .tup [.agg (.ls [.f (.int .i64 (.o P)), .f (.slice 0 (.l 0) (.o n) .any), B, .f (.int .i64 (.o z)), .f (.bool (.o tn))]), .c (.f (.int .i64 (.l 0)))]
def reno : SV := .tup [.agg (.ls [.f (.int .i64 (.l 0)), nilC, nilC, .f (.int .i64 (.l 0)), .f (.bool (.l false))]), .c (.f (.int .i64 (.l 3)))]
def reA (ok w : Bool) (P : Int) (n k : Nat) (z : Int) (tn : Bool) (rs vs : Array Value) (s : SV) (m : SMem) : Prop := match s with
  | .tup [.agg (.ls [.f (.int .i64 p), .f A, .f B, .f (.int .i64 y), .f (.bool t)]), .c (.f (.int .i64 e))] => match A with
    | .lit (.slice none 0 0) => ok = false ∧ p.den = 0 ∧ e.den = 3 ∧ y.den = 0 ∧ t.den = false ∧ (match B with | .lit (.slice none 0 0) => True | _ => False)
    | .slice sid _ _ _ => match B with
      | .lit (.slice none 0 0) => ok = true ∧ w = false ∧ retOk 0 [(0, sid)] (reV P n nilC z tn) (resM false rs vs) s m
      | .slice tid _ _ _ => ok = true ∧ w = true ∧ retOk 0 [(0, sid), (1, tid)] (reV P n (.f (.slice 1 (.l 0) (.o k) .any)) z tn) (resM true rs vs) s m
      | _ => False
    | _ => False
  | _ => False
def jrT0 : List SIt := headTd (jrF .empty)
def jrH0 : List SIt := headTd (headF (jrF .empty))
def jrT1 : List SIt := headTd ((jrF .empty).drop 1)
def getLp : List XB → LoopP
  | ⟨_, .loop st pe fn _ ps ag bd _⟩ :: _ => ⟨st, pe, fn, ps, ag, bd⟩
  | _ :: l => getLp l
  | [] => ⟨.ready, none, 0, #[], .skip, .skip⟩
def jrLp : LoopP := getLp (jrM0 .empty 0 0).xs
end
end Go.Proofs.Ytapkbgccbmjfaaa
