/- Of bailiwicklaw03 (handle): the law's comparison of a book with the document's. Conditions: generations at most the last one. -/
import Derived.Test.YtnicipemkcofpaaT10
import Derived.Deep.Cut
namespace Go.Proofs.Ytnicipemkcofpaa
open Go.RowKit

/-- A list of handles, told by its cells. -/
def RowAt (w : World) (base : Nat) (A : Option Addr) (l : List Nat) : Prop := ∀ k, k < l.length → ∃ g, A = some ⟨g, 0, none⟩ ∧ base ≤ g ∧ g < w.heap.size ∧ ∃ x, l[k]? = some x ∧ w.cell? ⟨g, k, none⟩ = some (.int .u32 x)
theorem RowAt.below {w w' : World} {base : Nat} {A : Option Addr} {l : List Nat} (h : RowAt w base A l) (hb : Below w.heap.size w w') : RowAt w' base A l := fun k hk => by
  obtain ⟨g, h1, h2, h3, x, h4, h5⟩ := h k hk
  exact ⟨g, h1, h2, Nat.lt_of_lt_of_le h3 hb.size, x, h4, (hb.cell (p := ⟨g, k, none⟩) h3).trans h5⟩
theorem row_form {w : World} {base : Nat} {l : List Nat} {v : Value} (h : w.ownsRow base 41 1 v l.length (u32s l)) : ∃ A cap, v = .slice A l.length cap ∧ RowAt w base A l := by
  rcases h.2 with ⟨h1, h2⟩ | ⟨g, cap, cur, hv, hg, hh, h3⟩
  · refine ⟨none, 0, by rw [h1, h2], fun k hk => by omega⟩
  · refine ⟨some ⟨g, 0, none⟩, cap, hv, fun k hk => ⟨g, rfl, hg, (Array.getElem?_eq_some_iff.1 hh).1, l[k], List.getElem?_eq_getElem hk, ?_⟩⟩
    subst hv
    have := h.cellAt k (by omega)
    rw [this, u32s, List.getElem?_map, List.getElem?_eq_getElem hk]
    rfl

theorem issued_at (cs : Array Value) (f g : Nat → Nat) (hcs : cs = bk f g) (hf : ∀ j, f j ≤ 8388607) (w : World) :
    Calls Try.prog 18 #[.agg cs] w fun e w' => ∃ A cap, e = .returned (.slice A (issuedOf f g 32).length cap) ∧ RowAt w' w.heap.size A (issuedOf f g 32) ∧ Below w.heap.size w w' :=
  (issued_any cs f g hcs hf w).mono fun e w' ⟨⟨v, he, hv⟩, hb⟩ => by
    obtain ⟨A, cap, h1, h2⟩ := row_form hv
    exact ⟨A, cap, by rw [he, h1], h2, hb⟩

theorem issuedOf_pre (f g : Nat → Nat) {n m : Nat} (h : n ≤ m) : ∃ r, issuedOf f g m = issuedOf f g n ++ r := by
  induction m with
  | zero => obtain rfl : n = 0 := by omega
            exact ⟨[], by simp⟩
  | succ m ih =>
    by_cases e : n ≤ m
    · obtain ⟨r, hr⟩ := ih e
      exact ⟨_, by rw [issuedOf_succ, hr, List.append_assoc]⟩
    · obtain rfl : n = m + 1 := by omega
      exact ⟨[], by simp⟩
theorem issuedOf_at (f g : Nat → Nat) {k : Nat} (hk : k < 32) (hg : g k = 1) : (issuedOf f g k).length < (issuedOf f g 32).length ∧ (issuedOf f g 32)[(issuedOf f g k).length]? = some (256 * f k + k + 1) := by
  obtain ⟨r, hr⟩ := issuedOf_pre f g (show k + 1 ≤ 32 by omega)
  rw [issuedOf_succ f g k, if_pos hg] at hr
  rw [hr]
  constructor
  · simp only [List.length_append, List.length_cons, List.length_nil]; omega
  · rw [List.append_assoc, List.getElem?_append_right (Nat.le_refl _)]
    simp
theorem rslot_of {f g : Nat → Nat} {i : Nat} (hi : i < 32) (hg : g i = 1) : rslot f g ((256 * f i + i + 1 : Nat) : Int) 32 = some i := by
  cases hr : rslot f g ((256 * f i + i + 1 : Nat) : Int) 32 with
  | none => exact absurd ⟨hg, by omega⟩ (rslot_none hr i hi)
  | some j =>
    obtain ⟨h1, h2, h3⟩ := rslot_some hr
    have : j = i := by omega
    rw [this]

theorem of_any' (cs : Array Value) (x i : Nat) (hi : i < 32) (hx : x ≤ 8388607) (hc : cs[i]? = some (.int .i64 x)) (w : World) :
    Calls Try.prog 8 #[.agg cs, .int .i64 i] w fun e w' => e = .returned (.int .i64 (256 * x + i + 1 : Nat)) ∧ Below w.heap.size w w' :=
  (of_any cs x i hi hx hc w).mono fun _ _ ⟨h1, h2⟩ => ⟨by rw [h1, show i + 256 * x + 1 = 256 * x + i + 1 by omega], h2⟩

set_option maxHeartbeats 4000000 in
theorem same_any (cs ds : Array Value) (f g : Nat → Nat) (hcs : cs = bk f g) (hds : ds = rk f g) (hf : ∀ j, f j ≤ 8388607) (w : World) :
    Calls Try.prog 14 #[.agg cs, .agg ds] w fun e w' => e = .returned (.bool true) ∧ Below w.heap.size w w' := by
  have HI := hide (show (Try.prog.info? 30).map (·.size) = some cs.size by rw [hcs, bk_size]; exact info30)
  have HJ := hide (show (Try.prog.info? 34).map (·.size) = some ds.size by rw [hds, rk_size]; exact info34)
  have HF := hide hf
  have HK := hide (show ∀ i, i < 32 → cs[i * 2 + 1]? = some (.int .u8 (g i)) from fun i hi => by rw [hcs]; exact bk_kind f g hi)
  have HA := hide (show ∀ i, i < 32 → cs[i * 2]? = some (.int .u32 (f i)) from fun i hi => by rw [hcs]; exact bk_age f g hi)
  have HDA := hide (show ∀ i, i < 32 → ds[i]? = some (.int .i64 (f i)) from fun i hi => by rw [hds]; exact rk_gen f g hi)
  have HDK := hide (show ∀ i, i < 32 → ds[32 + i]? = some (.int .i64 (g i)) from fun i hi => by rw [hds]; exact rk_is f g hi)
  have HIS := hide (issued_at cs f g hcs hf)
  have HGO := hide (show ∀ (i : Nat), i < 32 → g i = 1 → ∀ w, Calls Try.prog 15 #[.agg cs, .int .u32 (256 * (f i : Int) + i + 1)] w fun e w' => e = .returned (.bool true) ∧ Below w.heap.size w w' from fun i hi hg w => by
    have q := good_t cs f g _ i hcs hf (rslot_of hi hg) w
    rw [show (((256 * f i + i + 1 : Nat)) : Int) = 256 * (f i : Int) + i + 1 by omega] at q
    exact q)
  have B0 := hide (show ∀ o, Blk ((w.alloc (.cells cs 30)).alloc o) w.heap.size 30 cs from fun o => (Blk.new w 30 cs).alloc o)
  have B1 := hide (show Blk ((w.alloc (.cells cs 30)).alloc (.cells ds 34)) (w.heap.size + 1) 34 ds from heap_alloc2_new w _ _)
  have hB := hide (show Below w.heap.size w ((w.alloc (.cells cs 30)).alloc (.cells ds 34)) from ((Below.refl _ _).alloc (Nat.le_refl _) _).alloc (by simp) _)
  clear hcs hds hf
  go_enter Try.func14, Try.ntmps14
  go_wp2_with (first
    | (refine wpList_load_rowW rfl 30 (.tmp 2) rfl w.heap.size rfl 30 cs _ (B0.out _) Try.underlying30 rfl HI.out ?_)
    | (go_at_call 18; refine (HIS.out _).mono ?_; rintro e w1 ⟨A, cap, rfl, hrow, hb⟩; have C0 := hide ((B0.out _).below hb (by simp only [World.size_alloc]; omega)); have C1 := hide (B1.out.below hb (by simp only [World.size_alloc]; omega)); have hC := hide (hB.out.trans (hb.mono (by simp only [World.size_alloc]; omega))); have R0 := hide hrow; clear hb hrow))
  go_loopw [6, 7] (fun n i wr => ∃ k : Nat, k ≤ 32 ∧ i = .int .i64 k ∧ n = .int .i64 (issuedOf f g k).length ∧ Below w.heap.size w wr ∧ Blk wr w.heap.size 30 cs ∧ Blk wr (w.heap.size + 1) 34 ds ∧ RowAt wr 0 A (issuedOf f g 32)) (fun _ i _ => 32 - (intOf i).toNat)
  case atStart => exact ⟨0, by omega, rfl, rfl, hC.out, C0.out, C1.out, fun k hk => by obtain ⟨g, h1, h2, h3⟩ := R0.out k hk; exact ⟨g, h1, Nat.zero_le _, h3⟩⟩
  case round =>
    obtain ⟨k, hk, rfl, rfl, hB1, hblk, hblk2, hrow⟩ := hrel
    have HB := hide hB1
    have HBL := hide hblk
    have HBD := hide hblk2
    have HR := hide hrow
    clear hB1 hblk hblk2 hrow C0 C1 hC R0
    by_cases hlt : k < 32
    · have hl1 := issuedOf_len f g k
      have hl2 := issuedOf_len f g 32
      by_cases hg : g k = 1
      · obtain ⟨h1, h2⟩ := issuedOf_at f g hlt hg
        obtain ⟨gb, rfl, _, hgb, x, hx, hcell⟩ := HR.out _ h1
        obtain rfl : x = 256 * f k + k + 1 := Option.some.inj (hx.symm.trans h2)
        have hy := at_yes cs k (f k) hlt (HF.out k) (by rw [HK.out k hlt, hg]; rfl) (HA.out k hlt)
        have HY := hide hy
        have HC := hide hcell
        have HG := hide hg
        have e := issuedOf_succ f g k
        rw [if_pos hg] at e
        have E := hide e
        have hfk := HF.out k
        have hd : decide ((issuedOf f g 32).length ≤ (issuedOf f g k).length) = false := by simp; omega
        clear hy hcell hx h2 hg e
        go_upto_region 7 with (first
          | (go_at_call 17; refine (HY.out _).mono ?_; rintro e w2 ⟨rfl, hb⟩; have HB2 := hide (HB.out.trans (hb.mono HB.out.size)); have HBL2 := hide (HBL.out.below hb HBL.out.lt); have HBD2 := hide (HBD.out.below hb HBD.out.lt); have HR2 := hide (HR.out.below hb); have HC2 := hide ((hb.cell (p := ⟨gb, (issuedOf f g k).length, none⟩) hgb).trans HC.out); have hsz2 := Nat.lt_of_lt_of_le hgb hb.size; have cD := (HBD2.out.cell (32 + k)).trans ((HDK.out k hlt).trans (by rw [HG.out])); clear hb)
          | (refine wpList_load_rowW rfl 30 (.tmp 2) rfl w.heap.size rfl 30 cs _ HBL.out Try.underlying30 rfl HI.out ?_))
        go_upto_region 10 with (first
          | (refine wpList_load_rowW rfl 34 (.tmp 3) rfl (w.heap.size + 1) rfl 34 ds _ HBD2.out Try.underlying34 rfl HJ.out ?_)
          | (go_at_call 8; refine (of_any' ds (f k) k hlt (HF.out k) (HDA.out k hlt) _).mono ?_; rintro e w3 ⟨rfl, hb⟩; have HB3 := hide (HB2.out.trans (hb.mono HB2.out.size)); have HBL3 := hide (HBL2.out.below hb HBL2.out.lt); have HBD3 := hide (HBD2.out.below hb HBD2.out.lt); have HR3 := hide (HR2.out.below hb); have hc3 := (hb.cell (p := ⟨gb, (issuedOf f g k).length, none⟩) hsz2).trans HC2.out; clear hb))
        go_wp2_with (first
          | (refine wpList_load_rowW rfl 30 (.tmp 2) rfl w.heap.size rfl 30 cs _ HBL3.out Try.underlying30 rfl HI.out ?_)
          | (go_at_call 15; refine (HGO.out k hlt HG.out _).mono ?_; rintro e w4 ⟨rfl, hb⟩; have HB4 := hide (HB3.out.trans (hb.mono HB3.out.size)); have HBL4 := hide (HBL3.out.below hb HBL3.out.lt); have HBD4 := hide (HBD3.out.below hb HBD3.out.lt); have HR4 := hide (HR3.out.below hb); clear hb))
        go_roundw
        case rel => exact ⟨k + 1, by omega, by go_num, by rw [E.out, List.length_append]; go_num, HB4.out, HBL4.out, HBD4.out, HR4.out⟩
        case measure => simp [intOf]; omega
      · have hk1 : ((g k : Int) != 1) = true := by simp; omega
        have hk2 : ((g k : Int) == 1) = false := by simp; omega
        have hy := at_no cs k (g k) hlt hk1 (HK.out k hlt)
        have HY := hide hy
        have e := issuedOf_succ f g k
        rw [if_neg hg, List.append_nil] at e
        have E := hide e
        have HG := hide hg
        clear hy e hg hk1
        go_wp2_with (first
          | (go_at_call 17; refine (HY.out _).mono ?_; rintro e w2 ⟨rfl, hb⟩; have HB2 := hide (HB.out.trans (hb.mono HB.out.size)); have HBL2 := hide (HBL.out.below hb HBL.out.lt); have HBD2 := hide (HBD.out.below hb HBD.out.lt); have HR2 := hide (HR.out.below hb); have cD := (HBD2.out.cell (32 + k)).trans (HDK.out k hlt); clear hb)
          | (refine wpList_load_rowW rfl 30 (.tmp 2) rfl w.heap.size rfl 30 cs _ HBL.out Try.underlying30 rfl HI.out ?_))
        go_roundw
        case rel => exact ⟨k + 1, by omega, by go_num, by rw [E.out], HB2.out, HBL2.out, HBD2.out, HR2.out⟩
        case measure => simp [intOf]; omega
    · have tok1 : Hid True := trivial
      obtain rfl : k = 32 := by omega
      go_wp2_with (first
        | (refine wpList_load_rowW rfl 30 (.tmp 2) rfl w.heap.size rfl 30 cs _ HBL3.out Try.underlying30 rfl HI.out ?_)
        | (refine wpList_load_rowW rfl 30 (.tmp 2) rfl w.heap.size rfl 30 cs _ HBL.out Try.underlying30 rfl HI.out ?_)
        | (go_at_call 17; have t1 := tok1.out; refine (at_out _ _ (by omega) _).mono ?_; rintro e w3 ⟨rfl, hb⟩; have HB3 := hide (HB.out.trans (hb.mono HB.out.size)); have HBL3 := hide (HBL.out.below hb HBL.out.lt); clear hb t1 tok1)
        | (go_at_call 17; refine (at_out _ _ (by omega) _).mono ?_; rintro e w4 ⟨rfl, hb⟩; have HB4 := hide (HB3.out.trans (hb.mono HB3.out.size)); clear hb))
      go_ret
      exact ⟨rfl, HB4.out⟩
end Go.Proofs.Ytnicipemkcofpaa
