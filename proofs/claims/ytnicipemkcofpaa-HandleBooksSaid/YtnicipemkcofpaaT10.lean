/- Of bailiwicklaw03 (handle): what Issued answers, for every book. Conditions: generations at most the last one. -/
import Derived.Test.YtnicipemkcofpaaT9
namespace Go.Proofs.Ytnicipemkcofpaa
open Go.RowKit

/-- The good handles of the first n slots, by slots. -/
def issuedOf (f g : Nat → Nat) (n : Nat) : List Nat := ((List.range n).filter fun i => decide (g i = 1)).map fun i => 256 * f i + i + 1
theorem issuedOf_succ (f g : Nat → Nat) (n : Nat) : issuedOf f g (n + 1) = issuedOf f g n ++ (if g n = 1 then [256 * f n + n + 1] else []) := by
  unfold issuedOf
  rw [List.range_succ, List.filter_append, List.map_append]
  congr 1
  by_cases h : g n = 1 <;> simp [h]
theorem issuedOf_len (f g : Nat → Nat) (n : Nat) : (issuedOf f g n).length ≤ n := by
  unfold issuedOf
  have := List.length_filter_le (fun i => decide (g i = 1)) (List.range n)
  simpa using this

theorem info41 : (Try.prog.info? 41).map (fun i => (i.zero, i.size, i.bytes)) = some (some (.int .u32 0), 1, 4) := by kernel_rfl

theorem own_below {w w' : World} {base : Nat} {e : TypeId} {size : Nat} {v : Value} {n : Nat} {xs : List Value} (h : w.ownsRow base e size v n xs) (hb : Below w.heap.size w w') : w'.ownsRow base e size v n xs := by
  obtain ⟨h1, h2⟩ := h
  refine ⟨h1, ?_⟩
  rcases h2 with h2 | ⟨g, cap, cur, hv, hg, hh, h3⟩
  · exact .inl h2
  · exact .inr ⟨g, cap, cur, hv, hg, (hb.block g (Array.getElem?_eq_some_iff.1 hh).1).trans hh, h3⟩
theorem Blk.grown {w w' : World} {g : Nat} {t : TypeId} {cs : Array Value} {row : Option Nat} (h : Blk w g t cs) (hb : w.grownBy w' row) (hg : some g ≠ row) : Blk w' g t cs := (hb.block g h.lt hg).trans h
theorem own_base {w : World} {base base' : Nat} {e : TypeId} {size : Nat} {v : Value} {n : Nat} {xs : List Value} (h : w.ownsRow base e size v n xs) (hb : base' ≤ base) : w.ownsRow base' e size v n xs := by
  obtain ⟨h1, h2⟩ := h
  refine ⟨h1, ?_⟩
  rcases h2 with h2 | ⟨g, cap, cur, hv, hg, hh, h3⟩
  · exact .inl h2
  · exact .inr ⟨g, cap, cur, hv, by omega, hh, h3⟩
/-- Handles as cells. -/
def u32s (l : List Nat) : List Value := l.map fun (n : Nat) => Value.int .u32 (n : Int)
/-- A list of handles, in new memory. -/
def Row (w : World) (base : Nat) (l : List Nat) (e : Ending) : Prop := ∃ v, e = .returned v ∧ w.ownsRow base 41 1 v l.length (u32s l)

set_option maxHeartbeats 2000000 in
theorem issued_any (cs : Array Value) (f g : Nat → Nat) (hcs : cs = bk f g) (hf : ∀ j, f j ≤ 8388607) (w : World) :
    Calls Try.prog 18 #[.agg cs] w fun e w' => Row w' w.heap.size (issuedOf f g 32) e ∧ Below w.heap.size w w' := by
  have HI := hide (show (Try.prog.info? 30).map (·.size) = some cs.size by rw [hcs, bk_size]; exact info30)
  have HF := hide hf
  have HK := hide (show ∀ i, i < 32 → cs[i * 2 + 1]? = some (.int .u8 (g i)) from fun i hi => by rw [hcs]; exact bk_kind f g hi)
  have HA := hide (show ∀ i, i < 32 → cs[i * 2]? = some (.int .u32 (f i)) from fun i hi => by rw [hcs]; exact bk_age f g hi)
  obtain ⟨i0, hi0, hz0, hz1, hz2⟩ := info_parts info41
  have G0 := hide hi0
  have G1 := hide hz0
  have G2 := hide hz1
  have G3 := hide hz2
  clear hcs hf hi0 hz0 hz1 hz2
  go_enter Try.func18, Try.ntmps18
  go_wp2
  go_loopw [3, 7] (fun v i wr => ∃ k : Nat, k ≤ 32 ∧ i = .int .i64 k ∧ Below w.heap.size w wr ∧ Blk wr w.heap.size 30 cs ∧ wr.ownsRow (w.heap.size + 1) 41 1 v (issuedOf f g k).length (u32s (issuedOf f g k))) (fun _ i _ => 32 - (intOf i).toNat)
  case atStart =>
    refine ⟨0, by omega, rfl, (Below.refl _ _).alloc (Nat.le_refl _) _, Blk.new w 30 cs, ?_⟩
    exact ⟨rfl, .inl ⟨rfl, rfl⟩⟩
  case round =>
    obtain ⟨k, hk, rfl, hB, hblk, hown⟩ := hrel
    have HB := hide hB
    have HBL := hide hblk
    have HO := hide hown
    clear hB hblk hown
    by_cases hlt : k < 32
    · by_cases hg : g k = 1
      · have HG := hide hg
        have h1 := at_yes cs k (f k) hlt (HF.out k) (by rw [HK.out k hlt, hg]; rfl) (HA.out k hlt)
        have HY := hide h1
        have hl := issuedOf_len f g k
        clear hg h1
        go_wp2_with (first | (refine wpList_load_rowW rfl 30 (.tmp 1) rfl w.heap.size rfl 30 cs _ HBL.out Try.underlying30 rfl HI.out ?_) | (go_at_call 17; refine (HY.out _).mono ?_; rintro e w1 ⟨rfl, hb⟩; have HB1 := hide (HB.out.trans (hb.mono HB.out.size)); have HBL1 := hide (HBL.out.below hb HBL.out.lt); have HO1 := hide (own_below HO.out hb); clear hb) | (at_builtin; refine wpList_append_own _ rfl _ _ 56 rfl (w.heap.size + 1) 41 i0 (.int .u32 0) 1 4 Try.underlying56 G0.out G1.out G2.out G3.out rfl (by decide) _ _ _ rfl (HO1.out.alloc _) ⟨w1.heap.size, 0, none⟩ 1 1 [.int .u32 ((256 * f k + k + 1 : Nat) : Int)] rfl rfl (cell_one_new _ _ _) (by simp [Value.oneCell']) (by simp only [maxLen]; omega) (by omega) (by have := HB1.out.size; have := HBL1.out.lt; simp; omega) ?_; intro v2 w2 hown2 hgrow2 _))
        have e := issuedOf_succ f g k
        rw [if_pos HG.out] at e
        have E := hide e
        clear e
        have hlt1 := HO1.out.lt
        have HL := hide hlt1
        clear hlt1
        have K1 := hide ((HB1.out.alloc HB1.out.size _).grown hgrow2 (by have := HB1.out.size; simp; omega) (fun q hq => by have := (HL.out q hq).1; omega))
        have K2 := hide ((HBL1.out.alloc _).grown hgrow2 (fun hq => by have := (HL.out _ hq.symm).1; omega))
        have hown3 : w2.ownsRow (w.heap.size + 1) 41 1 v2 (issuedOf f g (k + 1)).length (u32s (issuedOf f g (k + 1))) := by
          rw [E.out, List.length_append, u32s, List.map_append]
          exact hown2
        have K3 := hide hown3
        clear hgrow2 hown2 hown3
        go_roundw
        case rel => exact ⟨k + 1, by omega, by go_num, K1.out, K2.out, K3.out⟩
        case measure => simp [intOf]; omega
      · have hk1 : ((g k : Int) != 1) = true := by simp; omega
        have h1 := at_no cs k (g k) hlt hk1 (HK.out k hlt)
        have HY := hide h1
        have HG := hide hg
        clear hg h1 hk1
        go_wp2_with (first | (refine wpList_load_rowW rfl 30 (.tmp 1) rfl w.heap.size rfl 30 cs _ HBL.out Try.underlying30 rfl HI.out ?_) | (go_at_call 17; refine (HY.out _).mono ?_; rintro e w1 ⟨rfl, hb⟩))
        have e := issuedOf_succ f g k
        rw [if_neg HG.out, List.append_nil] at e
        have E := hide e
        clear e
        go_roundw
        case rel => exact ⟨k + 1, by omega, by go_num, HB.out.trans (hb.mono HB.out.size), HBL.out.below hb HBL.out.lt, by rw [E.out]; exact own_below HO.out hb⟩
        case measure => simp [intOf]; omega
    · go_wp2
      obtain rfl : k = 32 := by omega
      go_ret
      exact ⟨⟨_, rfl, own_base HO.out (by omega)⟩, HB.out⟩
end Go.Proofs.Ytnicipemkcofpaa
