/- Of bailiwicklaw03 (handle): what the document's Issue answers, for every book. Conditions: generations at most the last one. -/
import Derived.Test.YtnicipemkcofpaaT3
import Derived.Deep.RegionHeld3
namespace Go.Proofs.Ytnicipemkcofpaa
open Go.RowKit

/-- What the document's Issue answers. -/
def rissueR (f g : Nat → Nat) : Value := match freeAt g 32 with
  | some i => .tuple #[.agg (rk f (upd g i 1)), .int .i64 (i + 256 * f i + 1 : Nat)]
  | none => .tuple #[.agg (rk f g), .int .i64 0]
theorem rissueR_hit {f g : Nat → Nat} {k : Nat} (hk : k < 32) (hr : freeAt g k = none) (h1 : g k = 0) : rissueR f g = .tuple #[.agg (rk f (upd g k 1)), .int .i64 (k + 256 * f k + 1 : Nat)] := by
  unfold rissueR; rw [freeAt_hit hk hr h1]
theorem rissueR_end {f g : Nat → Nat} (hr : freeAt g 32 = none) : rissueR f g = .tuple #[.agg (rk f g), .int .i64 0] := by
  unfold rissueR; rw [hr]

theorem Blk.range {w : World} {g : Nat} {t : TypeId} {cs : Array Value} (h : Blk w g t cs) : w.rangeAt g 0 cs.toList := fun j v hv => by
  rw [Nat.zero_add, h.cell j]; simpa using hv

set_option maxHeartbeats 2000000 in
theorem rissue_any (cs : Array Value) (f g : Nat → Nat) (hcs : cs = rk f g) (hf : ∀ i, f i ≤ 8388607) (w : World) :
    Calls Try.prog 12 #[.agg cs] w fun e w' => e = .returned (rissueR f g) ∧ Below w.heap.size w w' := by
  have HF := hide hf
  have hk : ∀ i, i < 32 → cs[32 + i]? = some (.int .i64 (g i)) := fun i hi => by rw [hcs]; exact rk_is f g hi
  have hsz : (Try.prog.info? 34).map (·.size) = some cs.size := by rw [hcs, rk_size]; exact info34
  have HK := hide hk
  have HS := hide hsz
  have HC := hide hcs
  clear hcs hf hk hsz
  go_enter Try.func12, Try.ntmps12
  go_wp2
  go_loopw [4] (fun i wr => ∃ k : Nat, k ≤ 32 ∧ i = .int .i64 k ∧ freeAt g k = none ∧ Below w.heap.size w wr ∧ Blk wr w.heap.size 34 cs ∧ ∃ zs : Array Value, zs.size = 64 ∧ Blk wr (w.heap.size + 1) 34 zs) (fun i _ => 32 - (intOf i).toNat)
  case atStart =>
    refine ⟨0, by omega, rfl, rfl, ((Below.refl _ _).alloc (Nat.le_refl _) _).alloc (by simp) _, (Blk.new w 34 cs).alloc _, _, ?_, heap_alloc2_new w _ _⟩
    rfl
  case round =>
    obtain ⟨k, hk, rfl, hr, hB, hblk, zs, hzs, hzb⟩ := hrel
    have HR := hide hr
    have HB := hide hB
    have HBL := hide hblk
    have HZS := hide hzs
    have HZB := hide hzb
    clear hr hB hblk hzs hzb
    by_cases hlt : k < 32
    · have c1 := HBL.out.cell (32 + k)
      rw [HK.out k hlt] at c1
      by_cases hg1 : g k = 0
      · have fz := HBL.out.frozen (32 + k)
        have hg2 : ((g k : Int) == 0) = true := by simp; omega
        have HG := hide hg1
        clear hg1
        go_wp2
        have B1 := HBL.out.set_ (32 + k) (.int .i64 1)
        have Z1 := HZB.out.far (p := ⟨w.heap.size, 32 + k, none⟩) (by simp) (.int .i64 1)
        have hW1 := HB.out.setCell (p := ⟨w.heap.size, 32 + k, none⟩) (Nat.le_refl _) (.int .i64 1)
        generalize wr.setCell ⟨w.heap.size, 32 + k, none⟩ (.int .i64 1) = W1 at B1 Z1 hW1 ⊢
        rw [HC.out, show (Value.int .i64 1) = .int .i64 ((1 : Nat) : Int) from rfl, rk_seti f g 1 hlt] at B1
        have e1 : (rk f (upd g k 1))[k]? = some (.int .i64 (f k)) := rk_gen _ _ hlt
        have hi1 : (Try.prog.info? 34).map (·.size) = some (rk f (upd g k 1)).size := by rw [rk_size]; exact info34
        have h1 := rk_one f (upd g k 1)
        have hz1 : zs.size = (rk f (upd g k 1)).size := by rw [rk_size]; exact HZS.out
        have hR := rissueR_hit (f := f) hlt HR.out HG.out
        generalize rk f (upd g k 1) = cs1 at B1 e1 hi1 h1 hz1 hR
        have HI := hide hi1
        have H1 := hide h1
        have HZ1 := hide hz1
        have HR1 := hide hR
        have HB1 := hide B1
        have HZB1 := hide Z1
        have HW1 := hide hW1
        have HE1 := hide e1
        clear hi1 h1 hz1 hR B1 Z1 hW1 e1 c1 fz hg2
        have hu := Try.underlying34
        have hL : (Try.prog.info? 34).map (·.size) = some cs1.toList.length := HI.out
        have hS0 : W1.drew.rangeAt w.heap.size 0 cs1.toList ∧ True := ⟨HB1.out.drew.range, trivial⟩
        have S1 : W1.drew.rangeAt w.heap.size 0 cs1.toList := HB1.out.drew.range
        refine wp_region_noPanic ?_
        refine wp_region_held_drew (S := fun w' => w'.rangeAt w.heap.size 0 cs1.toList) (by kernel_rfl) S1 (fun _ => ?_)
        refine wpAnyH_take (i := 0) (v := .agg cs1) rfl (by kernel_rfl) (by kernel_rfl) (by kernel_rfl) (fun _ _ _ h => h) (yieldsIf_load_mid (by rfl) 34 (.tmp 1) rfl w.heap.size 0 rfl cs1.toList _ (fun _ h => h) hu rfl hL) S1 ?_
        refine wpAnyH_take (i := 1) (v := .agg cs1) rfl (by kernel_rfl) (by kernel_rfl) (by kernel_rfl) (fun _ _ _ h => h) (yieldsIf_load_mid (by rfl) 34 (.tmp 1) rfl w.heap.size 0 rfl cs1.toList _ (fun _ h => h) hu rfl hL) S1 ?_
        refine wpAnyH_take (i := 2) (v := .int .i64 k) rfl (by kernel_rfl) (by kernel_rfl) (by kernel_rfl) (fun _ _ _ h => h) (Or.inl ⟨by rfl, by intro w' _; go_simp⟩) S1 ?_
        try simp only [Act.put, List.setIfInBounds_toArray, List.set_cons_zero, List.set_cons_succ]
        refine wpAnyH_ready (rs := [3]) (by kernel_rfl) (by simp) ?_
        refine AllReadyH.cons rfl (fun K hK => ?_) AllReadyH.nil
        go_simp
        refine (of_any cs1 (f k) k hlt (HF.out k) HE1.out _).mono ?_
        rintro e w' ⟨rfl, hb'⟩
        have HB2 := hide (HB1.out.drew.below hb' HB1.out.lt)
        have HZ2 := hide (HZB1.out.drew.below hb' HZB1.out.lt)
        have HW2 := hide (HW1.out.drew.trans (hb'.mono HW1.out.size))
        clear hb'
        refine hK.out _ _ HB2.out.range (fun _ => ?_)
        clear hK K
        try simp only [Act.put, List.setIfInBounds_toArray, List.set_cons_zero, List.set_cons_succ]
        refine wpAnyH_ready (rs := [4]) (by kernel_rfl) (by simp) ?_
        refine AllReadyH.cons rfl (fun K hK => ?_) AllReadyH.nil
        rw [if_pos (by rfl)]
        refine wp_store_row 34 (.tmp 2) (.tmp 17) rfl (w.heap.size + 1) cs1 rfl rfl 34 zs HZ2.out HI.out HZ1.out H1.out ?_
        refine hK.out _ _ (HB2.out.rowFar (by omega) cs1).range (fun _ => ?_)
        clear hK K
        try simp only [Act.put, List.setIfInBounds_toArray, List.set_cons_zero, List.set_cons_succ]
        refine wpAnyH_ready (rs := [5]) (by kernel_rfl) (by simp) ?_
        refine AllReadyH.cons rfl (fun K hK => ?_) AllReadyH.nil
        go_simp
        refine hK.out _ _ (HB2.out.rowFar (by omega) cs1).range (fun _ => ?_)
        clear hK K
        try simp only [Act.put, List.setIfInBounds_toArray, List.set_cons_zero, List.set_cons_succ]
        refine wpAnyH_done (by kernel_rfl) ?_ _
        refine NoPanic.normal ?_
        go_wp2
        refine bodyPost_ret (results_cell2 rfl _ _ (w.heap.size + 1) 34 cs1 _ rfl (HZ2.out.row_ cs1) Try.underlying34 rfl HI.out) rfl ?_
        refine ⟨?_, below_row HW2.out (by omega) _⟩
        rw [HR1.out]
        rfl
      · have hg2 : ((g k : Int) == 0) = false := by simp; omega
        have HG := hide hg1
        clear hg1
        go_wp2
        go_roundw
        case rel => exact ⟨k + 1, by omega, by go_num, freeAt_miss HR.out HG.out, HB.out, HBL.out, zs, HZS.out, HZB.out⟩
        case measure => simp [intOf]; omega
    · go_wp2_with (first | (refine wpList_load_rowW rfl 34 (.tmp 1) rfl _ rfl 34 cs _ HBL.out Try.underlying34 rfl HS.out ?_) | (refine wpList_store_row rfl 34 (.tmp 2) (.tmp 21) rfl (w.heap.size + 1) cs rfl rfl 34 zs HZB.out HS.out (by rw [HC.out, rk_size]; exact HZS.out) (by rw [HC.out]; exact rk_one f g) ?_))
      obtain rfl : k = 32 := by omega
      refine bodyPost_ret (results_cell2 rfl _ _ (w.heap.size + 1) 34 cs _ rfl (HZB.out.row_ cs) Try.underlying34 rfl HS.out) rfl ?_
      refine ⟨?_, below_row HB.out (by omega) _⟩
      rw [rissueR_end HR.out, ← HC.out]
      rfl
end Go.Proofs.Ytnicipemkcofpaa
