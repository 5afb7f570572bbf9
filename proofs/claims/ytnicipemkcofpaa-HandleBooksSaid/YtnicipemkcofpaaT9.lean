/- Of bailiwicklaw03 (handle): what the document's Aged answers. Conditions: at most 1,000 generations. -/
import Derived.Test.YtnicipemkcofpaaT8
namespace Go.Proofs.Ytnicipemkcofpaa
open Go.RowKit

set_option maxHeartbeats 1000000 in
theorem raged_any (A : Option Addr) (len cap m : Nat) (zs : List Int) (w : World) (hlen : len ≤ 1000) (hm : m ≤ len) (hm2 : m ≤ 32) (hm3 : m = len ∨ m = 32) (hz : Nums w .u32 A len zs) (hw : ∀ j, 0 ≤ zs.getD j 0 ∧ zs.getD j 0 < 4294967296) :
    Calls Try.prog 7 #[.slice A len cap] w fun e w' => e = .returned (.agg (rk (agesOf zs m) (fun _ => 0))) ∧ Below w.heap.size w w' := by
  have HZ := hide hz
  have HW := hide hw
  have Z0 := hide zero34b
  have HM := hide hm3
  clear hz hw hm3
  go_enter Try.func7, Try.ntmps7
  go_wp2_with (first | (refine wpList_allocW rfl 34 rfl (rk (fun _ => 0) (fun _ => 0)) Z0.out ?_))
  go_loopw [4] (fun i wr => ∃ k : Nat, k ≤ m ∧ i = .int .i64 k ∧ Below w.heap.size w wr ∧ Blk wr (w.heap.size + 1) 34 (rk (agesOf zs k) (fun _ => 0)) ∧ ∃ zz : Array Value, zz.size = 64 ∧ Blk wr w.heap.size 34 zz) (fun i _ => m - (intOf i).toNat)
  case atStart =>
    refine ⟨0, by omega, rfl, ((Below.refl _ _).alloc (Nat.le_refl _) _).alloc (by simp) _, ?_, _, rk_size _ _, heap_alloc2_old w _ _⟩
    rw [agesOf_zero]
    exact heap_alloc2_new w _ _
  case round =>
    obtain ⟨k, hk, rfl, hB, hblk, zz, hzz, hzb⟩ := hrel
    have HB := hide hB
    have HBL := hide hblk
    have HZS := hide hzz
    have HZB := hide hzb
    clear hB hblk hzz hzb
    by_cases hlt : k < m
    · obtain ⟨b, off, rfl, hb, hc⟩ := HZ.out (by omega)
      have hck := hc k (by omega)
      have hcw := (HB.out.cell (p := ⟨b, off + k, none⟩) hb).trans hck
      obtain ⟨w1, w2⟩ := HW.out k
      have c1 := HBL.out.cell k
      rw [rk_gen _ _ (by omega)] at c1
      have f1 := HBL.out.frozen k
      clear hc hck
      have hset : ∀ v : Nat, v = min (zs.getD k 0).toNat 8388607 → Blk (wr.setCell ⟨w.heap.size + 1, k, none⟩ (.int .i64 v)) (w.heap.size + 1) 34 (rk (agesOf zs (k + 1)) (fun _ => 0)) := by
        intro v hv
        have q := HBL.out.set_ k (.int .i64 v)
        rw [rk_setg _ _ v (by omega), hv, ← agesOf_succ] at q
        rw [hv]
        exact q
      have HSET := hide hset
      clear hset
      generalize hzk : zs.getD k 0 = z at hcw w1 w2
      have HZK := hide hzk
      clear hzk
      by_cases hle : z ≤ 8388607
      · go_wp2
        all_goals go_roundw
        case rel =>
          refine ⟨k + 1, by omega, by go_num, HB.out.setCell (by simp) _, ?_, zz, HZS.out, HZB.out.far (by simp) _⟩
          have e : z = ((z.toNat : Nat) : Int) := by omega
          rw [e]
          exact HSET.out _ (by rw [HZK.out]; omega)
        case measure => simp [intOf]; omega
      · go_wp2
        all_goals go_roundw
        case rel =>
          refine ⟨k + 1, by omega, by go_num, HB.out.setCell (by simp) _, ?_, zz, HZS.out, HZB.out.far (by simp) _⟩
          exact HSET.out 8388607 (by rw [HZK.out]; omega)
        case measure => simp [intOf]; omega
    · have HI := hide (show (Try.prog.info? 34).map (·.size) = some (rk (agesOf zs k) (fun _ => 0)).size by rw [rk_size]; exact info34)
      obtain rfl : k = m := by omega
      rcases HM.out with e | e
      · subst e
        by_cases h32 : k < 32
        · go_wp2_with (first | (refine wpList_load_rowW rfl 34 (.tmp 3) rfl (w.heap.size + 1) rfl 34 (rk (agesOf zs k) (fun _ => 0)) _ HBL.out Try.underlying34 rfl HI.out ?_) | (refine wpList_store_row rfl 34 (.tmp 2) (.tmp 24) rfl w.heap.size (rk (agesOf zs k) (fun _ => 0)) rfl rfl 34 zz HZB.out HI.out (by rw [rk_size]; exact HZS.out) (rk_one _ _) ?_))
          refine bodyPost_ret (results_cell_row rfl _ _ w.heap.size 34 _ (0, 0) _ rfl (HZB.out.row_ _) Try.underlying34 rfl HI.out) rfl ?_
          exact ⟨rfl, below_row HB.out (Nat.le_refl _) _⟩
        · go_wp2_with (first | (refine wpList_load_rowW rfl 34 (.tmp 3) rfl (w.heap.size + 1) rfl 34 (rk (agesOf zs k) (fun _ => 0)) _ HBL.out Try.underlying34 rfl HI.out ?_) | (refine wpList_store_row rfl 34 (.tmp 2) (.tmp 24) rfl w.heap.size (rk (agesOf zs k) (fun _ => 0)) rfl rfl 34 zz HZB.out HI.out (by rw [rk_size]; exact HZS.out) (rk_one _ _) ?_))
          refine bodyPost_ret (results_cell_row rfl _ _ w.heap.size 34 _ (0, 0) _ rfl (HZB.out.row_ _) Try.underlying34 rfl HI.out) rfl ?_
          exact ⟨rfl, below_row HB.out (Nat.le_refl _) _⟩
      · have h32 : ¬ k < 32 := by omega
        have HE := hide e
        clear e
        go_wp2_with (first | (refine wpList_load_rowW rfl 34 (.tmp 3) rfl (w.heap.size + 1) rfl 34 (rk (agesOf zs k) (fun _ => 0)) _ HBL.out Try.underlying34 rfl HI.out ?_) | (refine wpList_store_row rfl 34 (.tmp 2) (.tmp 24) rfl w.heap.size (rk (agesOf zs k) (fun _ => 0)) rfl rfl 34 zz HZB.out HI.out (by rw [rk_size]; exact HZS.out) (rk_one _ _) ?_))
        refine bodyPost_ret (results_cell_row rfl _ _ w.heap.size 34 _ (0, 0) _ rfl (HZB.out.row_ _) Try.underlying34 rfl HI.out) rfl ?_
        exact ⟨rfl, below_row HB.out (Nat.le_refl _) _⟩

end Go.Proofs.Ytnicipemkcofpaa
