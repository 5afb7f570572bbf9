/- Of bailiwicklaw03 (handle): what Aged answers. Conditions: at most 1,000 generations. -/
import Derived.Test.YtnicipemkcofpaaT5
namespace Go.Proofs.Ytnicipemkcofpaa
open Go.RowKit

/-- A slice of numbers of one kind, as it came in. -/
def Nums (w : World) (kd : IntKind) (A : Option Addr) (len : Nat) (zs : List Int) : Prop :=
  0 < len → ∃ b off, A = some ⟨b, off, none⟩ ∧ b < w.heap.size ∧ ∀ j, j < len → w.cell? ⟨b, off + j, none⟩ = some (.int kd (zs.getD j 0))

/-- Generations that are aged: of the first ones what was said, at most the last one. -/
def agesOf (zs : List Int) (n : Nat) : Nat → Nat := fun i => if i < n then min (zs.getD i 0).toNat 8388607 else 0

theorem zero30b (w : World) : (zeroValue 30).run Try.prog w = .ok (.agg (bk (fun _ => 0) (fun _ => 0))) w := by kernel_rfl
theorem zero34b (w : World) : (zeroValue 34).run Try.prog w = .ok (.agg (rk (fun _ => 0) (fun _ => 0))) w := by kernel_rfl

theorem agesOf_zero (zs : List Int) : agesOf zs 0 = fun _ => 0 := by funext i; simp [agesOf]
theorem agesOf_succ (zs : List Int) (n : Nat) : agesOf zs (n + 1) = upd (agesOf zs n) n (min (zs.getD n 0).toNat 8388607) := by
  funext i
  unfold agesOf upd
  by_cases h : i = n
  · subst h; simp
  · by_cases h2 : i < n
    · have h3 : i < n + 1 := by omega
      simp only [h2, h3, h, if_true, if_false]
    · have h3 : ¬ i < n + 1 := by omega
      simp only [h2, h3, h, if_false]
theorem agesOf_le (zs : List Int) (n i : Nat) : agesOf zs n i ≤ 8388607 := by unfold agesOf; split <;> omega

set_option maxHeartbeats 1000000 in
theorem aged_few (A : Option Addr) (len cap : Nat) (zs : List Int) (w : World) (hlen : len ≤ 1000) (hm : len ≤ 32) (hz : Nums w .u32 A len zs) (hw : ∀ j, 0 ≤ zs.getD j 0 ∧ zs.getD j 0 < 4294967296) :
    Calls Try.prog 6 #[.slice A len cap] w fun e w' => e = .returned (.agg (bk (agesOf zs len) (fun _ => 0))) ∧ Below w.heap.size w w' := by
  have HZ := hide hz
  have HW := hide hw
  have Z0 := hide zero30b
  clear hz hw
  go_enter Try.func6, Try.ntmps6
  go_wp2_with (first | (refine wpList_allocW rfl 30 rfl (bk (fun _ => 0) (fun _ => 0)) Z0.out ?_))
  go_loopw [4, 8] (fun _ i wr => ∃ k : Nat, k ≤ len ∧ i = .int .i64 k ∧ Below w.heap.size w wr ∧ Blk wr (w.heap.size + 1) 30 (bk (agesOf zs k) (fun _ => 0)) ∧ ∃ zz : Array Value, zz.size = 64 ∧ Blk wr w.heap.size 30 zz) (fun _ i _ => len - (intOf i).toNat)
  case atStart =>
    refine ⟨0, by omega, rfl, ((Below.refl _ _).alloc (Nat.le_refl _) _).alloc (by simp) _, ?_, _, bk_size _ _, heap_alloc2_old w _ _⟩
    rw [agesOf_zero]
    exact heap_alloc2_new w _ _
  case round =>
    obtain ⟨k, hk, rfl, hB, hblk, zz, hzz, hzb⟩ := hrel
    have HB := hide hB
    have HBL := hide hblk
    have HZS := hide hzz
    have HZB := hide hzb
    clear hB hblk hzz hzb
    by_cases hlt : k < len
    · obtain ⟨b, off, rfl, hb, hc⟩ := HZ.out (by omega)
      have hck := hc k (by omega)
      have hcw := (HB.out.cell (p := ⟨b, off + k, none⟩) hb).trans hck
      obtain ⟨w1, w2⟩ := HW.out k
      have c1 := HBL.out.cell (k * 2)
      rw [bk_age _ _ (by omega)] at c1
      have f1 := HBL.out.frozen (k * 2)
      clear hc hck
      have HE := hide (agesOf_succ zs k)
      have hset : ∀ v : Nat, v = min (zs.getD k 0).toNat 8388607 → Blk (wr.setCell ⟨w.heap.size + 1, k * 2, none⟩ (.int .u32 v)) (w.heap.size + 1) 30 (bk (agesOf zs (k + 1)) (fun _ => 0)) := by
        intro v hv
        have q := HBL.out.set_ (k * 2) (.int .u32 v)
        rw [bk_seta _ _ v (by omega), hv, ← agesOf_succ] at q
        rw [hv]
        exact q
      have HSET := hide hset
      clear hset
      generalize hzk : zs.getD k 0 = z at hcw w1 w2
      have HZK := hide hzk
      clear hzk
      by_cases hle : z ≤ 8388607
      · go_wp2
        all_goals go_roundw
        case rel =>
          refine ⟨k + 1, by omega, by go_num, HB.out.setCell (by simp) _, ?_, zz, HZS.out, HZB.out.far (by simp) _⟩
          have e : z = ((z.toNat : Nat) : Int) := by omega
          rw [e]
          exact HSET.out _ (by rw [HZK.out]; omega)
        case measure => simp [intOf]; omega
      · go_wp2
        all_goals go_roundw
        case rel =>
          refine ⟨k + 1, by omega, by go_num, HB.out.setCell (by simp) _, ?_, zz, HZS.out, HZB.out.far (by simp) _⟩
          exact HSET.out 8388607 (by rw [HZK.out]; omega)
        case measure => simp [intOf]; omega
    · have HI := hide (show (Try.prog.info? 30).map (·.size) = some (bk (agesOf zs k) (fun _ => 0)).size by rw [bk_size]; exact info30)
      go_wp2_with (first | (refine wpList_load_rowW rfl 30 (.tmp 3) rfl (w.heap.size + 1) rfl 30 (bk (agesOf zs k) (fun _ => 0)) _ HBL.out Try.underlying30 rfl HI.out ?_) | (refine wpList_store_row rfl 30 (.tmp 2) (.tmp 21) rfl w.heap.size (bk (agesOf zs k) (fun _ => 0)) rfl rfl 30 zz HZB.out HI.out (by rw [bk_size]; exact HZS.out) (bk_one _ _) ?_))
      obtain rfl : k = len := by omega
      refine bodyPost_ret (results_cell_row rfl _ _ w.heap.size 30 _ (0, 0) _ rfl (HZB.out.row_ _) Try.underlying30 rfl HI.out) rfl ?_
      exact ⟨rfl, below_row HB.out (Nat.le_refl _) _⟩

set_option maxHeartbeats 1000000 in
theorem aged_many (A : Option Addr) (len cap : Nat) (zs : List Int) (w : World) (hlen : len ≤ 1000) (hm : 33 ≤ len) (hz : Nums w .u32 A len zs) (hw : ∀ j, 0 ≤ zs.getD j 0 ∧ zs.getD j 0 < 4294967296) :
    Calls Try.prog 6 #[.slice A len cap] w fun e w' => e = .returned (.agg (bk (agesOf zs 32) (fun _ => 0))) ∧ Below w.heap.size w w' := by
  have HZ := hide hz
  have HW := hide hw
  have Z0 := hide zero30b
  clear hz hw
  go_enter Try.func6, Try.ntmps6
  go_wp2_with (first | (refine wpList_allocW rfl 30 rfl (bk (fun _ => 0) (fun _ => 0)) Z0.out ?_))
  go_loopw [4, 8] (fun _ i wr => ∃ k : Nat, k ≤ 32 ∧ i = .int .i64 k ∧ Below w.heap.size w wr ∧ Blk wr (w.heap.size + 1) 30 (bk (agesOf zs k) (fun _ => 0)) ∧ ∃ zz : Array Value, zz.size = 64 ∧ Blk wr w.heap.size 30 zz) (fun _ i _ => 32 - (intOf i).toNat)
  case atStart =>
    refine ⟨0, by omega, rfl, ((Below.refl _ _).alloc (Nat.le_refl _) _).alloc (by simp) _, ?_, _, bk_size _ _, heap_alloc2_old w _ _⟩
    rw [agesOf_zero]
    exact heap_alloc2_new w _ _
  case round =>
    obtain ⟨k, hk, rfl, hB, hblk, zz, hzz, hzb⟩ := hrel
    have HB := hide hB
    have HBL := hide hblk
    have HZS := hide hzz
    have HZB := hide hzb
    clear hB hblk hzz hzb
    by_cases hlt : k < 32
    · obtain ⟨b, off, rfl, hb, hc⟩ := HZ.out (by omega)
      have hck := hc k (by omega)
      have hcw := (HB.out.cell (p := ⟨b, off + k, none⟩) hb).trans hck
      obtain ⟨w1, w2⟩ := HW.out k
      have c1 := HBL.out.cell (k * 2)
      rw [bk_age _ _ (by omega)] at c1
      have f1 := HBL.out.frozen (k * 2)
      clear hc hck
      have HE := hide (agesOf_succ zs k)
      have hset : ∀ v : Nat, v = min (zs.getD k 0).toNat 8388607 → Blk (wr.setCell ⟨w.heap.size + 1, k * 2, none⟩ (.int .u32 v)) (w.heap.size + 1) 30 (bk (agesOf zs (k + 1)) (fun _ => 0)) := by
        intro v hv
        have q := HBL.out.set_ (k * 2) (.int .u32 v)
        rw [bk_seta _ _ v (by omega), hv, ← agesOf_succ] at q
        rw [hv]
        exact q
      have HSET := hide hset
      clear hset
      generalize hzk : zs.getD k 0 = z at hcw w1 w2
      have HZK := hide hzk
      clear hzk
      by_cases hle : z ≤ 8388607
      · go_wp2
        all_goals go_roundw
        case rel =>
          refine ⟨k + 1, by omega, by go_num, HB.out.setCell (by simp) _, ?_, zz, HZS.out, HZB.out.far (by simp) _⟩
          have e : z = ((z.toNat : Nat) : Int) := by omega
          rw [e]
          exact HSET.out _ (by rw [HZK.out]; omega)
        case measure => simp [intOf]; omega
      · go_wp2
        all_goals go_roundw
        case rel =>
          refine ⟨k + 1, by omega, by go_num, HB.out.setCell (by simp) _, ?_, zz, HZS.out, HZB.out.far (by simp) _⟩
          exact HSET.out 8388607 (by rw [HZK.out]; omega)
        case measure => simp [intOf]; omega
    · have HI := hide (show (Try.prog.info? 30).map (·.size) = some (bk (agesOf zs k) (fun _ => 0)).size by rw [bk_size]; exact info30)
      go_wp2_with (first | (refine wpList_load_rowW rfl 30 (.tmp 3) rfl (w.heap.size + 1) rfl 30 (bk (agesOf zs k) (fun _ => 0)) _ HBL.out Try.underlying30 rfl HI.out ?_) | (refine wpList_store_row rfl 30 (.tmp 2) (.tmp 21) rfl w.heap.size (bk (agesOf zs k) (fun _ => 0)) rfl rfl 30 zz HZB.out HI.out (by rw [bk_size]; exact HZS.out) (bk_one _ _) ?_))
      obtain rfl : k = 32 := by omega
      refine bodyPost_ret (results_cell_row rfl _ _ w.heap.size 30 _ (0, 0) _ rfl (HZB.out.row_ _) Try.underlying30 rfl HI.out) rfl ?_
      exact ⟨rfl, below_row HB.out (Nat.le_refl _) _⟩
end Go.Proofs.Ytnicipemkcofpaa
