/- Of bailiwicklaw03 (handle): what Issue answers, for every book. Conditions: generations at most the last one. -/
import Derived.Test.YtnicipemkcofpaaT2
namespace Go.Proofs.Ytnicipemkcofpaa
open Go.RowKit

/-- The first free slot. -/
def freeAt (g : Nat → Nat) (n : Nat) : Option Nat := (List.range n).find? fun i => decide (g i = 0)
theorem freeAt_succ (g : Nat → Nat) (n : Nat) : freeAt g (n + 1) = (freeAt g n).or (if g n = 0 then some n else none) := by
  unfold freeAt
  rw [List.range_succ, List.find?_append]
  congr 1
  by_cases e : g n = 0 <;> simp [List.find?_cons, e]
theorem freeAt_hit {g : Nat → Nat} {k : Nat} (hk : k < 32) (hr : freeAt g k = none) (h1 : g k = 0) : freeAt g 32 = some k := by
  have e : ∀ n, k < n → freeAt g n = some k := by
    intro n hn
    induction n with
    | zero => omega
    | succ n ih =>
      rw [freeAt_succ]
      by_cases e : k < n
      · rw [ih e]; rfl
      · obtain rfl : k = n := by omega
        rw [hr, if_pos h1]; rfl
  exact e 32 hk
theorem freeAt_miss {g : Nat → Nat} {k : Nat} (hr : freeAt g k = none) (hn : ¬ g k = 0) : freeAt g (k + 1) = none := by
  rw [freeAt_succ, hr, if_neg hn]; rfl

/-- What Issue answers. -/
def issueR (f g : Nat → Nat) : Value := match freeAt g 32 with
  | some i => .tuple #[.agg (bk f (upd g i 1)), .int .u32 (256 * f i + i + 1 : Nat), .bool true]
  | none => .tuple #[.agg (bk f g), .int .u32 0, .bool false]
theorem issueR_hit {f g : Nat → Nat} {k : Nat} (hk : k < 32) (hr : freeAt g k = none) (h1 : g k = 0) : issueR f g = .tuple #[.agg (bk f (upd g k 1)), .int .u32 (256 * f k + k + 1 : Nat), .bool true] := by
  unfold issueR; rw [freeAt_hit hk hr h1]
theorem issueR_end {f g : Nat → Nat} (hr : freeAt g 32 = none) : issueR f g = .tuple #[.agg (bk f g), .int .u32 0, .bool false] := by
  unfold issueR; rw [hr]

theorem name_any' (i a : Nat) (hi : i < 32) (ha : a ≤ 8388607) (w : World) :
    Calls Try.prog 19 #[.int .i64 i, .int .u32 a] w fun e w' => e = .returned (.int .u32 (256 * a + i + 1 : Nat)) ∧ w' = w :=
  (name_any i a hi ha w).mono fun _ _ ⟨h1, h2⟩ => ⟨h1, h2.symm⟩

set_option maxHeartbeats 1000000 in
theorem issue_any (cs : Array Value) (f g : Nat → Nat) (hcs : cs = bk f g) (hf : ∀ i, f i ≤ 8388607) (w : World) :
    Calls Try.prog 11 #[.agg cs] w fun e w' => e = .returned (issueR f g) ∧ Below w.heap.size w w' := by
  have HF := hide hf
  have hz : ∀ i, i < 32 → cs[i * 2]? = some (.int .u32 (f i)) := fun i hi => by rw [hcs]; exact bk_age f g hi
  have hk : ∀ i, i < 32 → cs[i * 2 + 1]? = some (.int .u8 (g i)) := fun i hi => by rw [hcs]; exact bk_kind f g hi
  have hsz : (Try.prog.info? 30).map (·.size) = some cs.size := by rw [hcs, bk_size]; exact info30
  have HZ := hide hz
  have HK := hide hk
  have HS := hide hsz
  have HC := hide hcs
  clear hcs hf hz hk hsz
  go_enter Try.func11, Try.ntmps11
  go_wp2
  go_loopw [6] (fun i wr => ∃ k : Nat, k ≤ 32 ∧ i = .int .i64 k ∧ freeAt g k = none ∧ Below w.heap.size w wr ∧ Blk wr w.heap.size 30 cs ∧ ∃ zs : Array Value, zs.size = 64 ∧ Blk wr (w.heap.size + 1) 30 zs) (fun i _ => 32 - (intOf i).toNat)
  case atStart =>
    refine ⟨0, by omega, rfl, rfl, ((Below.refl _ _).alloc (Nat.le_refl _) _).alloc (by simp) _, (Blk.new w 30 cs).alloc _, _, ?_, heap_alloc2_new w _ _⟩
    rfl
  case round =>
    obtain ⟨k, hk, rfl, hr, hB, hblk, zs, hzs, hzb⟩ := hrel
    have HR := hide hr
    have HB := hide hB
    have HBL := hide hblk
    have HZS := hide hzs
    have HZB := hide hzb
    clear hr hB hblk hzs hzb
    by_cases hlt : k < 32
    · have c1 := HBL.out.cell (k * 2 + 1)
      rw [HK.out k hlt] at c1
      by_cases hg1 : g k = 0
      · have fz := HBL.out.frozen (k * 2 + 1)
        have hg2 : ((g k : Int) == 0) = true := by simp; omega
        have HG := hide hg1
        clear hg1
        go_wp2
        have B1 := HBL.out.set_ (k * 2 + 1) (.int .u8 1)
        have Z1 := HZB.out.far (p := ⟨w.heap.size, k * 2 + 1, none⟩) (by simp) (.int .u8 1)
        have hW1 := HB.out.setCell (p := ⟨w.heap.size, k * 2 + 1, none⟩) (Nat.le_refl _) (.int .u8 1)
        generalize wr.setCell ⟨w.heap.size, k * 2 + 1, none⟩ (.int .u8 1) = W1 at B1 Z1 hW1 ⊢
        rw [HC.out, show (Value.int .u8 1) = .int .u8 ((1 : Nat) : Int) from rfl, bk_setk f g 1 hlt] at B1
        have e1 : (bk f (upd g k 1))[k * 2]? = some (.int .u32 (f k)) := bk_age _ _ hlt
        have hi1 : (Try.prog.info? 30).map (·.size) = some (bk f (upd g k 1)).size := by rw [bk_size]; exact info30
        have h1 := bk_one f (upd g k 1)
        have hz1 : zs.size = (bk f (upd g k 1)).size := by rw [bk_size]; exact HZS.out
        have hR := issueR_hit (f := f) hlt HR.out HG.out
        generalize bk f (upd g k 1) = cs1 at B1 e1 hi1 h1 hz1 hR
        have HI := hide hi1
        have H1 := hide h1
        have HZ1 := hide hz1
        have HR1 := hide hR
        have HB1 := hide B1
        have HZB1 := hide Z1
        have HW1 := hide hW1
        have c2 : W1.drew.cell? ⟨w.heap.size, k * 2, none⟩ = some (.int .u32 (f k)) := (HB1.out.cell (k * 2)).trans e1
        clear hi1 h1 hz1 hR B1 Z1 hW1 e1 c1 fz hg2
        refine wp_region_still_tail 8 (by kernel_rfl) (by kernel_rfl) ?_
        simp only [List.take_succ_cons, List.take_zero, List.drop_succ_cons, List.drop_zero]
        change wpStill _ _ W1.drew _ _ _
        refine wpStill_load_row rfl 30 (.tmp 1) rfl w.heap.size rfl 30 cs1 _ HB1.out.drew Try.underlying30 rfl HI.out ?_
        repeat still_step
        still_call (name_any' _ _ hlt (HF.out k) _)
        refine wpStill_nil ?_
        change wpList _ _ _ _ _ W1.drew
        go_wp2_with (refine wpList_store_row rfl 30 (.tmp 2) (.tmp 19) rfl (w.heap.size + 1) cs1 rfl rfl 30 zs HZB1.out.drew HI.out HZ1.out H1.out ?_)
        refine bodyPost_ret (results_cell3 rfl _ _ (w.heap.size + 1) 30 cs1 _ rfl (HZB1.out.drew.row_ cs1) Try.underlying30 rfl HI.out) rfl ?_
        refine ⟨?_, below_row HW1.out.drew (by omega) _⟩
        rw [HR1.out]
        rfl
      · have hg2 : ((g k : Int) == 0) = false := by simp; omega
        have HG := hide hg1
        clear hg1
        go_wp2
        go_roundw
        case rel => exact ⟨k + 1, by omega, by go_num, freeAt_miss HR.out HG.out, HB.out, HBL.out, zs, HZS.out, HZB.out⟩
        case measure => simp [intOf]; omega
    · go_wp2_with (first | (refine wpList_load_rowW rfl 30 (.tmp 1) rfl _ rfl 30 cs _ HBL.out Try.underlying30 rfl HS.out ?_) | (refine wpList_store_row rfl 30 (.tmp 2) (.tmp 28) rfl (w.heap.size + 1) cs rfl rfl 30 zs HZB.out HS.out (by rw [HC.out, bk_size]; exact HZS.out) (by rw [HC.out]; exact bk_one f g) ?_))
      obtain rfl : k = 32 := by omega
      refine bodyPost_ret (results_cell3 rfl _ _ (w.heap.size + 1) 30 cs _ rfl (HZB.out.row_ cs) Try.underlying30 rfl HS.out) rfl ?_
      refine ⟨?_, below_row HB.out (by omega) _⟩
      rw [issueR_end HR.out, ← HC.out]
      rfl
end Go.Proofs.Ytnicipemkcofpaa
