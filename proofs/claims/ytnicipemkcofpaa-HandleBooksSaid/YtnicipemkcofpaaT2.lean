/- Of bailiwicklaw03 (handle): the document's slot of a handle. Conditions: generations at most the last one. -/
import Derived.Test.YtnicipemkcofpaaT1
import Derived.Test.YtnicipemkcofpaaLaws
import Derived.LoopTactic
namespace Go.Proofs.Ytnicipemkcofpaa
open Go.RowKit

/-- The document's slot of a handle, by the document's book. -/
def rslot (f g : Nat → Nat) (h : Int) (n : Nat) : Option Nat := (List.range n).find? fun i => decide (g i = 1 ∧ ((i : Int) + 256 * f i + 1 = h))
/-- The same as a number; -1: none. -/
def rslotI (f g : Nat → Nat) (h : Int) : Int := match rslot f g h 32 with | some i => (i : Int) | none => -1

theorem rslot_succ (f g : Nat → Nat) (h : Int) (n : Nat) : rslot f g h (n + 1) = (rslot f g h n).or (if g n = 1 ∧ ((n : Int) + 256 * f n + 1 = h) then some n else none) := by
  unfold rslot
  rw [List.range_succ, List.find?_append]
  congr 1
  by_cases e : g n = 1 ∧ ((n : Int) + 256 * f n + 1 = h) <;> simp [List.find?_cons, e]
theorem rslot_lt {f g : Nat → Nat} {h : Int} {n i : Nat} (hr : rslot f g h n = some i) : i < n := by
  unfold rslot at hr
  have := List.mem_of_find?_eq_some hr
  simpa using this
theorem rslot_hit {f g : Nat → Nat} {h : Int} {k : Nat} (hk : k < 32) (hr : rslot f g h k = none) (h1 : g k = 1) (h2 : (k : Int) + 256 * f k + 1 = h) : rslotI f g h = k := by
  have e : ∀ n, k < n → rslot f g h n = some k := by
    intro n hn
    induction n with
    | zero => omega
    | succ n ih =>
      rw [rslot_succ]
      by_cases e : k < n
      · rw [ih e]; rfl
      · obtain rfl : k = n := by omega
        rw [hr, if_pos ⟨h1, h2⟩]; rfl
  unfold rslotI
  rw [e 32 hk]
theorem rslot_miss {f g : Nat → Nat} {h : Int} {k : Nat} (hr : rslot f g h k = none) (hn : ¬ (g k = 1 ∧ (k : Int) + 256 * f k + 1 = h)) : rslot f g h (k + 1) = none := by
  rw [rslot_succ, hr, if_neg hn]; rfl
theorem rslot_end {f g : Nat → Nat} {h : Int} (hr : rslot f g h 32 = none) : rslotI f g h = -1 := by
  unfold rslotI; rw [hr]

theorem info34 : (Try.prog.info? 34).map (·.size) = some 64 := by kernel_rfl
theorem info30 : (Try.prog.info? 30).map (·.size) = some 64 := by kernel_rfl

set_option maxHeartbeats 1000000 in
theorem rslot_any (cs : Array Value) (f g : Nat → Nat) (h : Int) (hcs : cs = rk f g) (hf : ∀ i, f i ≤ 8388607) (w : World) :
    Calls Try.prog 16 #[.agg cs, .int .i64 h] w fun e w' => e = .returned (.int .i64 (rslotI f g h)) ∧ Below w.heap.size w w' := by
  have HF := hide hf
  have hz : ∀ i, i < 32 → cs[i]? = some (.int .i64 (f i)) := fun i hi => by rw [hcs]; exact rk_gen f g hi
  have hk : ∀ i, i < 32 → cs[32 + i]? = some (.int .i64 (g i)) := fun i hi => by rw [hcs]; exact rk_is f g hi
  have hsz : (Try.prog.info? 34).map (·.size) = some cs.size := by rw [hcs, rk_size]; exact info34
  have HZ := hide hz
  have HK := hide hk
  have HS := hide hsz
  clear hcs hf hz hk hsz
  go_enter Try.func16, Try.ntmps16
  go_wp2
  go_loopw [5] (fun i wr => ∃ k : Nat, k ≤ 32 ∧ i = .int .i64 k ∧ rslot f g h k = none ∧ Below w.heap.size w wr ∧ Blk wr w.heap.size 34 cs) (fun i _ => 32 - (intOf i).toNat)
  case atStart => exact ⟨0, by omega, rfl, rfl, (Below.refl _ _).alloc (Nat.le_refl _) _, Blk.new w 34 cs⟩
  case round =>
    obtain ⟨k, hk, rfl, hr, hB, hblk⟩ := hrel
    have HR := hide hr
    have HB := hide hB
    have HBL := hide hblk
    clear hr hB hblk
    by_cases hlt : k < 32
    · have c1 := HBL.out.cell (32 + k)
      rw [HK.out k hlt] at c1
      by_cases hg1 : g k = 1
      · rw [hg1] at c1
        have HG := hide hg1
        clear hg1
        by_cases hh : (k : Int) + 256 * f k + 1 = h
        · have hh1 : ((((k + 256 * f k + 1 : Nat) : Int)) == h) = true := by simp; omega
          have HH := hide hh
          clear hh
          go_wp2_with (first | (refine wpList_load_rowW rfl 34 (.tmp 2) rfl _ rfl 34 cs _ HBL.out Try.underlying34 rfl HS.out ?_) | (go_at_call 8; refine (of_any cs (f k) k hlt (HF.out k) (HZ.out k hlt) _).mono ?_; rintro e w' ⟨rfl, hb'⟩))
          go_ret
          exact ⟨ret_int (rslot_hit hlt HR.out HG.out HH.out).symm, HB.out.trans (hb'.mono HB.out.size)⟩
        · have hh1 : ((((k + 256 * f k + 1 : Nat) : Int)) == h) = false := by simp; omega
          have HH := hide hh
          clear hh
          go_wp2_with (first | (refine wpList_load_rowW rfl 34 (.tmp 2) rfl _ rfl 34 cs _ HBL.out Try.underlying34 rfl HS.out ?_) | (go_at_call 8; refine (of_any cs (f k) k hlt (HF.out k) (HZ.out k hlt) _).mono ?_; rintro e w' ⟨rfl, hb'⟩))
          have hb2 := HBL.out.below hb' HBL.out.lt
          go_roundw
          case rel => exact ⟨k + 1, by omega, by go_num, rslot_miss HR.out (fun e => HH.out e.2), HB.out.trans (hb'.mono HB.out.size), hb2⟩
          case measure => simp [intOf]; omega
      · have hg2 : ((g k : Int) == 1) = false := by simp; omega
        have HG := hide hg1
        clear hg1
        go_wp2
        go_roundw
        case rel => exact ⟨k + 1, by omega, by go_num, rslot_miss HR.out (fun e => HG.out e.1), HB.out, HBL.out⟩
        case measure => simp [intOf]; omega
    · go_wp2
      go_ret
      obtain rfl : k = 32 := by omega
      exact ⟨ret_int (rslot_end HR.out).symm, HB.out⟩

end Go.Proofs.Ytnicipemkcofpaa
