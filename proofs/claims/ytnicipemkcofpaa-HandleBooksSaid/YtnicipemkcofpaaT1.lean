/- Of bailiwicklaw03 (handle): the slot, and the goodness, of a handle, by the book's cells; conditions: cells as said. -/
import Derived.Test.YtnicipemkcofpaaW1
namespace Go.Proofs.Ytnicipemkcofpaa
open Go.RowKit

theorem ret_bool {a b : Bool} (h : a = b) : Ending.returned (.bool a) = .returned (.bool b) := by rw [h]
theorem ret_int {k : IntKind} {a b : Int} (h : a = b) : Ending.returned (.int k a) = .returned (.int k b) := by rw [h]

set_option maxHeartbeats 400000 in
theorem slot_yes (h : Nat) (h1 : 1 ≤ h) (h2 : h < 4294967296) (h3 : ((h : Int) - 1) % 256 < 32) (h4 : ((h : Int) - 1) / 256 ≤ 8388607) (w : World) :
    Calls Try.prog 13 #[.int .u32 h] w fun e w' => e = .returned (.tuple #[.int .i64 (((h : Int) - 1) % 256), .bool true]) ∧ w = w' := by
  have h0 : ((h : Int) == 0) = false := by simp; omega
  go_enter Try.func13, Try.ntmps13
  go_wp2
  all_goals go_ret2
  all_goals exact ⟨rfl, rfl⟩

set_option maxHeartbeats 400000 in
theorem slot_no (h : Nat) (h2 : h < 4294967296) (hn : ¬ (1 ≤ h ∧ ((h : Int) - 1) % 256 < 32 ∧ ((h : Int) - 1) / 256 ≤ 8388607)) (w : World) :
    Calls Try.prog 13 #[.int .u32 h] w fun e w' => e = .returned (.tuple #[.int .i64 0, .bool false]) ∧ w = w' := by
  by_cases h0 : h = 0
  · subst h0
    clear hn
    go_enter Try.func13, Try.ntmps13
    go_wp2
    go_ret2
    exact ⟨rfl, rfl⟩
  · have h1 : 1 ≤ h := by omega
    by_cases h3 : ((h : Int) - 1) % 256 < 32
    · have h4 : ¬ ((h : Int) - 1) / 256 ≤ 8388607 := fun h4 => hn ⟨h1, h3, h4⟩
      clear hn h0
      go_enter Try.func13, Try.ntmps13
      go_wp2
      go_ret2
      exact ⟨rfl, rfl⟩
    · clear hn h0
      go_enter Try.func13, Try.ntmps13
      go_wp2
      go_ret2
      exact ⟨rfl, rfl⟩

set_option maxHeartbeats 400000 in
theorem at_out (cs : Array Value) (i : Int) (hi : i < 0 ∨ 32 ≤ i) (w : World) :
    Calls Try.prog 17 #[.agg cs, .int .i64 i] w fun e w' => e = .returned (.tuple #[.int .u32 0, .bool false]) ∧ Below w.heap.size w w' := by
  rcases hi with hi | hi
  · go_enter Try.func17, Try.ntmps17
    go_wp2
    go_ret2
    exact ⟨rfl, (Below.refl _ _).alloc (Nat.le_refl _) _⟩
  · have hj : ¬ i < 0 := by omega
    go_enter Try.func17, Try.ntmps17
    go_wp2
    go_ret2
    exact ⟨rfl, (Below.refl _ _).alloc (Nat.le_refl _) _⟩

set_option maxHeartbeats 400000 in
theorem at_no (cs : Array Value) (i k : Nat) (hi : i < 32) (hk : ((k : Int) != 1) = true) (hc : cs[i * 2 + 1]? = some (.int .u8 k)) (w : World) :
    Calls Try.prog 17 #[.agg cs, .int .i64 i] w fun e w' => e = .returned (.tuple #[.int .u32 0, .bool false]) ∧ Below w.heap.size w w' := by
  have hb := (Blk.new w 30 cs).cell (i * 2 + 1)
  rw [hc] at hb
  go_enter Try.func17, Try.ntmps17
  go_wp2
  go_ret2
  exact ⟨rfl, (Below.refl _ _).alloc (Nat.le_refl _) _⟩

set_option maxHeartbeats 400000 in
theorem at_yes (cs : Array Value) (i a : Nat) (hi : i < 32) (ha : a ≤ 8388607) (hc : cs[i * 2 + 1]? = some (.int .u8 1)) (hd : cs[i * 2]? = some (.int .u32 a)) (w : World) :
    Calls Try.prog 17 #[.agg cs, .int .i64 i] w fun e w' => e = .returned (.tuple #[.int .u32 (256 * a + i + 1 : Nat), .bool true]) ∧ Below w.heap.size w w' := by
  have hb := (Blk.new w 30 cs).cell (i * 2 + 1)
  have hb2 := (Blk.new w 30 cs).cell (i * 2)
  rw [hc] at hb
  rw [hd] at hb2
  go_enter Try.func17, Try.ntmps17
  go_wp2_with (go_at_call 19; refine (name_any _ _ hi ha _).mono ?_; rintro e w' ⟨rfl, rfl⟩)
  go_ret2
  exact ⟨rfl, (Below.refl _ _).alloc (Nat.le_refl _) _⟩

set_option maxHeartbeats 400000 in
theorem good_none (cs : Array Value) (h : Nat) (h2 : h < 4294967296) (hn : ¬ (1 ≤ h ∧ ((h : Int) - 1) % 256 < 32 ∧ ((h : Int) - 1) / 256 ≤ 8388607)) (w : World) :
    Calls Try.prog 15 #[.agg cs, .int .u32 h] w fun e w' => e = .returned (.bool false) ∧ Below w.heap.size w w' := by
  have HN := hide hn
  clear hn
  go_enter Try.func15, Try.ntmps15
  go_wp2_with (go_at_call 13; refine (slot_no _ h2 HN.out _).mono ?_; rintro e w' ⟨rfl, rfl⟩)
  go_ret
  exact ⟨rfl, (Below.refl _ _).alloc (Nat.le_refl _) _⟩

set_option maxHeartbeats 400000 in
theorem good_at (cs : Array Value) (h i a k : Nat) (h2 : h < 4294967296) (hi : i < 32) (ha : a ≤ 8388607) (hn : h = 256 * a + i + 1) (b c : Nat) (hc : cs[i * 2 + 1]? = some (.int .u8 c)) (hd : cs[i * 2]? = some (.int .u32 b)) (w : World) :
    Calls Try.prog 15 #[.agg cs, .int .u32 h] w fun e w' => e = .returned (.bool ((b : Int) == a && (c : Int) == 1)) ∧ Below w.heap.size w w' := by
  have e1 : ((h : Int) - 1) % 256 = i := by omega
  have e2 : ((h : Int) - 1) / 256 = a := by omega
  have h1 : 1 ≤ h := by omega
  have hs := slot_yes h h1 h2 (by omega) (by omega)
  rw [e1] at hs
  have hb := (Blk.new w 30 cs).cell (i * 2 + 1)
  have hb2 := (Blk.new w 30 cs).cell (i * 2)
  rw [hc] at hb
  rw [hd] at hb2
  have HN := hide hn
  have HS := hide hs
  have E1 := hide e1
  clear hn hs e1
  go_enter Try.func15, Try.ntmps15
  go_wp2_with (go_at_call 13; refine (HS.out _).mono ?_; rintro e w' ⟨rfl, rfl⟩)
  all_goals go_ret
  all_goals refine ⟨ret_bool ?_, (Below.refl _ _).alloc (Nat.le_refl _) _⟩
  all_goals simp_all
end Go.Proofs.Ytnicipemkcofpaa
