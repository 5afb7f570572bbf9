/- Of bailiwicklaw03 (handle): the name of a slot, and the document's. Conditions: slots below 32, generations at most the last one. -/
import Derived.Test.YtnicipemkcofpaaProg
import Derived.Test.YtnicipemkcofpaaWords
import Derived.WalkKit
import Derived.WalkSpells
import Derived.WalkLawsBesides
namespace Go.Proofs.Ytnicipemkcofpaa
open Go.RowKit

set_option maxHeartbeats 400000 in
theorem name_any (i a : Nat) (hi : i < 32) (ha : a ≤ 8388607) (w : World) :
    Calls Try.prog 19 #[.int .i64 i, .int .u32 a] w fun e w' => e = .returned (.int .u32 (256 * a + i + 1 : Nat)) ∧ w = w' := by
  go_enter Try.func19, Try.ntmps19
  go_wp2
  go_ret
  exact ⟨rfl, rfl⟩

set_option maxHeartbeats 400000 in
theorem of_any (cs : Array Value) (x i : Nat) (_hi : i < 32) (_hx : x ≤ 8388607) (hc : cs[i]? = some (.int .i64 x)) (w : World) :
    Calls Try.prog 8 #[.agg cs, .int .i64 i] w fun e w' => e = .returned (.int .i64 (i + 256 * x + 1 : Nat)) ∧ Below w.heap.size w w' := by
  have hb := (Blk.new w 34 cs).cell i
  rw [hc] at hb
  go_enter Try.func8, Try.ntmps8
  go_wp2
  go_ret
  exact ⟨rfl, (Below.refl _ _).alloc (Nat.le_refl _) _⟩
end Go.Proofs.Ytnicipemkcofpaa
