/- Of mark: whoever waits has it in turn, without any act. No condition. -/
import Derived.Test.YtdbhbpkdefbibaaM15
namespace Go.Proofs.Ytdbhbpkdefbibaa

noncomputable def noneI (s : Int) (k : Nat) (td : List Item) : SFr := ⟨4, tmOf Try.f4.ntmps [(0, nilS), (1, i64 (.o s)), (5, ptr 1 (.l 0)), (6, i64 (.o k))], td, 1⟩
noncomputable abbrev runN (s : Int) : Tree := run E5 1000 ⟨4, padN Try.f4.ntmps [some nilS, some (i64 (.o s))], [.code (Try.f4.body.getD .skip)], 1⟩ ⟨1, []⟩
section
variable (s : Int) (cs : Array Value)
theorem none_n2 : (runN s).follow trueR (fun _ _ => False) [false] = ((decide (s < 0) == false) = false ∧ True) := by kernel_rfl
theorem none_n3 : (runN s).follow trueR (fun _ _ => False) [true, true] = ((decide (s < 0) == false) = true ∧ decide (s > 31) = true ∧ True) := by kernel_rfl
theorem none_y : (runN s).follow (fun _ _ => False) (subOk [(1, 1)] (noneI s 0 turnsTodo) (wN zeroA)) [true, false] =
    ((decide (s < 0) == false) = true ∧ decide (s > 31) = false ∧ TodoOk turnsTodo turnsTodo ∧ Value.slice none 0 0 = Value.slice none 0 0 ∧ s = s ∧ ((0 : Nat) : Int) = 0 ∧ (29 : Nat) = 29 ∧ zeroA = zeroA ∧ True) := by kernel_rfl
theorem none_out : (stepT E5.go (run E5 1000) (noneI s 0 (headL turnsTodo)) (wN cs) (noneI s 0 (headL turnsTodo)).todo).follow (fun _ _ => False) (subOk [(1, 1)] (w1I s (holdV cs s) (holdB cs s) nilS 0 w1Todo) (wN cs)) [false, true] =
    (decide (((0 : Nat) : Int) < (0 : Nat)) = false ∧ (cs.size = 352 ∧ True) ∧ (IsM cs ∧ True) ∧ (cs.size = 352 ∧ True) ∧ (IsM cs ∧ True) ∧ decide (waitR cs s = []) = true ∧ TodoOk w1Todo w1Todo ∧ s = s ∧ holdV cs s = holdV cs s ∧ holdB cs s = holdB cs s ∧
      Value.slice none 0 0 = Value.slice none 0 0 ∧ ((0 : Nat) : Int) = 0 ∧ (29 : Nat) = 29 ∧ cs = cs ∧ True) := by kernel_rfl
end
/-- The law, of no acts at all. -/
theorem turns_nil (s : Int) : Good Try.prog (fun sv _ => sv = sB (.l true)) ⟨4, padN Try.f4.ntmps [some nilS, some (i64 (.o s))], [.code (Try.f4.body.getD .skip)], 1⟩ ⟨1, []⟩ := by
  have fin : ∀ {f : SFr} {m : SMem}, f.base = 1 → Good Try.prog trueR f m → Good Try.prog (fun sv _ => sv = sB (.l true)) f m := fun {f m} hb hg =>
    (Good.ret (s0m := ⟨1, []⟩) (s0 := sB (.l true)) [] (by rw [hb]; exact hg)).mono fun _ _ h => h.1
  by_cases h2 : s < 0
  · exact fin rfl (run_way E5_ok 1000 (none_n2 s) ⟨by simp [h2], trivial⟩ (fun _ _ h => h) (fun _ _ h => h.elim))
  by_cases h3 : s > 31
  · exact fin rfl (run_way E5_ok 1000 (none_n3 s) ⟨by simp [h2], decide_eq_true h3, trivial⟩ (fun _ _ h => h) (fun _ _ h => h.elim))
  obtain ⟨j, rfl⟩ := Int.eq_ofNat_of_zero_le (show 0 ≤ s by omega)
  have hj : j < 32 := by omega
  have hz : IsM zeroA := ⟨_, _, Fine.zero, zeroA_mk⟩
  have hw : waitR zeroA j = [] := by rw [zeroA_mk]; exact waitR_mk Fine.zero hj
  have hb : holdB zeroA j = false := by rw [zeroA_mk]; exact holdB_mk Fine.zero hj
  have sz := zeroA_size
  have e2 : Good Try.prog trueR (w2I j nilS 0 (headL w2Todo)) (wN zeroA) :=
    past_way E5_ok 1000 (v2_nil j zeroA) ⟨rfl, ⟨sz, trivial⟩, ⟨hz, trivial⟩, by rw [hb]; rfl, ⟨sz, trivial⟩, ⟨hz, trivial⟩, decide_eq_true hw, trivial⟩ (fun _ _ h => h) (fun _ _ h => h.elim)
  have e1 : Good Try.prog trueR (w1I j (holdV zeroA j) (holdB zeroA j) nilS 0 (headL w1Todo)) (wN zeroA) :=
    past_way E5_ok 1000 (v1_nilN j (holdV zeroA j) (holdB zeroA j) zeroA zeroA) ⟨rfl, hb, rfl, rfl, rfl, rfl, rfl, rfl, trivial⟩ (fun _ _ h => h.elim) (fun f m hb => Good.of_sub hb (Good.head e2))
  have e0 : Good Try.prog trueR (noneI j 0 (headL turnsTodo)) (wN zeroA) :=
    past_way E5_ok 1000 (none_out j zeroA) ⟨rfl, ⟨sz, trivial⟩, ⟨hz, trivial⟩, ⟨sz, trivial⟩, ⟨hz, trivial⟩, decide_eq_true hw, rfl, rfl, rfl, rfl, rfl, rfl, rfl, rfl, trivial⟩ (fun _ _ h => h.elim) (fun f m hb => Good.of_sub hb (Good.head e1))
  exact fin rfl (run_way E5_ok 1000 (none_y j) ⟨by simp [h2], decide_eq_false h3, rfl, rfl, rfl, rfl, rfl, rfl, trivial⟩ (fun _ _ h => h.elim) (fun f m hb => Good.of_sub hb (Good.head e0)))
end Go.Proofs.Ytdbhbpkdefbibaa
