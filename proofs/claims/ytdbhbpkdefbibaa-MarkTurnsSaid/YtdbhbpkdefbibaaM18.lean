/- Of mark: the law's call, of a block of single cells, and of nil. No condition. -/
import Derived.Test.YtdbhbpkdefbibaaM17
namespace Go.Proofs.Ytdbhbpkdefbibaa
open Go.ChangeShapes Go.WideShapes Go.ChangeAt Go.RowKit Go.Deep

theorem body4 : Try.f4.body = some (Try.f4.body.getD .skip) := rfl
theorem turns_call {W : World} {b off n cap : Nat} {cs : Array Value} {ty : TypeId} {fz : Nat × Nat} {s : Int} (hb : W.heap[b]? = some (.cells cs ty fz)) (hlc : n ≤ cap) (hd : ActsOk cs off n) :
    Calls Try.prog 4 #[.slice (some ⟨b, off, none⟩) n cap, .int .i64 s] W fun e w' => e = .returned (.bool true) ∧ Below W.heap.size W w' := by
  have hl : All2 (SV.ok (fun i => if i = 0 then some ⟨b, cs.size⟩ else none)) [actsS off n, i64 (.o s)] (#[.slice (some ⟨b, off, none⟩) n cap, .int .i64 s] : Array Value).toList :=
    ⟨⟨⟨b, cs.size⟩, cap, rfl, rfl, trivial, hlc⟩, rfl, trivial⟩
  have h := answers_of_good Try.func4 body4 (turns_good (ty := ty) (s := s) fun _ => hd) hl (rel_one hb)
  unfold Answers at h
  refine h.mono ?_
  rintro e w' ⟨v, rfl, s', m', R', rfl, _, hR', hv⟩
  have hv : v = .bool true := hv
  exact ⟨by rw [hv], below_of hR'.fr⟩
theorem turns_call_nil {W : World} {s : Int} : Calls Try.prog 4 #[.slice none 0 0, .int .i64 s] W fun e w' => e = .returned (.bool true) ∧ Below W.heap.size W w' := by
  have hl : All2 (SV.ok (fun _ => none)) [nilS, i64 (.o s)] (#[.slice none 0 0, .int .i64 s] : Array Value).toList := ⟨⟨rfl, rfl⟩, rfl, trivial⟩
  have h := answers_of_good Try.func4 body4 (turns_nil s) hl (rel_empty W 1)
  unfold Answers at h
  refine h.mono ?_
  rintro e w' ⟨v, rfl, s', m', R', rfl, _, hR', hv⟩
  have hv : v = .bool true := hv
  exact ⟨by rw [hv], below_of hR'.fr⟩
end Go.Proofs.Ytdbhbpkdefbibaa
