/- Of flow: Ways: its states. No condition. -/
import Derived.Test.YtebkbihhnoellaaMA
import Derived.Test.YtebkbihhnoellaaK23
set_option linter.unusedVariables false
set_option linter.unusedSimpArgs false
namespace Go.Proofs.Ytebkbihhnoellaa
set_option linter.unusedVariables false
def aggR (rw : Array Value) (s : SV) (_ : SMem) : Prop := match s with
  | .s (.agg (.op ws)) => ws = rw
  | _ => False
noncomputable def EW : Env := ⟨Try.prog, fnOf, conB, haltAt [30004, 30007, 30011, 30014, 30017]⟩
noncomputable def wA_d0 : List SIt := sekF Try.f30 4
noncomputable def wA_F (off : Nat) (num : Nat) (cs : Array Value) (ty : TypeId) (sh : Int) (rw : Array Value) (nn : Int) (i : Int) (zs : Array Value) (ws : Array Value) : List SFr := [frOf 30 Try.f30 [(0, prS off num), (1, i64 (.o sh)), (4, ptr 1 (.l 0)), (5, ptr 2 (.l 0)), (6, i64 (.o nn)), (7, i64 (.o i))] wA_d0]
noncomputable def wA_M (off : Nat) (num : Nat) (cs : Array Value) (ty : TypeId) (sh : Int) (rw : Array Value) (nn : Int) (i : Int) (zs : Array Value) (ws : Array Value) : SMem := mkM 3 [(0, ⟨.pop cs, ty, false⟩), (1, ⟨.op zs, 61, true⟩), (2, ⟨.op ws, 61, true⟩)]
noncomputable def wA_n (off : Nat) (num : Nat) (cs : Array Value) (ty : TypeId) (sh : Int) (rw : Array Value) (Q : Int → Int → Array Value → Array Value → Prop) (fs : List SFr) (m : SMem) : Prop := (match frNth fs 0 with | some f0 => (match rdI f0 6 with | some nn => (match rdI f0 7 with | some i => (match rdP f0 4 with | some p1 => (match rdP f0 5 with | some p2 => (match rdA m p1 with | some zs => (match rdA m p2 with | some ws => Q nn i zs ws ∧ subOk 1 [(1, p1), (2, p2)] (wA_F off num cs ty sh rw nn i zs ws) (wA_M off num cs ty sh rw nn i zs ws) fs m | none => False) | none => False) | none => False) | none => False) | none => False) | none => False) | none => False)
noncomputable def wB_d0 : List SIt := sekF Try.f30 7
noncomputable def wB_F (off : Nat) (num : Nat) (cs : Array Value) (ty : TypeId) (sh : Int) (rw : Array Value) (nn : Int) (i : Int) (j : Int) (zs : Array Value) (ws : Array Value) : List SFr := [frOf 30 Try.f30 [(0, prS off num), (1, i64 (.o sh)), (4, ptr 1 (.l 0)), (5, ptr 2 (.l 0)), (6, i64 (.o nn)), (7, i64 (.o i)), (8, i64 (.o j))] wB_d0]
noncomputable def wB_M (off : Nat) (num : Nat) (cs : Array Value) (ty : TypeId) (sh : Int) (rw : Array Value) (nn : Int) (i : Int) (j : Int) (zs : Array Value) (ws : Array Value) : SMem := mkM 3 [(0, ⟨.pop cs, ty, false⟩), (1, ⟨.op zs, 61, true⟩), (2, ⟨.op ws, 61, true⟩)]
noncomputable def wB_n (off : Nat) (num : Nat) (cs : Array Value) (ty : TypeId) (sh : Int) (rw : Array Value) (Q : Int → Int → Int → Array Value → Array Value → Prop) (fs : List SFr) (m : SMem) : Prop := (match frNth fs 0 with | some f0 => (match rdI f0 6 with | some nn => (match rdI f0 7 with | some i => (match rdI f0 8 with | some j => (match rdP f0 4 with | some p1 => (match rdP f0 5 with | some p2 => (match rdA m p1 with | some zs => (match rdA m p2 with | some ws => Q nn i j zs ws ∧ subOk 1 [(1, p1), (2, p2)] (wB_F off num cs ty sh rw nn i j zs ws) (wB_M off num cs ty sh rw nn i j zs ws) fs m | none => False) | none => False) | none => False) | none => False) | none => False) | none => False) | none => False) | none => False)
noncomputable def wC_d0 : List SIt := sekF Try.f30 11
noncomputable def wC_F (off : Nat) (num : Nat) (cs : Array Value) (ty : TypeId) (sh : Int) (rw : Array Value) (nn : Int) (k : Int) (zs : Array Value) (ws : Array Value) : List SFr := [frOf 30 Try.f30 [(4, ptr 1 (.l 0)), (5, ptr 2 (.l 0)), (6, i64 (.o nn)), (9, i64 (.o k))] wC_d0]
noncomputable def wC_M (off : Nat) (num : Nat) (cs : Array Value) (ty : TypeId) (sh : Int) (rw : Array Value) (nn : Int) (k : Int) (zs : Array Value) (ws : Array Value) : SMem := mkM 3 [(1, ⟨.op zs, 61, true⟩), (2, ⟨.op ws, 61, true⟩)]
noncomputable def wC_n (off : Nat) (num : Nat) (cs : Array Value) (ty : TypeId) (sh : Int) (rw : Array Value) (Q : Int → Int → Array Value → Array Value → Prop) (fs : List SFr) (m : SMem) : Prop := (match frNth fs 0 with | some f0 => (match rdI f0 6 with | some nn => (match rdI f0 9 with | some k => (match rdP f0 4 with | some p1 => (match rdP f0 5 with | some p2 => (match rdA m p1 with | some zs => (match rdA m p2 with | some ws => Q nn k zs ws ∧ subOk 1 [(1, p1), (2, p2)] (wC_F off num cs ty sh rw nn k zs ws) (wC_M off num cs ty sh rw nn k zs ws) fs m | none => False) | none => False) | none => False) | none => False) | none => False) | none => False) | none => False)
noncomputable def wD_d0 : List SIt := sekF Try.f30 14
noncomputable def wD_F (off : Nat) (num : Nat) (cs : Array Value) (ty : TypeId) (sh : Int) (rw : Array Value) (nn : Int) (k : Int) (i : Int) (zs : Array Value) (ws : Array Value) : List SFr := [frOf 30 Try.f30 [(4, ptr 1 (.l 0)), (5, ptr 2 (.l 0)), (6, i64 (.o nn)), (9, i64 (.o k)), (10, i64 (.o i))] wD_d0]
noncomputable def wD_M (off : Nat) (num : Nat) (cs : Array Value) (ty : TypeId) (sh : Int) (rw : Array Value) (nn : Int) (k : Int) (i : Int) (zs : Array Value) (ws : Array Value) : SMem := mkM 3 [(1, ⟨.op zs, 61, true⟩), (2, ⟨.op ws, 61, true⟩)]
noncomputable def wD_n (off : Nat) (num : Nat) (cs : Array Value) (ty : TypeId) (sh : Int) (rw : Array Value) (Q : Int → Int → Int → Array Value → Array Value → Prop) (fs : List SFr) (m : SMem) : Prop := (match frNth fs 0 with | some f0 => (match rdI f0 6 with | some nn => (match rdI f0 9 with | some k => (match rdI f0 10 with | some i => (match rdP f0 4 with | some p1 => (match rdP f0 5 with | some p2 => (match rdA m p1 with | some zs => (match rdA m p2 with | some ws => Q nn k i zs ws ∧ subOk 1 [(1, p1), (2, p2)] (wD_F off num cs ty sh rw nn k i zs ws) (wD_M off num cs ty sh rw nn k i zs ws) fs m | none => False) | none => False) | none => False) | none => False) | none => False) | none => False) | none => False) | none => False)
noncomputable def wE_d0 : List SIt := sekF Try.f30 17
noncomputable def wE_F (off : Nat) (num : Nat) (cs : Array Value) (ty : TypeId) (sh : Int) (rw : Array Value) (nn : Int) (k : Int) (i : Int) (j : Int) (zs : Array Value) (ws : Array Value) : List SFr := [frOf 30 Try.f30 [(4, ptr 1 (.l 0)), (5, ptr 2 (.l 0)), (6, i64 (.o nn)), (9, i64 (.o k)), (10, i64 (.o i)), (11, i64 (.o j))] wE_d0]
noncomputable def wE_M (off : Nat) (num : Nat) (cs : Array Value) (ty : TypeId) (sh : Int) (rw : Array Value) (nn : Int) (k : Int) (i : Int) (j : Int) (zs : Array Value) (ws : Array Value) : SMem := mkM 3 [(1, ⟨.op zs, 61, true⟩), (2, ⟨.op ws, 61, true⟩)]
noncomputable def wE_n (off : Nat) (num : Nat) (cs : Array Value) (ty : TypeId) (sh : Int) (rw : Array Value) (Q : Int → Int → Int → Int → Array Value → Array Value → Prop) (fs : List SFr) (m : SMem) : Prop := (match frNth fs 0 with | some f0 => (match rdI f0 6 with | some nn => (match rdI f0 9 with | some k => (match rdI f0 10 with | some i => (match rdI f0 11 with | some j => (match rdP f0 4 with | some p1 => (match rdP f0 5 with | some p2 => (match rdA m p1 with | some zs => (match rdA m p2 with | some ws => Q nn k i j zs ws ∧ subOk 1 [(1, p1), (2, p2)] (wE_F off num cs ty sh rw nn k i j zs ws) (wE_M off num cs ty sh rw nn k i j zs ws) fs m | none => False) | none => False) | none => False) | none => False) | none => False) | none => False) | none => False) | none => False) | none => False)
noncomputable def Ws_t (off : Nat) (num : Nat) (cs : Array Value) (ty : TypeId) (sh : Int) (rw : Array Value) : Tree := run EW 8000 1 [callFr 30 Try.f30.ntmps [prS off num, i64 (.o sh)] (Try.f30.body.getD .skip)] (prM false cs ty)
noncomputable def Ws_x (off : Nat) (num : Nat) (cs : Array Value) (ty : TypeId) (sh : Int) (rw : Array Value) (QwA : Int → Int → Array Value → Array Value → Prop) (fs : List SFr) (m : SMem) : Prop := wA_n off num cs ty sh rw QwA fs m
noncomputable def tA_t (off : Nat) (num : Nat) (cs : Array Value) (ty : TypeId) (sh : Int) (rw : Array Value) (nn : Int) (i : Int) (zs : Array Value) (ws : Array Value) : Tree := stepT EW.go (run EW 1000) 1 (wA_F off num cs ty sh rw nn i zs ws) (wA_M off num cs ty sh rw nn i zs ws)
noncomputable def tA_x (off : Nat) (num : Nat) (cs : Array Value) (ty : TypeId) (sh : Int) (rw : Array Value) (nn : Int) (i : Int) (zs : Array Value) (ws : Array Value) (QwB : Int → Int → Int → Array Value → Array Value → Prop) (QwC : Int → Int → Array Value → Array Value → Prop) (fs : List SFr) (m : SMem) : Prop := (match Nat.beq (atR fs) 30007 with | true => wB_n off num cs ty sh rw QwB fs m | false => wC_n off num cs ty sh rw QwC fs m)
noncomputable def tB_t (off : Nat) (num : Nat) (cs : Array Value) (ty : TypeId) (sh : Int) (rw : Array Value) (nn : Int) (i : Int) (j : Int) (zs : Array Value) (ws : Array Value) : Tree := stepT EW.go (run EW 1000) 1 (wB_F off num cs ty sh rw nn i j zs ws) (wB_M off num cs ty sh rw nn i j zs ws)
noncomputable def tB_x (off : Nat) (num : Nat) (cs : Array Value) (ty : TypeId) (sh : Int) (rw : Array Value) (nn : Int) (i : Int) (j : Int) (zs : Array Value) (ws : Array Value) (QwB : Int → Int → Int → Array Value → Array Value → Prop) (QwA : Int → Int → Array Value → Array Value → Prop) (fs : List SFr) (m : SMem) : Prop := (match Nat.beq (atR fs) 30007 with | true => wB_n off num cs ty sh rw QwB fs m | false => wA_n off num cs ty sh rw QwA fs m)
noncomputable def tC_t (off : Nat) (num : Nat) (cs : Array Value) (ty : TypeId) (sh : Int) (rw : Array Value) (nn : Int) (k : Int) (zs : Array Value) (ws : Array Value) : Tree := stepT EW.go (run EW 1000) 1 (wC_F off num cs ty sh rw nn k zs ws) (wC_M off num cs ty sh rw nn k zs ws)
noncomputable def tC_x (off : Nat) (num : Nat) (cs : Array Value) (ty : TypeId) (sh : Int) (rw : Array Value) (nn : Int) (k : Int) (zs : Array Value) (ws : Array Value) (QwD : Int → Int → Int → Array Value → Array Value → Prop) (fs : List SFr) (m : SMem) : Prop := wD_n off num cs ty sh rw QwD fs m
noncomputable def tD_t (off : Nat) (num : Nat) (cs : Array Value) (ty : TypeId) (sh : Int) (rw : Array Value) (nn : Int) (k : Int) (i : Int) (zs : Array Value) (ws : Array Value) : Tree := stepT EW.go (run EW 1000) 1 (wD_F off num cs ty sh rw nn k i zs ws) (wD_M off num cs ty sh rw nn k i zs ws)
noncomputable def tD_x (off : Nat) (num : Nat) (cs : Array Value) (ty : TypeId) (sh : Int) (rw : Array Value) (nn : Int) (k : Int) (i : Int) (zs : Array Value) (ws : Array Value) (QwE : Int → Int → Int → Int → Array Value → Array Value → Prop) (QwC : Int → Int → Array Value → Array Value → Prop) (fs : List SFr) (m : SMem) : Prop := (match Nat.beq (atR fs) 30017 with | true => wE_n off num cs ty sh rw QwE fs m | false => wC_n off num cs ty sh rw QwC fs m)
noncomputable def tE_t (off : Nat) (num : Nat) (cs : Array Value) (ty : TypeId) (sh : Int) (rw : Array Value) (nn : Int) (k : Int) (i : Int) (j : Int) (zs : Array Value) (ws : Array Value) : Tree := stepT EW.go (run EW 1000) 1 (wE_F off num cs ty sh rw nn k i j zs ws) (wE_M off num cs ty sh rw nn k i j zs ws)
noncomputable def tE_x (off : Nat) (num : Nat) (cs : Array Value) (ty : TypeId) (sh : Int) (rw : Array Value) (nn : Int) (k : Int) (i : Int) (j : Int) (zs : Array Value) (ws : Array Value) (QwE : Int → Int → Int → Int → Array Value → Array Value → Prop) (QwD : Int → Int → Int → Array Value → Array Value → Prop) (fs : List SFr) (m : SMem) : Prop := (match Nat.beq (atR fs) 30017 with | true => wE_n off num cs ty sh rw QwE fs m | false => wD_n off num cs ty sh rw QwD fs m)
theorem wA_d0_ok (r : Nat → Option Nat) : TodoOk r wA_d0 wA_d0 := TodoOk.it (by kernel_rfl)
theorem wB_d0_ok (r : Nat → Option Nat) : TodoOk r wB_d0 wB_d0 := TodoOk.it (by kernel_rfl)
theorem wC_d0_ok (r : Nat → Option Nat) : TodoOk r wC_d0 wC_d0 := TodoOk.it (by kernel_rfl)
theorem wD_d0_ok (r : Nat → Option Nat) : TodoOk r wD_d0 wD_d0 := TodoOk.it (by kernel_rfl)
theorem wE_d0_ok (r : Nat → Option Nat) : TodoOk r wE_d0 wE_d0 := TodoOk.it (by kernel_rfl)
theorem wA_good {A : SV → SMem → Prop} {off : Nat} {num : Nat} {cs : Array Value} {ty : TypeId} {sh : Int} {rw : Array Value} {Q : Int → Int → Array Value → Array Value → Prop} {fs : List SFr} {m : SMem} (H : ∀ nn i zs ws, Q nn i zs ws → Good Try.prog A 1 (wA_F off num cs ty sh rw nn i zs ws) (wA_M off num cs ty sh rw nn i zs ws)) (hb : wA_n off num cs ty sh rw Q fs m) : Good Try.prog A 1 fs m := by
  unfold wA_n at hb
  split at hb
  rotate_left
  · exact hb.elim
  split at hb
  rotate_left
  · exact hb.elim
  split at hb
  rotate_left
  · exact hb.elim
  split at hb
  rotate_left
  · exact hb.elim
  split at hb
  rotate_left
  · exact hb.elim
  split at hb
  rotate_left
  · exact hb.elim
  split at hb
  rotate_left
  · exact hb.elim
  exact Good.of_sub hb.2 (H _ _ _ _ hb.1)
theorem wB_good {A : SV → SMem → Prop} {off : Nat} {num : Nat} {cs : Array Value} {ty : TypeId} {sh : Int} {rw : Array Value} {Q : Int → Int → Int → Array Value → Array Value → Prop} {fs : List SFr} {m : SMem} (H : ∀ nn i j zs ws, Q nn i j zs ws → Good Try.prog A 1 (wB_F off num cs ty sh rw nn i j zs ws) (wB_M off num cs ty sh rw nn i j zs ws)) (hb : wB_n off num cs ty sh rw Q fs m) : Good Try.prog A 1 fs m := by
  unfold wB_n at hb
  split at hb
  rotate_left
  · exact hb.elim
  split at hb
  rotate_left
  · exact hb.elim
  split at hb
  rotate_left
  · exact hb.elim
  split at hb
  rotate_left
  · exact hb.elim
  split at hb
  rotate_left
  · exact hb.elim
  split at hb
  rotate_left
  · exact hb.elim
  split at hb
  rotate_left
  · exact hb.elim
  split at hb
  rotate_left
  · exact hb.elim
  exact Good.of_sub hb.2 (H _ _ _ _ _ hb.1)
theorem wC_good {A : SV → SMem → Prop} {off : Nat} {num : Nat} {cs : Array Value} {ty : TypeId} {sh : Int} {rw : Array Value} {Q : Int → Int → Array Value → Array Value → Prop} {fs : List SFr} {m : SMem} (H : ∀ nn k zs ws, Q nn k zs ws → Good Try.prog A 1 (wC_F off num cs ty sh rw nn k zs ws) (wC_M off num cs ty sh rw nn k zs ws)) (hb : wC_n off num cs ty sh rw Q fs m) : Good Try.prog A 1 fs m := by
  unfold wC_n at hb
  split at hb
  rotate_left
  · exact hb.elim
  split at hb
  rotate_left
  · exact hb.elim
  split at hb
  rotate_left
  · exact hb.elim
  split at hb
  rotate_left
  · exact hb.elim
  split at hb
  rotate_left
  · exact hb.elim
  split at hb
  rotate_left
  · exact hb.elim
  split at hb
  rotate_left
  · exact hb.elim
  exact Good.of_sub hb.2 (H _ _ _ _ hb.1)
theorem wD_good {A : SV → SMem → Prop} {off : Nat} {num : Nat} {cs : Array Value} {ty : TypeId} {sh : Int} {rw : Array Value} {Q : Int → Int → Int → Array Value → Array Value → Prop} {fs : List SFr} {m : SMem} (H : ∀ nn k i zs ws, Q nn k i zs ws → Good Try.prog A 1 (wD_F off num cs ty sh rw nn k i zs ws) (wD_M off num cs ty sh rw nn k i zs ws)) (hb : wD_n off num cs ty sh rw Q fs m) : Good Try.prog A 1 fs m := by
  unfold wD_n at hb
  split at hb
  rotate_left
  · exact hb.elim
  split at hb
  rotate_left
  · exact hb.elim
  split at hb
  rotate_left
  · exact hb.elim
  split at hb
  rotate_left
  · exact hb.elim
  split at hb
  rotate_left
  · exact hb.elim
  split at hb
  rotate_left
  · exact hb.elim
  split at hb
  rotate_left
  · exact hb.elim
  split at hb
  rotate_left
  · exact hb.elim
  exact Good.of_sub hb.2 (H _ _ _ _ _ hb.1)
theorem wE_good {A : SV → SMem → Prop} {off : Nat} {num : Nat} {cs : Array Value} {ty : TypeId} {sh : Int} {rw : Array Value} {Q : Int → Int → Int → Int → Array Value → Array Value → Prop} {fs : List SFr} {m : SMem} (H : ∀ nn k i j zs ws, Q nn k i j zs ws → Good Try.prog A 1 (wE_F off num cs ty sh rw nn k i j zs ws) (wE_M off num cs ty sh rw nn k i j zs ws)) (hb : wE_n off num cs ty sh rw Q fs m) : Good Try.prog A 1 fs m := by
  unfold wE_n at hb
  split at hb
  rotate_left
  · exact hb.elim
  split at hb
  rotate_left
  · exact hb.elim
  split at hb
  rotate_left
  · exact hb.elim
  split at hb
  rotate_left
  · exact hb.elim
  split at hb
  rotate_left
  · exact hb.elim
  split at hb
  rotate_left
  · exact hb.elim
  split at hb
  rotate_left
  · exact hb.elim
  split at hb
  rotate_left
  · exact hb.elim
  split at hb
  rotate_left
  · exact hb.elim
  exact Good.of_sub hb.2 (H _ _ _ _ _ _ hb.1)
theorem Ws_go {A : SV → SMem → Prop} {off : Nat} {num : Nat} {cs : Array Value} {ty : TypeId} {sh : Int} {rw : Array Value} {QwA : Int → Int → Array Value → Array Value → Prop} {fs : List SFr} {m : SMem} (hwA : ∀ nn' i' zs' ws', QwA nn' i' zs' ws' → Good Try.prog A 1 (wA_F off num cs ty sh rw nn' i' zs' ws') (wA_M off num cs ty sh rw nn' i' zs' ws')) (hb : Ws_x off num cs ty sh rw QwA fs m) : Good Try.prog A 1 fs m := by
  unfold Ws_x at hb
  exact wA_good hwA hb
theorem tA_go {A : SV → SMem → Prop} {off : Nat} {num : Nat} {cs : Array Value} {ty : TypeId} {sh : Int} {rw : Array Value} {nn : Int} {i : Int} {zs : Array Value} {ws : Array Value} {QwB : Int → Int → Int → Array Value → Array Value → Prop} {QwC : Int → Int → Array Value → Array Value → Prop} {fs : List SFr} {m : SMem} (hwB : ∀ nn' i' j' zs' ws', QwB nn' i' j' zs' ws' → Good Try.prog A 1 (wB_F off num cs ty sh rw nn' i' j' zs' ws') (wB_M off num cs ty sh rw nn' i' j' zs' ws')) (hwC : ∀ nn' k' zs' ws', QwC nn' k' zs' ws' → Good Try.prog A 1 (wC_F off num cs ty sh rw nn' k' zs' ws') (wC_M off num cs ty sh rw nn' k' zs' ws')) (hb : tA_x off num cs ty sh rw nn i zs ws QwB QwC fs m) : Good Try.prog A 1 fs m := by
  unfold tA_x at hb
  split at hb
  · exact wB_good hwB hb
  exact wC_good hwC hb
theorem tB_go {A : SV → SMem → Prop} {off : Nat} {num : Nat} {cs : Array Value} {ty : TypeId} {sh : Int} {rw : Array Value} {nn : Int} {i : Int} {j : Int} {zs : Array Value} {ws : Array Value} {QwB : Int → Int → Int → Array Value → Array Value → Prop} {QwA : Int → Int → Array Value → Array Value → Prop} {fs : List SFr} {m : SMem} (hwB : ∀ nn' i' j' zs' ws', QwB nn' i' j' zs' ws' → Good Try.prog A 1 (wB_F off num cs ty sh rw nn' i' j' zs' ws') (wB_M off num cs ty sh rw nn' i' j' zs' ws')) (hwA : ∀ nn' i' zs' ws', QwA nn' i' zs' ws' → Good Try.prog A 1 (wA_F off num cs ty sh rw nn' i' zs' ws') (wA_M off num cs ty sh rw nn' i' zs' ws')) (hb : tB_x off num cs ty sh rw nn i j zs ws QwB QwA fs m) : Good Try.prog A 1 fs m := by
  unfold tB_x at hb
  split at hb
  · exact wB_good hwB hb
  exact wA_good hwA hb
theorem tC_go {A : SV → SMem → Prop} {off : Nat} {num : Nat} {cs : Array Value} {ty : TypeId} {sh : Int} {rw : Array Value} {nn : Int} {k : Int} {zs : Array Value} {ws : Array Value} {QwD : Int → Int → Int → Array Value → Array Value → Prop} {fs : List SFr} {m : SMem} (hwD : ∀ nn' k' i' zs' ws', QwD nn' k' i' zs' ws' → Good Try.prog A 1 (wD_F off num cs ty sh rw nn' k' i' zs' ws') (wD_M off num cs ty sh rw nn' k' i' zs' ws')) (hb : tC_x off num cs ty sh rw nn k zs ws QwD fs m) : Good Try.prog A 1 fs m := by
  unfold tC_x at hb
  exact wD_good hwD hb
theorem tD_go {A : SV → SMem → Prop} {off : Nat} {num : Nat} {cs : Array Value} {ty : TypeId} {sh : Int} {rw : Array Value} {nn : Int} {k : Int} {i : Int} {zs : Array Value} {ws : Array Value} {QwE : Int → Int → Int → Int → Array Value → Array Value → Prop} {QwC : Int → Int → Array Value → Array Value → Prop} {fs : List SFr} {m : SMem} (hwE : ∀ nn' k' i' j' zs' ws', QwE nn' k' i' j' zs' ws' → Good Try.prog A 1 (wE_F off num cs ty sh rw nn' k' i' j' zs' ws') (wE_M off num cs ty sh rw nn' k' i' j' zs' ws')) (hwC : ∀ nn' k' zs' ws', QwC nn' k' zs' ws' → Good Try.prog A 1 (wC_F off num cs ty sh rw nn' k' zs' ws') (wC_M off num cs ty sh rw nn' k' zs' ws')) (hb : tD_x off num cs ty sh rw nn k i zs ws QwE QwC fs m) : Good Try.prog A 1 fs m := by
  unfold tD_x at hb
  split at hb
  · exact wE_good hwE hb
  exact wC_good hwC hb
theorem tE_go {A : SV → SMem → Prop} {off : Nat} {num : Nat} {cs : Array Value} {ty : TypeId} {sh : Int} {rw : Array Value} {nn : Int} {k : Int} {i : Int} {j : Int} {zs : Array Value} {ws : Array Value} {QwE : Int → Int → Int → Int → Array Value → Array Value → Prop} {QwD : Int → Int → Int → Array Value → Array Value → Prop} {fs : List SFr} {m : SMem} (hwE : ∀ nn' k' i' j' zs' ws', QwE nn' k' i' j' zs' ws' → Good Try.prog A 1 (wE_F off num cs ty sh rw nn' k' i' j' zs' ws') (wE_M off num cs ty sh rw nn' k' i' j' zs' ws')) (hwD : ∀ nn' k' i' zs' ws', QwD nn' k' i' zs' ws' → Good Try.prog A 1 (wD_F off num cs ty sh rw nn' k' i' zs' ws') (wD_M off num cs ty sh rw nn' k' i' zs' ws')) (hb : tE_x off num cs ty sh rw nn k i j zs ws QwE QwD fs m) : Good Try.prog A 1 fs m := by
  unfold tE_x at hb
  split at hb
  · exact wE_good hwE hb
  exact wD_good hwD hb
end Go.Proofs.Ytebkbihhnoellaa
/- Of flow: Ways: its states. -/
namespace Go.Proofs.Ytebkbihhnoellaa
set_option maxRecDepth 100000
theorem Ws_vc (off : Nat) (num : Nat) (cs : Array Value) (ty : TypeId) (sh : Int) (rw : Array Value) (QwA : Int → Int → Array Value → Array Value → Prop) : (Ws_t off num cs ty sh rw).vc ((aggR rw)) (Ws_x off num cs ty sh rw QwA) =
    (QwA (ari BinOp.add IntKind.i64 (↑num : Int) (1 : Int)) (0 : Int) (bigZ (Env.P EW) (61 : Nat)) (bigZ (Env.P EW) (61 : Nat)) ∧ CallKind.normal = CallKind.normal ∧ TodoOk (ren 1 [(1, 1), (2, 2)]) wA_d0 wA_d0 ∧ off = off ∧ num = num ∧ sh = sh ∧ (0 : Int) = (0 : Int) ∧ ari BinOp.add IntKind.i64 (↑num : Int) (1 : Int) = ari BinOp.add IntKind.i64 (↑num : Int) (1 : Int) ∧ ty = ty ∧ cs = cs ∧ (61 : TypeId) = (61 : Nat) ∧ bigZ (Env.P EW) (61 : Nat) = bigZ (Env.P EW) (61 : Nat) ∧ (61 : TypeId) = (61 : Nat) ∧ bigZ (Env.P EW) (61 : Nat) = bigZ (Env.P EW) (61 : Nat) ∧ True) := by kernel_rfl
theorem tA_vc (off : Nat) (num : Nat) (cs : Array Value) (ty : TypeId) (sh : Int) (rw : Array Value) (nn : Int) (i : Int) (zs : Array Value) (ws : Array Value) (QwB : Int → Int → Int → Array Value → Array Value → Prop) (QwC : Int → Int → Array Value → Array Value → Prop) : (tA_t off num cs ty sh rw nn i zs ws).vc ((aggR rw)) (tA_x off num cs ty sh rw nn i zs ws QwB QwC) =
    ((decide (i < nn) = true → QwB nn i (0 : Int) zs ws ∧ CallKind.normal = CallKind.normal ∧ TodoOk (ren 1 [(1, 1), (2, 2)]) wB_d0 wB_d0 ∧ off = off ∧ num = num ∧ sh = sh ∧ i = i ∧ (0 : Int) = (0 : Int) ∧ nn = nn ∧ ty = ty ∧ cs = cs ∧ (61 : TypeId) = (61 : TypeId) ∧ zs = zs ∧ (61 : TypeId) = (61 : TypeId) ∧ ws = ws ∧ True) ∧ (decide (i < nn) = false → QwC nn (0 : Int) zs ws ∧ CallKind.normal = CallKind.normal ∧ TodoOk (ren 1 [(1, 1), (2, 2)]) wC_d0 wC_d0 ∧ (0 : Int) = (0 : Int) ∧ nn = nn ∧ (61 : TypeId) = (61 : TypeId) ∧ zs = zs ∧ (61 : TypeId) = (61 : TypeId) ∧ ws = ws ∧ True)) := by kernel_rfl
theorem tB_vc (off : Nat) (num : Nat) (cs : Array Value) (ty : TypeId) (sh : Int) (rw : Array Value) (nn : Int) (i : Int) (j : Int) (zs : Array Value) (ws : Array Value) (QwB : Int → Int → Int → Array Value → Array Value → Prop) (QwA : Int → Int → Array Value → Array Value → Prop) : (tB_t off num cs ty sh rw nn i j zs ws).vc ((aggR rw)) (tB_x off num cs ty sh rw nn i j zs ws QwB QwA) =
    ((decide (j < nn) = true → (RowOk cs off num ∧ True) ∧ ((edB cs off num i j == true) = true → (((i != sh) == true) = true → (((0 : Int) ≤ i ∧ i < (65 : Int)) ∧ True) ∧ (((0 : Int) ≤ j ∧ j < (65 : Int)) ∧ True) ∧ ((0 : Nat) + Int.toNat i * 65 + Int.toNat j * 1 < Array.size ws ∧ True) ∧ QwB nn i (ari BinOp.add IntKind.i64 j (1 : Int)) zs (Array.setIfInBounds ws ((0 : Nat) + Int.toNat i * 65 + Int.toNat j * 1) (Value.bool (j != sh))) ∧ CallKind.normal = CallKind.normal ∧ TodoOk (ren 1 [(1, 1), (2, 2)]) wB_d0 wB_d0 ∧ off = off ∧ num = num ∧ sh = sh ∧ i = i ∧ ari BinOp.add IntKind.i64 j (1 : Int) = ari BinOp.add IntKind.i64 j (1 : Int) ∧ nn = nn ∧ ty = ty ∧ cs = cs ∧ (61 : TypeId) = (61 : TypeId) ∧ zs = zs ∧ (61 : TypeId) = (61 : TypeId) ∧ Array.setIfInBounds ws ((0 : Nat) + Int.toNat i * 65 + Int.toNat j * 1) (Value.bool (j != sh)) = Array.setIfInBounds ws ((0 : Nat) + Int.toNat i * 65 + Int.toNat j * 1) (Value.bool (j != sh)) ∧ True) ∧ (((i != sh) == true) = false → (((0 : Int) ≤ i ∧ i < (65 : Int)) ∧ True) ∧ (((0 : Int) ≤ j ∧ j < (65 : Int)) ∧ True) ∧ ((0 : Nat) + Int.toNat i * 65 + Int.toNat j * 1 < Array.size ws ∧ True) ∧ QwB nn i (ari BinOp.add IntKind.i64 j (1 : Int)) zs (Array.setIfInBounds ws ((0 : Nat) + Int.toNat i * 65 + Int.toNat j * 1) (Value.bool false)) ∧ CallKind.normal = CallKind.normal ∧ TodoOk (ren 1 [(1, 1), (2, 2)]) wB_d0 wB_d0 ∧ off = off ∧ num = num ∧ sh = sh ∧ i = i ∧ ari BinOp.add IntKind.i64 j (1 : Int) = ari BinOp.add IntKind.i64 j (1 : Int) ∧ nn = nn ∧ ty = ty ∧ cs = cs ∧ (61 : TypeId) = (61 : TypeId) ∧ zs = zs ∧ (61 : TypeId) = (61 : TypeId) ∧ Array.setIfInBounds ws ((0 : Nat) + Int.toNat i * 65 + Int.toNat j * 1) (Value.bool false) = Array.setIfInBounds ws ((0 : Nat) + Int.toNat i * 65 + Int.toNat j * 1) (Value.bool false) ∧ True)) ∧ ((edB cs off num i j == true) = false → (((0 : Int) ≤ i ∧ i < (65 : Int)) ∧ True) ∧ (((0 : Int) ≤ j ∧ j < (65 : Int)) ∧ True) ∧ ((0 : Nat) + Int.toNat i * 65 + Int.toNat j * 1 < Array.size ws ∧ True) ∧ QwB nn i (ari BinOp.add IntKind.i64 j (1 : Int)) zs (Array.setIfInBounds ws ((0 : Nat) + Int.toNat i * 65 + Int.toNat j * 1) (Value.bool false)) ∧ CallKind.normal = CallKind.normal ∧ TodoOk (ren 1 [(1, 1), (2, 2)]) wB_d0 wB_d0 ∧ off = off ∧ num = num ∧ sh = sh ∧ i = i ∧ ari BinOp.add IntKind.i64 j (1 : Int) = ari BinOp.add IntKind.i64 j (1 : Int) ∧ nn = nn ∧ ty = ty ∧ cs = cs ∧ (61 : TypeId) = (61 : TypeId) ∧ zs = zs ∧ (61 : TypeId) = (61 : TypeId) ∧ Array.setIfInBounds ws ((0 : Nat) + Int.toNat i * 65 + Int.toNat j * 1) (Value.bool false) = Array.setIfInBounds ws ((0 : Nat) + Int.toNat i * 65 + Int.toNat j * 1) (Value.bool false) ∧ True)) ∧ (decide (j < nn) = false → QwA nn (ari BinOp.add IntKind.i64 i (1 : Int)) zs ws ∧ CallKind.normal = CallKind.normal ∧ TodoOk (ren 1 [(1, 1), (2, 2)]) wA_d0 wA_d0 ∧ off = off ∧ num = num ∧ sh = sh ∧ ari BinOp.add IntKind.i64 i (1 : Int) = ari BinOp.add IntKind.i64 i (1 : Int) ∧ nn = nn ∧ ty = ty ∧ cs = cs ∧ (61 : TypeId) = (61 : TypeId) ∧ zs = zs ∧ (61 : TypeId) = (61 : TypeId) ∧ ws = ws ∧ True)) := by kernel_rfl
theorem tC_vc (off : Nat) (num : Nat) (cs : Array Value) (ty : TypeId) (sh : Int) (rw : Array Value) (nn : Int) (k : Int) (zs : Array Value) (ws : Array Value) (QwD : Int → Int → Int → Array Value → Array Value → Prop) : (tC_t off num cs ty sh rw nn k zs ws).vc ((aggR rw)) (tC_x off num cs ty sh rw nn k zs ws QwD) =
    ((decide (k < nn) = true → QwD nn k (0 : Int) zs ws ∧ CallKind.normal = CallKind.normal ∧ TodoOk (ren 1 [(1, 1), (2, 2)]) wD_d0 wD_d0 ∧ k = k ∧ nn = nn ∧ (0 : Int) = (0 : Int) ∧ (61 : TypeId) = (61 : TypeId) ∧ zs = zs ∧ (61 : TypeId) = (61 : TypeId) ∧ ws = ws ∧ True) ∧ (decide (k < nn) = false → (Array.size ws = (4225 : Nat) ∧ True) ∧ (Array.size ws = (4225 : Nat) ∧ Array.size ws = Array.size zs ∧ True) ∧ (Array.size ws = (4225 : Nat) ∧ True) ∧ ws = rw)) := by kernel_rfl
theorem tD_vc (off : Nat) (num : Nat) (cs : Array Value) (ty : TypeId) (sh : Int) (rw : Array Value) (nn : Int) (k : Int) (i : Int) (zs : Array Value) (ws : Array Value) (QwE : Int → Int → Int → Int → Array Value → Array Value → Prop) (QwC : Int → Int → Array Value → Array Value → Prop) : (tD_t off num cs ty sh rw nn k i zs ws).vc ((aggR rw)) (tD_x off num cs ty sh rw nn k i zs ws QwE QwC) =
    ((decide (i < nn) = true → QwE nn k i (0 : Int) zs ws ∧ CallKind.normal = CallKind.normal ∧ TodoOk (ren 1 [(1, 1), (2, 2)]) wE_d0 wE_d0 ∧ (0 : Int) = (0 : Int) ∧ k = k ∧ nn = nn ∧ i = i ∧ (61 : TypeId) = (61 : TypeId) ∧ zs = zs ∧ (61 : TypeId) = (61 : TypeId) ∧ ws = ws ∧ True) ∧ (decide (i < nn) = false → QwC nn (ari BinOp.add IntKind.i64 k (1 : Int)) zs ws ∧ CallKind.normal = CallKind.normal ∧ TodoOk (ren 1 [(1, 1), (2, 2)]) wC_d0 wC_d0 ∧ ari BinOp.add IntKind.i64 k (1 : Int) = ari BinOp.add IntKind.i64 k (1 : Int) ∧ nn = nn ∧ (61 : TypeId) = (61 : TypeId) ∧ zs = zs ∧ (61 : TypeId) = (61 : TypeId) ∧ ws = ws ∧ True)) := by kernel_rfl
theorem tE_vc (off : Nat) (num : Nat) (cs : Array Value) (ty : TypeId) (sh : Int) (rw : Array Value) (nn : Int) (k : Int) (i : Int) (j : Int) (zs : Array Value) (ws : Array Value) (QwE : Int → Int → Int → Int → Array Value → Array Value → Prop) (QwD : Int → Int → Int → Array Value → Array Value → Prop) : (tE_t off num cs ty sh rw nn k i j zs ws).vc ((aggR rw)) (tE_x off num cs ty sh rw nn k i j zs ws QwE QwD) =
    (((decide (j < nn) == true) = true → (((0 : Int) ≤ i ∧ i < (65 : Int)) ∧ True) ∧ (((0 : Int) ≤ k ∧ k < (65 : Int)) ∧ True) ∧ (IsBool ws ((0 : Nat) + Int.toNat i * 65 + Int.toNat k * 1) ∧ True) ∧ (boolAt ws ((0 : Nat) + Int.toNat i * 65 + Int.toNat k * 1) = true → (((0 : Int) ≤ i ∧ i < (65 : Int)) ∧ True) ∧ (((0 : Int) ≤ j ∧ j < (65 : Int)) ∧ True) ∧ (IsBool ws ((0 : Nat) + Int.toNat i * 65 + Int.toNat j * 1) ∧ True) ∧ ((boolAt ws ((0 : Nat) + Int.toNat i * 65 + Int.toNat j * 1) == false) = true → (((0 : Int) ≤ k ∧ k < (65 : Int)) ∧ True) ∧ (((0 : Int) ≤ j ∧ j < (65 : Int)) ∧ True) ∧ (IsBool ws ((0 : Nat) + Int.toNat k * 65 + Int.toNat j * 1) ∧ True) ∧ (((0 : Int) ≤ i ∧ i < (65 : Int)) ∧ True) ∧ (((0 : Int) ≤ j ∧ j < (65 : Int)) ∧ True) ∧ ((0 : Nat) + Int.toNat i * 65 + Int.toNat j * 1 < Array.size ws ∧ True) ∧ QwE nn k i (ari BinOp.add IntKind.i64 j (1 : Int)) zs (Array.setIfInBounds ws ((0 : Nat) + Int.toNat i * 65 + Int.toNat j * 1) (Value.bool (boolAt ws ((0 : Nat) + Int.toNat k * 65 + Int.toNat j * 1)))) ∧ CallKind.normal = CallKind.normal ∧ TodoOk (ren 1 [(1, 1), (2, 2)]) wE_d0 wE_d0 ∧ ari BinOp.add IntKind.i64 j (1 : Int) = ari BinOp.add IntKind.i64 j (1 : Int) ∧ k = k ∧ nn = nn ∧ i = i ∧ (61 : TypeId) = (61 : TypeId) ∧ zs = zs ∧ (61 : TypeId) = (61 : TypeId) ∧ Array.setIfInBounds ws ((0 : Nat) + Int.toNat i * 65 + Int.toNat j * 1) (Value.bool (boolAt ws ((0 : Nat) + Int.toNat k * 65 + Int.toNat j * 1))) = Array.setIfInBounds ws ((0 : Nat) + Int.toNat i * 65 + Int.toNat j * 1) (Value.bool (boolAt ws ((0 : Nat) + Int.toNat k * 65 + Int.toNat j * 1))) ∧ True) ∧ ((boolAt ws ((0 : Nat) + Int.toNat i * 65 + Int.toNat j * 1) == false) = false → (((0 : Int) ≤ i ∧ i < (65 : Int)) ∧ True) ∧ (((0 : Int) ≤ j ∧ j < (65 : Int)) ∧ True) ∧ ((0 : Nat) + Int.toNat i * 65 + Int.toNat j * 1 < Array.size ws ∧ True) ∧ QwE nn k i (ari BinOp.add IntKind.i64 j (1 : Int)) zs (Array.setIfInBounds ws ((0 : Nat) + Int.toNat i * 65 + Int.toNat j * 1) (Value.bool true)) ∧ CallKind.normal = CallKind.normal ∧ TodoOk (ren 1 [(1, 1), (2, 2)]) wE_d0 wE_d0 ∧ ari BinOp.add IntKind.i64 j (1 : Int) = ari BinOp.add IntKind.i64 j (1 : Int) ∧ k = k ∧ nn = nn ∧ i = i ∧ (61 : TypeId) = (61 : TypeId) ∧ zs = zs ∧ (61 : TypeId) = (61 : TypeId) ∧ Array.setIfInBounds ws ((0 : Nat) + Int.toNat i * 65 + Int.toNat j * 1) (Value.bool true) = Array.setIfInBounds ws ((0 : Nat) + Int.toNat i * 65 + Int.toNat j * 1) (Value.bool true) ∧ True)) ∧ (boolAt ws ((0 : Nat) + Int.toNat i * 65 + Int.toNat k * 1) = false → QwD nn k (ari BinOp.add IntKind.i64 i (1 : Int)) zs ws ∧ CallKind.normal = CallKind.normal ∧ TodoOk (ren 1 [(1, 1), (2, 2)]) wD_d0 wD_d0 ∧ k = k ∧ nn = nn ∧ ari BinOp.add IntKind.i64 i (1 : Int) = ari BinOp.add IntKind.i64 i (1 : Int) ∧ (61 : TypeId) = (61 : TypeId) ∧ zs = zs ∧ (61 : TypeId) = (61 : TypeId) ∧ ws = ws ∧ True)) ∧ ((decide (j < nn) == true) = false → QwD nn k (ari BinOp.add IntKind.i64 i (1 : Int)) zs ws ∧ CallKind.normal = CallKind.normal ∧ TodoOk (ren 1 [(1, 1), (2, 2)]) wD_d0 wD_d0 ∧ k = k ∧ nn = nn ∧ ari BinOp.add IntKind.i64 i (1 : Int) = ari BinOp.add IntKind.i64 i (1 : Int) ∧ (61 : TypeId) = (61 : TypeId) ∧ zs = zs ∧ (61 : TypeId) = (61 : TypeId) ∧ ws = ws ∧ True)) := by kernel_rfl
end Go.Proofs.Ytebkbihhnoellaa
/- Of flow: tables of truths, and Ways' mathematics. No condition. -/
namespace Go.Proofs.Ytebkbihhnoellaa
set_option maxRecDepth 100000
/-- A table of 65 rows of 65 truths. -/
def tbM (f : Nat → Nat → Bool) : Array Value := Array.ofFn fun p : Fin 4225 => Value.bool (f (p.val / 65) (p.val % 65))
theorem tbM_size (f : Nat → Nat → Bool) : (tbM f).size = 4225 := Array.size_ofFn
theorem tbM_get (f : Nat → Nat → Bool) {a b : Nat} (ha : a < 65) (hb : b < 65) : (tbM f)[0 + a * 65 + b * 1]? = some (.bool (f a b)) := by
  unfold tbM
  have h : 0 + a * 65 + b * 1 < 4225 := by omega
  rw [Array.getElem?_ofFn, dif_pos h]
  have e1 : (0 + a * 65 + b * 1) / 65 = a := by omega
  have e2 : (0 + a * 65 + b * 1) % 65 = b := by omega
  simp only [e1, e2]
theorem tbM_at (f : Nat → Nat → Bool) {a b : Nat} (ha : a < 65) (hb : b < 65) : boolAt (tbM f) (0 + a * 65 + b * 1) = f a b := boolAt_of (tbM_get f ha hb)
theorem tbM_is (f : Nat → Nat → Bool) {a b : Nat} (ha : a < 65) (hb : b < 65) : IsBool (tbM f) (0 + a * 65 + b * 1) := isBo_of (tbM_get f ha hb)
theorem tbM_ext {f g : Nat → Nat → Bool} (h : ∀ a b, a < 65 → b < 65 → f a b = g a b) : tbM f = tbM g := by
  unfold tbM
  congr 1
  funext p
  rw [h _ _ (by omega) (by omega)]
def upd (f : Nat → Nat → Bool) (i j : Nat) (v : Bool) (a b : Nat) : Bool := if a = i ∧ b = j then v else f a b
theorem tbM_set (f : Nat → Nat → Bool) {i j : Nat} (hi : i < 65) (hj : j < 65) (v : Bool) : (tbM f).setIfInBounds (0 + i * 65 + j * 1) (.bool v) = tbM (upd f i j v) := by
  apply Array.ext
  · rw [Array.size_setIfInBounds, tbM_size, tbM_size]
  · intro p h1 h2
    rw [tbM_size] at h2
    have e : ((tbM f).setIfInBounds (0 + i * 65 + j * 1) (.bool v))[p]? = (tbM (upd f i j v))[p]? := by
      have ep : p = 0 + (p / 65) * 65 + (p % 65) * 1 := by omega
      rw [ep, tbM_get _ (by omega) (by omega), Array.getElem?_setIfInBounds, tbM_get _ (by omega) (by omega), tbM_size]
      unfold upd
      by_cases h : 0 + i * 65 + j * 1 = 0 + p / 65 * 65 + p % 65 * 1
      · rw [if_pos h, if_pos (by omega), if_pos (by omega)]
      · rw [if_neg h, if_neg (by omega)]
    rw [Array.getElem?_eq_getElem h1, Array.getElem?_eq_getElem (by rw [tbM_size]; exact h2)] at e
    exact Option.some.inj e
def wR (e : Nat → Nat → Bool) : Nat → Nat → Nat → Bool
  | 0, i, j => e i j
  | k + 1, i, j => wR e k i j || (wR e k i k && wR e k k j)
theorem wR_col {e : Nat → Nat → Bool} (k i : Nat) : wR e (k + 1) i k = wR e k i k := by
  show (wR e k i k || (wR e k i k && wR e k k k)) = wR e k i k
  cases wR e k i k <;> simp
theorem wR_row {e : Nat → Nat → Bool} (k j : Nat) : wR e (k + 1) k j = wR e k k j := by
  show (wR e k k j || (wR e k k k && wR e k k j)) = wR e k k j
  cases wR e k k j <;> simp
section
variable (N : Nat) (e : Nat → Nat → Bool)
def fB (i j a b : Nat) : Bool := decide ((a < i ∧ b < N) ∨ (a = i ∧ b < j)) && e a b
def fA (i a b : Nat) : Bool := decide (a < i ∧ b < N) && e a b
def fC (k a b : Nat) : Bool := decide (a < N ∧ b < N) && wR e k a b
def fE (k i j a b : Nat) : Bool := decide (a < N ∧ b < N) && (if a < i ∨ (a = i ∧ b < j) then wR e (k + 1) a b else wR e k a b)
def fD (k i a b : Nat) : Bool := decide (a < N ∧ b < N) && (if a < i then wR e (k + 1) a b else wR e k a b)
variable {N} {e}
theorem fA_B (i : Nat) : fA N e i = fB N e i 0 := by
  funext a b; unfold fA fB; congr 1; rw [decide_eq_decide]; omega
theorem fB_A (i : Nat) : fB N e i N = fA N e (i + 1) := by
  funext a b; unfold fA fB; congr 1; rw [decide_eq_decide]; omega
theorem fB_step (i j : Nat) : upd (fB N e i j) i j (e i j) = fB N e i (j + 1) := by
  funext a b; unfold upd fB
  by_cases h : a = i ∧ b = j
  · obtain ⟨rfl, rfl⟩ := h
    rw [if_pos ⟨rfl, rfl⟩, decide_eq_true (by omega), Bool.true_and]
  · rw [if_neg h]; congr 1; rw [decide_eq_decide]; omega
theorem fA_C : fA N e N = fC N e 0 := by
  funext a b; unfold fA fC wR; rfl
theorem fA_0 : fA N e 0 = fun _ _ => false := by
  funext a b; unfold fA; rw [decide_eq_false (by omega), Bool.false_and]
theorem fC_D (k : Nat) : fC N e k = fD N e k 0 := by
  funext a b; unfold fC fD; rw [if_neg (by omega)]
theorem fD_C (k : Nat) : fD N e k N = fC N e (k + 1) := by
  funext a b; unfold fC fD
  by_cases h : a < N
  · rw [if_pos h]
  · rw [decide_eq_false (by omega), Bool.false_and, Bool.false_and]
theorem fD_E (k i : Nat) : fD N e k i = fE N e k i 0 := by
  funext a b; unfold fD fE; congr 1
  by_cases h : a < i
  · rw [if_pos h, if_pos (.inl h)]
  · rw [if_neg h, if_neg (by omega)]
theorem fE_D (k i : Nat) : fE N e k i N = fD N e k (i + 1) := by
  funext a b; unfold fD fE
  by_cases hb : b < N
  · congr 1
    by_cases h : a < i + 1
    · rw [if_pos h, if_pos (by omega)]
    · rw [if_neg h, if_neg (by omega)]
  · rw [decide_eq_false (by omega), Bool.false_and, Bool.false_and]
theorem fE_skip {k i j : Nat} (h : wR e k i k = false) : fE N e k i j = fD N e k (i + 1) := by
  funext a b; unfold fD fE; congr 1
  by_cases h1 : a < i ∨ (a = i ∧ b < j)
  · rw [if_pos h1, if_pos (by omega)]
  · rw [if_neg h1]
    by_cases h2 : a < i + 1
    · have h3 : a = i := by omega
      subst h3
      rw [if_pos h2]
      show wR e k a b = (wR e k a b || (wR e k a k && wR e k k b))
      rw [h]; simp
    · rw [if_neg h2]
theorem fE_step {k i j : Nat} (hi : i < N) (hj : j < N) : upd (fE N e k i j) i j (wR e (k + 1) i j) = fE N e k i (j + 1) := by
  funext a b; unfold upd fE
  by_cases h : a = i ∧ b = j
  · obtain ⟨rfl, rfl⟩ := h
    rw [if_pos ⟨rfl, rfl⟩, decide_eq_true (by omega), if_pos (by omega), Bool.true_and]
  · rw [if_neg h]; congr 1
    by_cases h1 : a < i ∨ (a = i ∧ b < j)
    · rw [if_pos h1, if_pos (by omega)]
    · rw [if_neg h1, if_neg (by omega)]
theorem fE_col {k i j : Nat} (hi : i < N) (hk : k < N) : fE N e k i j i k = wR e k i k := by
  unfold fE
  rw [decide_eq_true ⟨hi, hk⟩, Bool.true_and]
  split
  · exact wR_col k i
  · rfl
theorem fE_row {k i j : Nat} (hj : j < N) (hk : k < N) : fE N e k i j k j = wR e k k j := by
  unfold fE
  rw [decide_eq_true ⟨hk, hj⟩, Bool.true_and]
  split
  · exact wR_row k j
  · rfl
theorem fE_cell {k i j : Nat} (hi : i < N) (hj : j < N) : fE N e k i j i j = wR e k i j := by
  unfold fE
  rw [decide_eq_true ⟨hi, hj⟩, Bool.true_and, if_neg (by omega)]
end
/-- A way by places below a bound. -/
inductive PthK (e : Nat → Nat → Bool) (k : Nat) : Nat → Nat → Prop
  | one {i j : Nat} : e i j = true → PthK e k i j
  | cons {i b j : Nat} : e i b = true → b < k → PthK e k b j → PthK e k i j
theorem PthK.more {e : Nat → Nat → Bool} {k k' i j : Nat} (hk : k ≤ k') (h : PthK e k i j) : PthK e k' i j := by
  induction h with
  | one h => exact .one h
  | cons h1 h2 _ ih => exact .cons h1 (by omega) ih
theorem PthK.join {e : Nat → Nat → Bool} {k i b j : Nat} (hb : b < k) (h : PthK e k i b) (h' : PthK e k b j) : PthK e k i j := by
  induction h with
  | one h => exact .cons h hb h'
  | cons h1 h2 _ ih => exact .cons h1 h2 (ih hb h')
theorem wR_iff {e : Nat → Nat → Bool} : ∀ {k i j : Nat}, wR e k i j = true ↔ PthK e k i j
  | 0, i, j => ⟨fun h => .one h, fun h => by cases h with
    | one h => exact h
    | cons _ h _ => omega⟩
  | k + 1, i, j => by
    have ih : ∀ {i j : Nat}, wR e k i j = true ↔ PthK e k i j := wR_iff
    have hw : wR e (k + 1) i j = true ↔ PthK e k i j ∨ (PthK e k i k ∧ PthK e k k j) := by
      show (wR e k i j || (wR e k i k && wR e k k j)) = true ↔ _
      rw [Bool.or_eq_true, Bool.and_eq_true, ih, ih, ih]
    rw [hw]
    constructor
    · rintro (h | ⟨h1, h2⟩)
      · exact h.more (by omega)
      · exact PthK.join (b := k) (by omega) (h1.more (by omega)) (h2.more (by omega))
    · intro h
      clear hw
      induction h with
      | one h => exact .inl (.one h)
      | @cons i b j h1 h2 _ ih' =>
        by_cases hb : b < k
        · rcases ih' with h | ⟨h3, h4⟩
          · exact .inl (.cons h1 hb h)
          · exact .inr ⟨.cons h1 hb h3, h4⟩
        · have hb : b = k := by omega
          subst hb
          rcases ih' with h | ⟨_, h4⟩
          · exact .inr ⟨.one h1, h⟩
          · exact .inr ⟨.one h1, h4⟩
/-- The table of ways is what is reached, going on once or more. -/
theorem way_iff {nx : Nat → List Nat} {s : Int} {n : Nat} (hx : ∀ i, i ≤ n → ∀ j ∈ nx i, j ≤ n) {e : Nat → Nat → Bool} (he : ∀ a b, a ≤ n → b ≤ n → (e a b = true ↔ b ∈ nx a ∧ (a : Int) ≠ s ∧ (b : Int) ≠ s)) {i j : Nat} (hi : i ≤ n) (hj : j ≤ n) :
    wR e (n + 1) i j = true ↔ (i : Int) ≠ s ∧ ∃ b ∈ nx i, Rch nx s b j := by
  rw [wR_iff]
  constructor
  · intro h
    have : i ≤ n → j ≤ n → (i : Int) ≠ s ∧ ∃ b ∈ nx i, Rch nx s b j := by
      clear hi hj
      induction h with
      | one h =>
        intro hi hj
        obtain ⟨h1, h2, h3⟩ := (he _ _ hi hj).1 h
        exact ⟨h2, _, h1, .refl h3⟩
      | cons h1 h2 _ ih =>
        intro hi hj
        obtain ⟨k1, k2, k3⟩ := (he _ _ hi (by omega)).1 h1
        obtain ⟨_, c, hc, hr⟩ := ih (by omega) hj
        exact ⟨k2, _, k1, Rch.head k3 hc hr⟩
    exact this hi hj
  · rintro ⟨hs, b, hb, hr⟩
    have hbn := hx _ hi _ hb
    induction hr with
    | refl h => exact .one ((he _ _ hi hbn).2 ⟨hb, hs, h⟩)
    | @step c d hr h1 h2 ih =>
      have hc := hr.le hx hbn
      exact PthK.join (b := c) (by omega) (ih hc) (.one ((he _ _ hc hj).2 ⟨h1, hr.ne, h2⟩))
theorem zW_eq : bigZ (Env.P EW) 61 = tbM fun _ _ => false := by
  have h1 : (bigZ (Env.P EW) 61).toList = List.replicate 4225 (Value.bool false) := by kernel_rfl
  apply Array.ext'
  rw [h1]
  unfold tbM
  rw [Array.toList_ofFn]
  apply List.ext_getElem
  · simp
  · intro i h2 h3
    simp
end Go.Proofs.Ytebkbihhnoellaa
/- Of flow: Ways' rounds. No condition. -/
namespace Go.Proofs.Ytebkbihhnoellaa
set_option linter.unusedSectionVars false
set_option maxRecDepth 100000
theorem EW_ok : EnvOk EW := EnvOk.with E0_ok _ _ conB_ok
def wyE (cs : Array Value) (off num : Nat) (sh : Int) (a b : Nat) : Bool := edB cs off num a b && (decide ((a : Int) ≠ sh) && decide ((b : Int) ≠ sh))
/-- The table of ways. -/
def wyM (cs : Array Value) (off num : Nat) (sh : Int) : Array Value := tbM (fC (num + 1) (wyE cs off num sh) (num + 1))
def noM : Array Value := tbM fun _ _ => false
theorem i64_add1 {k : Nat} (h : k < 1000) : ari BinOp.add IntKind.i64 (k : Int) 1 = ((k + 1 : Nat) : Int) := by rw [ari_add, i64_nat (by omega)]
section
variable (off num : Nat) (cs : Array Value) (ty : TypeId) (sh : Int) (hR : RowOk cs off num) (hn : num ≤ 64)
include hR hn
theorem wE_round {k i : Nat} (hk : k < num + 1) (hi : i < num + 1)
    (hD : Good Try.prog (aggR (wyM cs off num sh)) 1 (wD_F off num cs ty sh (wyM cs off num sh) (num + 1 : Nat) k (i + 1 : Nat) noM (tbM (fD (num + 1) (wyE cs off num sh) k (i + 1)))) (wD_M off num cs ty sh (wyM cs off num sh) (num + 1 : Nat) k (i + 1 : Nat) noM (tbM (fD (num + 1) (wyE cs off num sh) k (i + 1))))) :
    ∀ (K j : Nat), num + 1 - j < K → j ≤ num + 1 → Good Try.prog (aggR (wyM cs off num sh)) 1 (wE_F off num cs ty sh (wyM cs off num sh) (num + 1 : Nat) k i j noM (tbM (fE (num + 1) (wyE cs off num sh) k i j))) (wE_M off num cs ty sh (wyM cs off num sh) (num + 1 : Nat) k i j noM (tbM (fE (num + 1) (wyE cs off num sh) k i j))) := by
  intro K
  induction K with
  | zero => intro j h; omega
  | succ K ih =>
    intro j hK hj
    refine past_vc EW_ok 1000 (tE_vc off num cs ty sh (wyM cs off num sh) (num + 1 : Nat) k i j noM (tbM (fE (num + 1) (wyE cs off num sh) k i j))
      (fun nn' k' i' j' zs' ws' => nn' = (num + 1 : Nat) ∧ k' = k ∧ i' = i ∧ j' = (j + 1 : Nat) ∧ zs' = noM ∧ ws' = tbM (fE (num + 1) (wyE cs off num sh) k i (j + 1)) ∧ j < num + 1)
      (fun nn' k' i' zs' ws' => nn' = (num + 1 : Nat) ∧ k' = k ∧ i' = (i + 1 : Nat) ∧ zs' = noM ∧ ws' = tbM (fD (num + 1) (wyE cs off num sh) k (i + 1)))) ?_ (fun _ _ h => h)
      (fun fs m hb => tE_go (fun nn' k' i' j' zs' ws' h => ?_) (fun nn' k' i' zs' ws' h => ?_) hb)
    · have w1 : (0 : Int) ≤ (i : Int) ∧ (i : Int) < 65 := by omega
      have w2 : (0 : Int) ≤ (k : Int) ∧ (k : Int) < 65 := by omega
      simp only [Int.toNat_natCast]
      rw [i64_add1 (show i < 1000 by omega)]
      by_cases d : j < num + 1
      · have e1 : decide ((j : Int) < ((num + 1 : Nat) : Int)) = true := decide_eq_true (by omega)
        have w3 : (0 : Int) ≤ (j : Int) ∧ (j : Int) < 65 := by omega
        rw [i64_add1 (show j < 1000 by omega), tbM_at _ (show i < 65 by omega) (show k < 65 by omega), tbM_at _ (show i < 65 by omega) (show j < 65 by omega), tbM_at _ (show k < 65 by omega) (show j < 65 by omega),
          fE_col hi hk, fE_cell hi d, fE_row d hk, tbM_set _ (show i < 65 by omega) (show j < 65 by omega), tbM_set _ (show i < 65 by omega) (show j < 65 by omega)]
        have b1 := tbM_is (fE (num + 1) (wyE cs off num sh) k i j) (show i < 65 by omega) (show k < 65 by omega)
        have b2 := tbM_is (fE (num + 1) (wyE cs off num sh) k i j) (show i < 65 by omega) (show j < 65 by omega)
        have b3 := tbM_is (fE (num + 1) (wyE cs off num sh) k i j) (show k < 65 by omega) (show j < 65 by omega)
        have w4 : 0 + i * 65 + j * 1 < (tbM (fE (num + 1) (wyE cs off num sh) k i j)).size := by rw [tbM_size]; omega
        have hst := fE_step (e := wyE cs off num sh) (k := k) hi d
        cases c1 : wR (wyE cs off num sh) k i k with
        | false =>
          have hs := fE_skip (N := num + 1) (j := j) c1
          rw [hs] at b1
          simp only [e1, b1, hs, w1, w2, beqT, beqF, Bool.not_true, Bool.not_false, Bool.true_eq_false, Bool.false_eq_true, false_implies, true_implies, true_and, and_true, wD_d0_ok]
        | true =>
          cases c2 : wR (wyE cs off num sh) k i j with
          | true =>
            have hv : wR (wyE cs off num sh) (k + 1) i j = true := by
              show (wR _ k i j || _) = true
              rw [c2]; rfl
            rw [hv] at hst
            simp only [e1, b1, b2, b3, w1, w2, w3, w4, hst, d, beqT, beqF, Bool.not_true, Bool.not_false, Bool.true_eq_false, Bool.false_eq_true, false_implies, true_implies, true_and, and_true, wE_d0_ok]
          | false =>
            have hv : wR (wyE cs off num sh) (k + 1) i j = wR (wyE cs off num sh) k k j := by
              show (wR _ k i j || (wR _ k i k && wR _ k k j)) = _
              rw [c2, c1]; simp
            rw [hv] at hst
            simp only [e1, b1, b2, b3, w1, w2, w3, w4, hst, d, beqT, beqF, Bool.not_true, Bool.not_false, Bool.true_eq_false, Bool.false_eq_true, false_implies, true_implies, true_and, and_true, wE_d0_ok]
      · have e1 : decide ((j : Int) < ((num + 1 : Nat) : Int)) = false := decide_eq_false (by omega)
        have ej : j = num + 1 := by omega
        have hs : fE (num + 1) (wyE cs off num sh) k i j = fD (num + 1) (wyE cs off num sh) k (i + 1) := by rw [ej]; exact fE_D k i
        simp only [e1, hs, beqT, beqF, Bool.not_true, Bool.not_false, Bool.true_eq_false, Bool.false_eq_true, false_implies, true_implies, true_and, and_true, wD_d0_ok]
    · obtain ⟨rfl, rfl, rfl, rfl, rfl, rfl, h⟩ := h
      exact ih (j + 1) (by omega) (by omega)
    · obtain ⟨rfl, rfl, rfl, rfl, rfl⟩ := h
      exact hD
theorem wD_round {k : Nat} (hk : k < num + 1)
    (hC : Good Try.prog (aggR (wyM cs off num sh)) 1 (wC_F off num cs ty sh (wyM cs off num sh) (num + 1 : Nat) (k + 1 : Nat) noM (tbM (fC (num + 1) (wyE cs off num sh) (k + 1)))) (wC_M off num cs ty sh (wyM cs off num sh) (num + 1 : Nat) (k + 1 : Nat) noM (tbM (fC (num + 1) (wyE cs off num sh) (k + 1))))) :
    ∀ (K i : Nat), num + 1 - i < K → i ≤ num + 1 → Good Try.prog (aggR (wyM cs off num sh)) 1 (wD_F off num cs ty sh (wyM cs off num sh) (num + 1 : Nat) k i noM (tbM (fD (num + 1) (wyE cs off num sh) k i))) (wD_M off num cs ty sh (wyM cs off num sh) (num + 1 : Nat) k i noM (tbM (fD (num + 1) (wyE cs off num sh) k i))) := by
  intro K
  induction K with
  | zero => intro i h; omega
  | succ K ih =>
    intro i hK hi
    refine past_vc EW_ok 1000 (tD_vc off num cs ty sh (wyM cs off num sh) (num + 1 : Nat) k i noM (tbM (fD (num + 1) (wyE cs off num sh) k i))
      (fun nn' k' i' j' zs' ws' => nn' = (num + 1 : Nat) ∧ k' = k ∧ i' = i ∧ j' = (0 : Nat) ∧ zs' = noM ∧ ws' = tbM (fE (num + 1) (wyE cs off num sh) k i 0) ∧ i < num + 1)
      (fun nn' k' zs' ws' => nn' = (num + 1 : Nat) ∧ k' = (k + 1 : Nat) ∧ zs' = noM ∧ ws' = tbM (fC (num + 1) (wyE cs off num sh) (k + 1)))) ?_ (fun _ _ h => h)
      (fun fs m hb => tD_go (fun nn' k' i' j' zs' ws' h => ?_) (fun nn' k' zs' ws' h => ?_) hb)
    · rw [i64_add1 (show k < 1000 by omega)]
      by_cases d : i < num + 1
      · have e1 : decide ((i : Int) < ((num + 1 : Nat) : Int)) = true := decide_eq_true (by omega)
        have hs := fD_E (N := num + 1) (e := wyE cs off num sh) k i
        simp only [e1, hs, d, beqT, beqF, Bool.not_true, Bool.not_false, Bool.true_eq_false, Bool.false_eq_true, false_implies, true_implies, true_and, and_true, wE_d0_ok]
        rfl
      · have e1 : decide ((i : Int) < ((num + 1 : Nat) : Int)) = false := decide_eq_false (by omega)
        have ei : i = num + 1 := by omega
        have hs : fD (num + 1) (wyE cs off num sh) k i = fC (num + 1) (wyE cs off num sh) (k + 1) := by rw [ei]; exact fD_C k
        simp only [e1, hs, beqT, beqF, Bool.not_true, Bool.not_false, Bool.true_eq_false, Bool.false_eq_true, false_implies, true_implies, true_and, and_true, wC_d0_ok]
    · obtain ⟨rfl, rfl, rfl, rfl, rfl, rfl, h⟩ := h
      exact wE_round off num cs ty sh hR hn hk h (ih (i + 1) (by omega) (by omega)) (num + 2) 0 (by omega) (by omega)
    · obtain ⟨rfl, rfl, rfl, rfl⟩ := h
      exact hC
theorem wC_round : ∀ (K k : Nat), num + 1 - k < K → k ≤ num + 1 → Good Try.prog (aggR (wyM cs off num sh)) 1 (wC_F off num cs ty sh (wyM cs off num sh) (num + 1 : Nat) k noM (tbM (fC (num + 1) (wyE cs off num sh) k))) (wC_M off num cs ty sh (wyM cs off num sh) (num + 1 : Nat) k noM (tbM (fC (num + 1) (wyE cs off num sh) k))) := by
  intro K
  induction K with
  | zero => intro k h; omega
  | succ K ih =>
    intro k hK hk
    refine past_vc EW_ok 1000 (tC_vc off num cs ty sh (wyM cs off num sh) (num + 1 : Nat) k noM (tbM (fC (num + 1) (wyE cs off num sh) k))
      (fun nn' k' i' zs' ws' => nn' = (num + 1 : Nat) ∧ k' = k ∧ i' = (0 : Nat) ∧ zs' = noM ∧ ws' = tbM (fD (num + 1) (wyE cs off num sh) k 0) ∧ k < num + 1)) ?_ (fun _ _ h => h)
      (fun fs m hb => tC_go (fun nn' k' i' zs' ws' h => ?_) hb)
    · by_cases d : k < num + 1
      · have e1 : decide ((k : Int) < ((num + 1 : Nat) : Int)) = true := decide_eq_true (by omega)
        have hs := fC_D (N := num + 1) (e := wyE cs off num sh) k
        simp only [e1, hs, d, beqT, beqF, Bool.not_true, Bool.not_false, Bool.true_eq_false, Bool.false_eq_true, false_implies, true_implies, true_and, and_true, wD_d0_ok]
        rfl
      · have e1 : decide ((k : Int) < ((num + 1 : Nat) : Int)) = false := decide_eq_false (by omega)
        have ek : k = num + 1 := by omega
        have z1 : noM.size = 4225 := tbM_size _
        simp only [e1, z1, tbM_size, Bool.true_eq_false, Bool.false_eq_true, false_implies, true_implies, true_and, and_true]
        rw [ek]; rfl
    · obtain ⟨rfl, rfl, rfl, rfl, rfl, h⟩ := h
      exact wD_round off num cs ty sh hR hn h (ih (k + 1) (by omega) (by omega)) (num + 2) 0 (by omega) (by omega)
theorem wB_round {i : Nat} (hi : i < num + 1)
    (hA : Good Try.prog (aggR (wyM cs off num sh)) 1 (wA_F off num cs ty sh (wyM cs off num sh) (num + 1 : Nat) (i + 1 : Nat) noM (tbM (fA (num + 1) (wyE cs off num sh) (i + 1)))) (wA_M off num cs ty sh (wyM cs off num sh) (num + 1 : Nat) (i + 1 : Nat) noM (tbM (fA (num + 1) (wyE cs off num sh) (i + 1))))) :
    ∀ (K j : Nat), num + 1 - j < K → j ≤ num + 1 → Good Try.prog (aggR (wyM cs off num sh)) 1 (wB_F off num cs ty sh (wyM cs off num sh) (num + 1 : Nat) i j noM (tbM (fB (num + 1) (wyE cs off num sh) i j))) (wB_M off num cs ty sh (wyM cs off num sh) (num + 1 : Nat) i j noM (tbM (fB (num + 1) (wyE cs off num sh) i j))) := by
  intro K
  induction K with
  | zero => intro j h; omega
  | succ K ih =>
    intro j hK hj
    refine past_vc EW_ok 1000 (tB_vc off num cs ty sh (wyM cs off num sh) (num + 1 : Nat) i j noM (tbM (fB (num + 1) (wyE cs off num sh) i j))
      (fun nn' i' j' zs' ws' => nn' = (num + 1 : Nat) ∧ i' = i ∧ j' = (j + 1 : Nat) ∧ zs' = noM ∧ ws' = tbM (fB (num + 1) (wyE cs off num sh) i (j + 1)) ∧ j < num + 1)
      (fun nn' i' zs' ws' => nn' = (num + 1 : Nat) ∧ i' = (i + 1 : Nat) ∧ zs' = noM ∧ ws' = tbM (fA (num + 1) (wyE cs off num sh) (i + 1)))) ?_ (fun _ _ h => h)
      (fun fs m hb => tB_go (fun nn' i' j' zs' ws' h => ?_) (fun nn' i' zs' ws' h => ?_) hb)
    · have w1 : (0 : Int) ≤ (i : Int) ∧ (i : Int) < 65 := by omega
      simp only [Int.toNat_natCast]
      rw [i64_add1 (show i < 1000 by omega)]
      by_cases d : j < num + 1
      · have e1 : decide ((j : Int) < ((num + 1 : Nat) : Int)) = true := decide_eq_true (by omega)
        have w3 : (0 : Int) ≤ (j : Int) ∧ (j : Int) < 65 := by omega
        have w4 : 0 + i * 65 + j * 1 < (tbM (fB (num + 1) (wyE cs off num sh) i j)).size := by rw [tbM_size]; omega
        have hst := fB_step (N := num + 1) (e := wyE cs off num sh) i j
        rw [i64_add1 (show j < 1000 by omega), tbM_set _ (show i < 65 by omega) (show j < 65 by omega), tbM_set _ (show i < 65 by omega) (show j < 65 by omega)]
        have hv : wyE cs off num sh i j = (edB cs off num i j && (decide ((i : Int) ≠ sh) && decide ((j : Int) ≠ sh))) := rfl
        cases c1 : edB cs off num i j with
        | false =>
          rw [hv, c1, Bool.false_and] at hst
          simp only [e1, hR, w1, w3, w4, hst, d, beqT, beqF, Bool.not_true, Bool.not_false, Bool.true_eq_false, Bool.false_eq_true, false_implies, true_implies, true_and, and_true, wB_d0_ok]
        | true =>
          have ci : ((i : Int) != sh) = decide ((i : Int) ≠ sh) := by rw [bne]; by_cases h : (i : Int) = sh <;> simp [h]
          have cj : ((j : Int) != sh) = decide ((j : Int) ≠ sh) := by rw [bne]; by_cases h : (j : Int) = sh <;> simp [h]
          rw [hv, c1, Bool.true_and] at hst
          rw [ci, cj]
          cases c2 : decide ((i : Int) ≠ sh) with
          | false =>
            rw [c2, Bool.false_and] at hst
            simp only [e1, hR, w1, w3, w4, hst, d, beqT, beqF, Bool.not_true, Bool.not_false, Bool.true_eq_false, Bool.false_eq_true, false_implies, true_implies, true_and, and_true, wB_d0_ok]
          | true =>
            rw [c2, Bool.true_and] at hst
            simp only [e1, hR, w1, w3, w4, hst, d, beqT, beqF, Bool.not_true, Bool.not_false, Bool.true_eq_false, Bool.false_eq_true, false_implies, true_implies, true_and, and_true, wB_d0_ok]
      · have e1 : decide ((j : Int) < ((num + 1 : Nat) : Int)) = false := decide_eq_false (by omega)
        have ej : j = num + 1 := by omega
        have hs : fB (num + 1) (wyE cs off num sh) i j = fA (num + 1) (wyE cs off num sh) (i + 1) := by rw [ej]; exact fB_A i
        simp only [e1, hs, beqT, beqF, Bool.not_true, Bool.not_false, Bool.true_eq_false, Bool.false_eq_true, false_implies, true_implies, true_and, and_true, wA_d0_ok]
    · obtain ⟨rfl, rfl, rfl, rfl, rfl, h⟩ := h
      exact ih (j + 1) (by omega) (by omega)
    · obtain ⟨rfl, rfl, rfl, rfl⟩ := h
      exact hA
theorem wA_round : ∀ (K i : Nat), num + 1 - i < K → i ≤ num + 1 → Good Try.prog (aggR (wyM cs off num sh)) 1 (wA_F off num cs ty sh (wyM cs off num sh) (num + 1 : Nat) i noM (tbM (fA (num + 1) (wyE cs off num sh) i))) (wA_M off num cs ty sh (wyM cs off num sh) (num + 1 : Nat) i noM (tbM (fA (num + 1) (wyE cs off num sh) i))) := by
  intro K
  induction K with
  | zero => intro i h; omega
  | succ K ih =>
    intro i hK hi
    refine past_vc EW_ok 1000 (tA_vc off num cs ty sh (wyM cs off num sh) (num + 1 : Nat) i noM (tbM (fA (num + 1) (wyE cs off num sh) i))
      (fun nn' i' j' zs' ws' => nn' = (num + 1 : Nat) ∧ i' = i ∧ j' = (0 : Nat) ∧ zs' = noM ∧ ws' = tbM (fB (num + 1) (wyE cs off num sh) i 0) ∧ i < num + 1)
      (fun nn' k' zs' ws' => nn' = (num + 1 : Nat) ∧ k' = (0 : Nat) ∧ zs' = noM ∧ ws' = tbM (fC (num + 1) (wyE cs off num sh) 0))) ?_ (fun _ _ h => h)
      (fun fs m hb => tA_go (fun nn' i' j' zs' ws' h => ?_) (fun nn' k' zs' ws' h => ?_) hb)
    · by_cases d : i < num + 1
      · have e1 : decide ((i : Int) < ((num + 1 : Nat) : Int)) = true := decide_eq_true (by omega)
        have hs := fA_B (N := num + 1) (e := wyE cs off num sh) i
        simp only [e1, hs, d, beqT, beqF, Bool.not_true, Bool.not_false, Bool.true_eq_false, Bool.false_eq_true, false_implies, true_implies, true_and, and_true, wB_d0_ok]
        rfl
      · have e1 : decide ((i : Int) < ((num + 1 : Nat) : Int)) = false := decide_eq_false (by omega)
        have ei : i = num + 1 := by omega
        have hs : fA (num + 1) (wyE cs off num sh) i = fC (num + 1) (wyE cs off num sh) 0 := by rw [ei]; exact fA_C
        simp only [e1, hs, beqT, beqF, Bool.not_true, Bool.not_false, Bool.true_eq_false, Bool.false_eq_true, false_implies, true_implies, true_and, and_true, wC_d0_ok]
        rfl
    · obtain ⟨rfl, rfl, rfl, rfl, rfl, h⟩ := h
      exact wB_round off num cs ty sh hR hn h (ih (i + 1) (by omega) (by omega)) (num + 2) 0 (by omega) (by omega)
    · obtain ⟨rfl, rfl, rfl, rfl⟩ := h
      exact wC_round off num cs ty sh hR hn (num + 2) 0 (by omega) (by omega)
theorem way_good : Good Try.prog (aggR (wyM cs off num sh)) 1 [callFr 30 Try.f30.ntmps [prS off num, i64 (.o sh)] (Try.f30.body.getD .skip)] (prM false cs ty) := by
  refine run_vc EW_ok 8000 (Ws_vc off num cs ty sh (wyM cs off num sh) (fun nn' i' zs' ws' => nn' = (num + 1 : Nat) ∧ i' = (0 : Nat) ∧ zs' = noM ∧ ws' = tbM (fA (num + 1) (wyE cs off num sh) 0))) ?_ (fun _ _ h => h)
    (fun fs m hb => Ws_go (fun nn' i' zs' ws' h => ?_) hb)
  · rw [i64_add1 (show num < 1000 by omega), zW_eq, fA_0]
    simp only [true_and, and_true, wA_d0_ok]
    exact ⟨rfl, rfl⟩
  · obtain ⟨rfl, rfl, rfl, rfl⟩ := h
    exact wA_round off num cs ty sh hR hn (num + 2) 0 (by omega) (by omega)
end
end Go.Proofs.Ytebkbihhnoellaa
/- Of flow: Ways as a contract, and functions that make a row. No condition. -/
namespace Go.Proofs.Ytebkbihhnoellaa
set_option maxRecDepth 100000
noncomputable section
def wyT (m : SMem) : List SV → Option Tree
  | [.s (.c (.f (.slice i o n _))), .s (.c (.f (.int .i64 a)))] => match rowR m i with
    | some cs => some (needs [RowOk cs o.den n.den, n.den ≤ 64] (.ret (agg (wyM cs o.den n.den a.den)) m))
    | none => none
  | _ => none
def conC (g : FuncId) (l : List SV) (m : SMem) : Option Tree := match g, l with
  | 30, l => wyT m l
  | g, l => conB g l m
end
theorem fn30 : E0.fn 30 = some Try.f30 := by kernel_rfl
theorem body30 : Try.f30.body = some (Try.f30.body.getD .skip) := by kernel_rfl
theorem wyT_ok {m : SMem} {l : List SV} {t : Tree} (h : wyT m l = some t) : Con E0 30 l m t := by
  unfold wyT at h
  split at h
  · rename_i i o n cap a
    split at h
    · rename_i cs e
      cases h
      refine Con.popN fn30 body30 e (l' := [i64 (.o a.den)]) (A := aggR (wyM cs o.den n.den a.den)) int_ok (fun ty hq => way_good o.den n.den cs ty a.den (hq _ (by simp)) (hq _ (by simp))) (fun s m' R R' v h hv => ?_)
      unfold aggR at h
      split at h
      · rw [h] at hv
        exact hv
      · exact h.elim
    · cases h
  · cases h
theorem conC_ok (g : FuncId) (l : List SV) (m : SMem) (t : Tree) (h : conC g l m = some t) : Con E0 g l m t := by
  unfold conC at h
  split at h
  · exact wyT_ok h
  · exact conB_ok _ _ _ _ h
/-- A function of a row of instructions, and of numbers, that makes a row. -/
theorem Con.made {g : FuncId} {fn : Func} {c : Code} {m : SMem} {i : Nat} {o n : SN} {cap : SK} {v : Bool} {cs rs : Array Value} {ty ty' : TypeId} {wr : Bool} {q : List Prop} {S : Nat → SV} {l l' : List SV} (h1 : E0.fn g = some fn) (h2 : fn.body = some c) (hb : getB m.bl i = some ⟨prA v cs, ty, wr⟩)
    (hl : ∀ R R' vs, All2 (SV.ok R) l vs → All2 (SV.ok R') l' vs)
    (good : (∀ p ∈ q, p) → Good Try.prog (fun s m' => s = S 1 ∧ m' = ⟨2, Tr.nil.set 1 (some ⟨.pop rs, ty', true⟩), []⟩) 1 [callFr g fn.ntmps (prS o.den n.den :: l') c] (prM v cs ty))
    (hS : ∀ f : Nat → Nat, (S 1).re f = S (f 1)) :
    Con E0 g (.s (.c (.f (.slice i o n cap))) :: l) m (needs q (.ret (S m.next) (m.new (.pop rs) ty'))) := by
  intro A hs
  obtain ⟨hq, hA⟩ := Tree.sat_needs hs
  refine ⟨fn, h1, by rw [h2]; rfl, fun n0 F w0 w R args ha hR => ?_⟩
  obtain ⟨x, ds, fz, k1, _⟩ := hR.blk _ _ hb
  have hlt := hR.nx _ _ k1
  have hl' : All2 (SV.ok (pull (fun _ => i) 1 R)) (prS o.den n.den :: l') args.toList := by
    revert ha
    generalize args.toList = vs
    intro ha
    match vs, ha with
    | x :: vs, ha =>
      obtain ⟨⟨gl, cp, e1, e2, e3, e4⟩, ha⟩ := ha
      exact ⟨⟨gl, cp, by unfold pull; exact e1, e2, trivial, e4⟩, hl _ _ _ ha⟩
  refine (frame (ms := prM v cs ty) (ms' := ⟨2, Tr.nil.set 1 (some ⟨.pop rs, ty', true⟩), []⟩) (E0_ok.fns g _ h1).1 h2 (good hq) rfl (ι := fun _ => i) ?_ (fun _ _ => hlt) ?_ ?_ ?_ (show 1 ≤ 2 by decide) hl' hR).mono ?_
  · intro a b h1 h2 _
    have h1 : a < 1 := h1
    have h2 : b < 1 := h2
    omega
  · intro j b hj
    obtain ⟨rfl, rfl⟩ := prM_get hj
    refine ⟨Nat.zero_lt_one, _, hb, rfl, fun h => (by cases h), fun R cs' h => ?_⟩
    cases v <;> exact h
  · intro j b hj hw
    obtain ⟨rfl, rfl⟩ := prM_get hj
    cases hw
  · intro j b hj h1
    have h1 : j < 1 := h1
    have e : j = 0 := by omega
    subst e
    have hj : (Option.none : Option SBlk) = some b := hj
    cases hj
  · rintro u w' ⟨R', k1, k2, k3⟩
    rw [hS] at k3
    exact ⟨_, _, R', hA, k1, k2, k3⟩
end Go.Proofs.Ytebkbihhnoellaa
/- Of flow: the reference's Reached and Loops, and each: their states. No condition. -/
namespace Go.Proofs.Ytebkbihhnoellaa
set_option linter.unusedVariables false
noncomputable def slA (k : Nat) : SV := .s (.c (.f (.slice 2 (.l 0) (.o k) (.full 1))))
noncomputable def boA (k : Nat) (rs : Array Value) (s : SV) (m : SMem) : Prop := match s with
  | .s (.c (.f (.slice sid _ _ _))) => retOk 1 [(1, sid)] (.s (.c (.f (.slice 1 (.l 0) (.o k) .any)))) ⟨2, Tr.nil.set 1 (some ⟨.pop rs, 4, true⟩), []⟩ s m
  | _ => False
noncomputable def ER : Env := ⟨Try.prog, fnOf, conC, haltAt [14004, 17004]⟩
noncomputable def rA_d0 : List SIt := sekF Try.f14 4
noncomputable def rA_F (off : Nat) (num : Nat) (cs : Array Value) (ty : TypeId) (kF : Nat) (rF : Array Value) (i : Int) (ws : Array Value) : List SFr := [frOf 14 Try.f14 [(0, prS off num), (3, ptr 1 (.l 0)), (4, nilV), (5, i64 (.o i))] rA_d0]
noncomputable def rA_M (off : Nat) (num : Nat) (cs : Array Value) (ty : TypeId) (kF : Nat) (rF : Array Value) (i : Int) (ws : Array Value) : SMem := mkM 2 [(0, ⟨.pop cs, ty, false⟩), (1, ⟨.op ws, 61, true⟩)]
noncomputable def rA_n (off : Nat) (num : Nat) (cs : Array Value) (ty : TypeId) (kF : Nat) (rF : Array Value) (Q : Int → Array Value → Prop) (fs : List SFr) (m : SMem) : Prop := (match frNth fs 0 with | some f0 => (match rdI f0 5 with | some i => (match rdP f0 3 with | some p1 => (match rdA m p1 with | some ws => Q i ws ∧ subOk 1 [(1, p1)] (rA_F off num cs ty kF rF i ws) (rA_M off num cs ty kF rF i ws) fs m | none => False) | none => False) | none => False) | none => False)
noncomputable def rB_d0 : List SIt := sekF Try.f14 4
noncomputable def rB_F (off : Nat) (num : Nat) (cs : Array Value) (ty : TypeId) (kF : Nat) (rF : Array Value) (i : Int) (k : Nat) (ws : Array Value) (rs : Array Value) : List SFr := [frOf 14 Try.f14 [(0, prS off num), (3, ptr 1 (.l 0)), (4, slA k), (5, i64 (.o i))] rB_d0]
noncomputable def rB_M (off : Nat) (num : Nat) (cs : Array Value) (ty : TypeId) (kF : Nat) (rF : Array Value) (i : Int) (k : Nat) (ws : Array Value) (rs : Array Value) : SMem := mkM 3 [(0, ⟨.pop cs, ty, false⟩), (1, ⟨.op ws, 61, true⟩), (2, ⟨.pop rs, 4, true⟩)]
noncomputable def rB_n (off : Nat) (num : Nat) (cs : Array Value) (ty : TypeId) (kF : Nat) (rF : Array Value) (Q : Int → Nat → Array Value → Array Value → Prop) (fs : List SFr) (m : SMem) : Prop := (match frNth fs 0 with | some f0 => (match rdI f0 5 with | some i => (match rdP f0 3 with | some p1 => (match rdA m p1 with | some ws => (match rdSI f0 4 with | some p2 => (match rdSN f0 4 with | some k => (match rdA m p2 with | some rs => Q i k ws rs ∧ subOk 1 [(1, p1), (2, p2)] (rB_F off num cs ty kF rF i k ws rs) (rB_M off num cs ty kF rF i k ws rs) fs m | none => False) | none => False) | none => False) | none => False) | none => False) | none => False) | none => False)
noncomputable def lA_d0 : List SIt := sekF Try.f17 4
noncomputable def lA_F (off : Nat) (num : Nat) (cs : Array Value) (ty : TypeId) (kF : Nat) (rF : Array Value) (i : Int) (ws : Array Value) : List SFr := [frOf 17 Try.f17 [(0, prS off num), (3, ptr 1 (.l 0)), (4, nilV), (5, i64 (.o i))] lA_d0]
noncomputable def lA_M (off : Nat) (num : Nat) (cs : Array Value) (ty : TypeId) (kF : Nat) (rF : Array Value) (i : Int) (ws : Array Value) : SMem := mkM 2 [(0, ⟨.pop cs, ty, false⟩), (1, ⟨.op ws, 61, true⟩)]
noncomputable def lA_n (off : Nat) (num : Nat) (cs : Array Value) (ty : TypeId) (kF : Nat) (rF : Array Value) (Q : Int → Array Value → Prop) (fs : List SFr) (m : SMem) : Prop := (match frNth fs 0 with | some f0 => (match rdI f0 5 with | some i => (match rdP f0 3 with | some p1 => (match rdA m p1 with | some ws => Q i ws ∧ subOk 1 [(1, p1)] (lA_F off num cs ty kF rF i ws) (lA_M off num cs ty kF rF i ws) fs m | none => False) | none => False) | none => False) | none => False)
noncomputable def lB_d0 : List SIt := sekF Try.f17 4
noncomputable def lB_F (off : Nat) (num : Nat) (cs : Array Value) (ty : TypeId) (kF : Nat) (rF : Array Value) (i : Int) (k : Nat) (ws : Array Value) (rs : Array Value) : List SFr := [frOf 17 Try.f17 [(0, prS off num), (3, ptr 1 (.l 0)), (4, slA k), (5, i64 (.o i))] lB_d0]
noncomputable def lB_M (off : Nat) (num : Nat) (cs : Array Value) (ty : TypeId) (kF : Nat) (rF : Array Value) (i : Int) (k : Nat) (ws : Array Value) (rs : Array Value) : SMem := mkM 3 [(0, ⟨.pop cs, ty, false⟩), (1, ⟨.op ws, 61, true⟩), (2, ⟨.pop rs, 4, true⟩)]
noncomputable def lB_n (off : Nat) (num : Nat) (cs : Array Value) (ty : TypeId) (kF : Nat) (rF : Array Value) (Q : Int → Nat → Array Value → Array Value → Prop) (fs : List SFr) (m : SMem) : Prop := (match frNth fs 0 with | some f0 => (match rdI f0 5 with | some i => (match rdP f0 3 with | some p1 => (match rdA m p1 with | some ws => (match rdSI f0 4 with | some p2 => (match rdSN f0 4 with | some k => (match rdA m p2 with | some rs => Q i k ws rs ∧ subOk 1 [(1, p1), (2, p2)] (lB_F off num cs ty kF rF i k ws rs) (lB_M off num cs ty kF rF i k ws rs) fs m | none => False) | none => False) | none => False) | none => False) | none => False) | none => False) | none => False)
noncomputable def sR_t (off : Nat) (num : Nat) (cs : Array Value) (ty : TypeId) (kF : Nat) (rF : Array Value) : Tree := run ER 8000 1 [callFr 14 Try.f14.ntmps [prS off num] (Try.f14.body.getD .skip)] (prM false cs ty)
noncomputable def sR_x (off : Nat) (num : Nat) (cs : Array Value) (ty : TypeId) (kF : Nat) (rF : Array Value) (QrA : Int → Array Value → Prop) (fs : List SFr) (m : SMem) : Prop := rA_n off num cs ty kF rF QrA fs m
noncomputable def uA_t (off : Nat) (num : Nat) (cs : Array Value) (ty : TypeId) (kF : Nat) (rF : Array Value) (i : Int) (ws : Array Value) : Tree := stepT ER.go (run ER 1000) 1 (rA_F off num cs ty kF rF i ws) (rA_M off num cs ty kF rF i ws)
noncomputable def uA_x (off : Nat) (num : Nat) (cs : Array Value) (ty : TypeId) (kF : Nat) (rF : Array Value) (i : Int) (ws : Array Value) (QrB : Int → Nat → Array Value → Array Value → Prop) (fs : List SFr) (m : SMem) : Prop := rB_n off num cs ty kF rF QrB fs m
noncomputable def uB_t (off : Nat) (num : Nat) (cs : Array Value) (ty : TypeId) (kF : Nat) (rF : Array Value) (i : Int) (k : Nat) (ws : Array Value) (rs : Array Value) : Tree := stepT ER.go (run ER 1000) 1 (rB_F off num cs ty kF rF i k ws rs) (rB_M off num cs ty kF rF i k ws rs)
noncomputable def uB_x (off : Nat) (num : Nat) (cs : Array Value) (ty : TypeId) (kF : Nat) (rF : Array Value) (i : Int) (k : Nat) (ws : Array Value) (rs : Array Value) (QrB : Int → Nat → Array Value → Array Value → Prop) (fs : List SFr) (m : SMem) : Prop := rB_n off num cs ty kF rF QrB fs m
noncomputable def sL_t (off : Nat) (num : Nat) (cs : Array Value) (ty : TypeId) (kF : Nat) (rF : Array Value) : Tree := run ER 8000 1 [callFr 17 Try.f17.ntmps [prS off num] (Try.f17.body.getD .skip)] (prM false cs ty)
noncomputable def sL_x (off : Nat) (num : Nat) (cs : Array Value) (ty : TypeId) (kF : Nat) (rF : Array Value) (QlA : Int → Array Value → Prop) (fs : List SFr) (m : SMem) : Prop := lA_n off num cs ty kF rF QlA fs m
noncomputable def vA_t (off : Nat) (num : Nat) (cs : Array Value) (ty : TypeId) (kF : Nat) (rF : Array Value) (i : Int) (ws : Array Value) : Tree := stepT ER.go (run ER 1000) 1 (lA_F off num cs ty kF rF i ws) (lA_M off num cs ty kF rF i ws)
noncomputable def vA_x (off : Nat) (num : Nat) (cs : Array Value) (ty : TypeId) (kF : Nat) (rF : Array Value) (i : Int) (ws : Array Value) (QlB : Int → Nat → Array Value → Array Value → Prop) (fs : List SFr) (m : SMem) : Prop := lB_n off num cs ty kF rF QlB fs m
noncomputable def vB_t (off : Nat) (num : Nat) (cs : Array Value) (ty : TypeId) (kF : Nat) (rF : Array Value) (i : Int) (k : Nat) (ws : Array Value) (rs : Array Value) : Tree := stepT ER.go (run ER 1000) 1 (lB_F off num cs ty kF rF i k ws rs) (lB_M off num cs ty kF rF i k ws rs)
noncomputable def vB_x (off : Nat) (num : Nat) (cs : Array Value) (ty : TypeId) (kF : Nat) (rF : Array Value) (i : Int) (k : Nat) (ws : Array Value) (rs : Array Value) (QlB : Int → Nat → Array Value → Array Value → Prop) (fs : List SFr) (m : SMem) : Prop := lB_n off num cs ty kF rF QlB fs m
theorem rA_d0_ok (r : Nat → Option Nat) : TodoOk r rA_d0 rA_d0 := TodoOk.it (by kernel_rfl)
theorem rB_d0_ok (r : Nat → Option Nat) : TodoOk r rB_d0 rB_d0 := TodoOk.it (by kernel_rfl)
theorem lA_d0_ok (r : Nat → Option Nat) : TodoOk r lA_d0 lA_d0 := TodoOk.it (by kernel_rfl)
theorem lB_d0_ok (r : Nat → Option Nat) : TodoOk r lB_d0 lB_d0 := TodoOk.it (by kernel_rfl)
theorem rA_good {A : SV → SMem → Prop} {off : Nat} {num : Nat} {cs : Array Value} {ty : TypeId} {kF : Nat} {rF : Array Value} {Q : Int → Array Value → Prop} {fs : List SFr} {m : SMem} (H : ∀ i ws, Q i ws → Good Try.prog A 1 (rA_F off num cs ty kF rF i ws) (rA_M off num cs ty kF rF i ws)) (hb : rA_n off num cs ty kF rF Q fs m) : Good Try.prog A 1 fs m := by
  unfold rA_n at hb
  split at hb
  rotate_left
  · exact hb.elim
  split at hb
  rotate_left
  · exact hb.elim
  split at hb
  rotate_left
  · exact hb.elim
  split at hb
  rotate_left
  · exact hb.elim
  exact Good.of_sub hb.2 (H _ _ hb.1)
theorem rB_good {A : SV → SMem → Prop} {off : Nat} {num : Nat} {cs : Array Value} {ty : TypeId} {kF : Nat} {rF : Array Value} {Q : Int → Nat → Array Value → Array Value → Prop} {fs : List SFr} {m : SMem} (H : ∀ i k ws rs, Q i k ws rs → Good Try.prog A 1 (rB_F off num cs ty kF rF i k ws rs) (rB_M off num cs ty kF rF i k ws rs)) (hb : rB_n off num cs ty kF rF Q fs m) : Good Try.prog A 1 fs m := by
  unfold rB_n at hb
  split at hb
  rotate_left
  · exact hb.elim
  split at hb
  rotate_left
  · exact hb.elim
  split at hb
  rotate_left
  · exact hb.elim
  split at hb
  rotate_left
  · exact hb.elim
  split at hb
  rotate_left
  · exact hb.elim
  split at hb
  rotate_left
  · exact hb.elim
  split at hb
  rotate_left
  · exact hb.elim
  exact Good.of_sub hb.2 (H _ _ _ _ hb.1)
theorem lA_good {A : SV → SMem → Prop} {off : Nat} {num : Nat} {cs : Array Value} {ty : TypeId} {kF : Nat} {rF : Array Value} {Q : Int → Array Value → Prop} {fs : List SFr} {m : SMem} (H : ∀ i ws, Q i ws → Good Try.prog A 1 (lA_F off num cs ty kF rF i ws) (lA_M off num cs ty kF rF i ws)) (hb : lA_n off num cs ty kF rF Q fs m) : Good Try.prog A 1 fs m := by
  unfold lA_n at hb
  split at hb
  rotate_left
  · exact hb.elim
  split at hb
  rotate_left
  · exact hb.elim
  split at hb
  rotate_left
  · exact hb.elim
  split at hb
  rotate_left
  · exact hb.elim
  exact Good.of_sub hb.2 (H _ _ hb.1)
theorem lB_good {A : SV → SMem → Prop} {off : Nat} {num : Nat} {cs : Array Value} {ty : TypeId} {kF : Nat} {rF : Array Value} {Q : Int → Nat → Array Value → Array Value → Prop} {fs : List SFr} {m : SMem} (H : ∀ i k ws rs, Q i k ws rs → Good Try.prog A 1 (lB_F off num cs ty kF rF i k ws rs) (lB_M off num cs ty kF rF i k ws rs)) (hb : lB_n off num cs ty kF rF Q fs m) : Good Try.prog A 1 fs m := by
  unfold lB_n at hb
  split at hb
  rotate_left
  · exact hb.elim
  split at hb
  rotate_left
  · exact hb.elim
  split at hb
  rotate_left
  · exact hb.elim
  split at hb
  rotate_left
  · exact hb.elim
  split at hb
  rotate_left
  · exact hb.elim
  split at hb
  rotate_left
  · exact hb.elim
  split at hb
  rotate_left
  · exact hb.elim
  exact Good.of_sub hb.2 (H _ _ _ _ hb.1)
theorem sR_go {A : SV → SMem → Prop} {off : Nat} {num : Nat} {cs : Array Value} {ty : TypeId} {kF : Nat} {rF : Array Value} {QrA : Int → Array Value → Prop} {fs : List SFr} {m : SMem} (hrA : ∀ i' ws', QrA i' ws' → Good Try.prog A 1 (rA_F off num cs ty kF rF i' ws') (rA_M off num cs ty kF rF i' ws')) (hb : sR_x off num cs ty kF rF QrA fs m) : Good Try.prog A 1 fs m := by
  unfold sR_x at hb
  exact rA_good hrA hb
theorem uA_go {A : SV → SMem → Prop} {off : Nat} {num : Nat} {cs : Array Value} {ty : TypeId} {kF : Nat} {rF : Array Value} {i : Int} {ws : Array Value} {QrB : Int → Nat → Array Value → Array Value → Prop} {fs : List SFr} {m : SMem} (hrB : ∀ i' k' ws' rs', QrB i' k' ws' rs' → Good Try.prog A 1 (rB_F off num cs ty kF rF i' k' ws' rs') (rB_M off num cs ty kF rF i' k' ws' rs')) (hb : uA_x off num cs ty kF rF i ws QrB fs m) : Good Try.prog A 1 fs m := by
  unfold uA_x at hb
  exact rB_good hrB hb
theorem uB_go {A : SV → SMem → Prop} {off : Nat} {num : Nat} {cs : Array Value} {ty : TypeId} {kF : Nat} {rF : Array Value} {i : Int} {k : Nat} {ws : Array Value} {rs : Array Value} {QrB : Int → Nat → Array Value → Array Value → Prop} {fs : List SFr} {m : SMem} (hrB : ∀ i' k' ws' rs', QrB i' k' ws' rs' → Good Try.prog A 1 (rB_F off num cs ty kF rF i' k' ws' rs') (rB_M off num cs ty kF rF i' k' ws' rs')) (hb : uB_x off num cs ty kF rF i k ws rs QrB fs m) : Good Try.prog A 1 fs m := by
  unfold uB_x at hb
  exact rB_good hrB hb
theorem sL_go {A : SV → SMem → Prop} {off : Nat} {num : Nat} {cs : Array Value} {ty : TypeId} {kF : Nat} {rF : Array Value} {QlA : Int → Array Value → Prop} {fs : List SFr} {m : SMem} (hlA : ∀ i' ws', QlA i' ws' → Good Try.prog A 1 (lA_F off num cs ty kF rF i' ws') (lA_M off num cs ty kF rF i' ws')) (hb : sL_x off num cs ty kF rF QlA fs m) : Good Try.prog A 1 fs m := by
  unfold sL_x at hb
  exact lA_good hlA hb
theorem vA_go {A : SV → SMem → Prop} {off : Nat} {num : Nat} {cs : Array Value} {ty : TypeId} {kF : Nat} {rF : Array Value} {i : Int} {ws : Array Value} {QlB : Int → Nat → Array Value → Array Value → Prop} {fs : List SFr} {m : SMem} (hlB : ∀ i' k' ws' rs', QlB i' k' ws' rs' → Good Try.prog A 1 (lB_F off num cs ty kF rF i' k' ws' rs') (lB_M off num cs ty kF rF i' k' ws' rs')) (hb : vA_x off num cs ty kF rF i ws QlB fs m) : Good Try.prog A 1 fs m := by
  unfold vA_x at hb
  exact lB_good hlB hb
theorem vB_go {A : SV → SMem → Prop} {off : Nat} {num : Nat} {cs : Array Value} {ty : TypeId} {kF : Nat} {rF : Array Value} {i : Int} {k : Nat} {ws : Array Value} {rs : Array Value} {QlB : Int → Nat → Array Value → Array Value → Prop} {fs : List SFr} {m : SMem} (hlB : ∀ i' k' ws' rs', QlB i' k' ws' rs' → Good Try.prog A 1 (lB_F off num cs ty kF rF i' k' ws' rs') (lB_M off num cs ty kF rF i' k' ws' rs')) (hb : vB_x off num cs ty kF rF i k ws rs QlB fs m) : Good Try.prog A 1 fs m := by
  unfold vB_x at hb
  exact lB_good hlB hb
end Go.Proofs.Ytebkbihhnoellaa
/- Of flow: the reference's Reached and Loops, and each: their states. -/
namespace Go.Proofs.Ytebkbihhnoellaa
set_option maxRecDepth 100000
theorem sR_vc (off : Nat) (num : Nat) (cs : Array Value) (ty : TypeId) (kF : Nat) (rF : Array Value) (QrA : Int → Array Value → Prop) : (sR_t off num cs ty kF rF).vc ((boA kF rF)) (sR_x off num cs ty kF rF QrA) =
    ((RowOk cs off num ∧ num ≤ (64 : Nat) ∧ True) ∧ (Array.size (wyM cs off num (-1 : Int)) = (4225 : Nat) ∧ Array.size (wyM cs off num (-1 : Int)) = (4225 : Nat) ∧ True) ∧ QrA (0 : Int) (wyM cs off num (-1 : Int)) ∧ CallKind.normal = CallKind.normal ∧ TodoOk (ren 1 [(1, 1)]) rA_d0 rA_d0 ∧ off = off ∧ num = num ∧ (0 : Int) = (0 : Int) ∧ Value.slice none (0 : Nat) (0 : Nat) = Value.slice none (0 : Nat) (0 : Nat) ∧ ty = ty ∧ cs = cs ∧ (61 : TypeId) = (61 : Nat) ∧ wyM cs off num (-1 : Int) = wyM cs off num (-1 : Int) ∧ True) := by kernel_rfl
theorem uA_vc (off : Nat) (num : Nat) (cs : Array Value) (ty : TypeId) (kF : Nat) (rF : Array Value) (i : Int) (ws : Array Value) (QrB : Int → Nat → Array Value → Array Value → Prop) : (uA_t off num cs ty kF rF i ws).vc ((boA kF rF)) (uA_x off num cs ty kF rF i ws QrB) =
    ((decide (i ≤ (↑num : Int)) = true → (((i == (0 : Int)) == false) = true → (((0 : Int) ≤ i ∧ i < (65 : Int)) ∧ True) ∧ (IsBool ws ((0 : Nat) + Int.toNat i * 1) ∧ True) ∧ QrB (ari BinOp.add IntKind.i64 i (1 : Int)) (1 : Nat) ws #[Value.bool (boolAt ws ((0 : Nat) + Int.toNat i * 1))] ∧ CallKind.normal = CallKind.normal ∧ TodoOk (ren 1 [(1, 1), (2, 3)]) rA_d0 rA_d0 ∧ off = off ∧ num = num ∧ ari BinOp.add IntKind.i64 i (1 : Int) = ari BinOp.add IntKind.i64 i (1 : Int) ∧ (1 : Nat) = (1 : Nat) ∧ ty = ty ∧ cs = cs ∧ (61 : TypeId) = (61 : TypeId) ∧ ws = ws ∧ (4 : TypeId) = (4 : Nat) ∧ #[Value.bool (boolAt ws ((0 : Nat) + Int.toNat i * 1))] = #[Value.bool (boolAt ws ((0 : Nat) + Int.toNat i * 1))] ∧ True) ∧ (((i == (0 : Int)) == false) = false → QrB (ari BinOp.add IntKind.i64 i (1 : Int)) (1 : Nat) ws #[Value.bool true] ∧ CallKind.normal = CallKind.normal ∧ TodoOk (ren 1 [(1, 1), (2, 3)]) rA_d0 rA_d0 ∧ off = off ∧ num = num ∧ ari BinOp.add IntKind.i64 i (1 : Int) = ari BinOp.add IntKind.i64 i (1 : Int) ∧ (1 : Nat) = (1 : Nat) ∧ ty = ty ∧ cs = cs ∧ (61 : TypeId) = (61 : TypeId) ∧ ws = ws ∧ (4 : TypeId) = (4 : Nat) ∧ #[Value.bool true] = #[Value.bool true] ∧ True)) ∧ (decide (i ≤ (↑num : Int)) = false → False)) := by kernel_rfl
theorem uB_vc (off : Nat) (num : Nat) (cs : Array Value) (ty : TypeId) (kF : Nat) (rF : Array Value) (i : Int) (k : Nat) (ws : Array Value) (rs : Array Value) (QrB : Int → Nat → Array Value → Array Value → Prop) : (uB_t off num cs ty kF rF i k ws rs).vc ((boA kF rF)) (uB_x off num cs ty kF rF i k ws rs QrB) =
    ((decide (i ≤ (↑num : Int)) = true → (((i == (0 : Int)) == false) = true → (((0 : Int) ≤ i ∧ i < (65 : Int)) ∧ True) ∧ (IsBool ws ((0 : Nat) + Int.toNat i * 1) ∧ True) ∧ (((k + 1) * 1 ≤ (140737488355328 : Nat) ∧ k + 1 ≤ (140737488355328 : Nat)) ∧ k * 1 = Array.size rs ∧ True) ∧ QrB (ari BinOp.add IntKind.i64 i (1 : Int)) (k + 1) ws (rs ++ #[Value.bool (boolAt ws ((0 : Nat) + Int.toNat i * 1))]) ∧ CallKind.normal = CallKind.normal ∧ TodoOk (ren 1 [(1, 1), (2, 4)]) rA_d0 rA_d0 ∧ off = off ∧ num = num ∧ ari BinOp.add IntKind.i64 i (1 : Int) = ari BinOp.add IntKind.i64 i (1 : Int) ∧ k + 1 = k + 1 ∧ ty = ty ∧ cs = cs ∧ (61 : TypeId) = (61 : TypeId) ∧ ws = ws ∧ (4 : TypeId) = (4 : Nat) ∧ rs ++ #[Value.bool (boolAt ws ((0 : Nat) + Int.toNat i * 1))] = rs ++ #[Value.bool (boolAt ws ((0 : Nat) + Int.toNat i * 1))] ∧ True) ∧ (((i == (0 : Int)) == false) = false → (((k + 1) * 1 ≤ (140737488355328 : Nat) ∧ k + 1 ≤ (140737488355328 : Nat)) ∧ k * 1 = Array.size rs ∧ True) ∧ QrB (ari BinOp.add IntKind.i64 i (1 : Int)) (k + 1) ws (rs ++ #[Value.bool true]) ∧ CallKind.normal = CallKind.normal ∧ TodoOk (ren 1 [(1, 1), (2, 4)]) rA_d0 rA_d0 ∧ off = off ∧ num = num ∧ ari BinOp.add IntKind.i64 i (1 : Int) = ari BinOp.add IntKind.i64 i (1 : Int) ∧ k + 1 = k + 1 ∧ ty = ty ∧ cs = cs ∧ (61 : TypeId) = (61 : TypeId) ∧ ws = ws ∧ (4 : TypeId) = (4 : Nat) ∧ rs ++ #[Value.bool true] = rs ++ #[Value.bool true] ∧ True)) ∧ (decide (i ≤ (↑num : Int)) = false → kF = k ∧ (4 : TypeId) = (4 : TypeId) ∧ rF = rs ∧ True)) := by kernel_rfl
theorem sL_vc (off : Nat) (num : Nat) (cs : Array Value) (ty : TypeId) (kF : Nat) (rF : Array Value) (QlA : Int → Array Value → Prop) : (sL_t off num cs ty kF rF).vc ((boA kF rF)) (sL_x off num cs ty kF rF QlA) =
    ((RowOk cs off num ∧ num ≤ (64 : Nat) ∧ True) ∧ (Array.size (wyM cs off num (-1 : Int)) = (4225 : Nat) ∧ Array.size (wyM cs off num (-1 : Int)) = (4225 : Nat) ∧ True) ∧ QlA (0 : Int) (wyM cs off num (-1 : Int)) ∧ CallKind.normal = CallKind.normal ∧ TodoOk (ren 1 [(1, 1)]) lA_d0 lA_d0 ∧ off = off ∧ num = num ∧ (0 : Int) = (0 : Int) ∧ Value.slice none (0 : Nat) (0 : Nat) = Value.slice none (0 : Nat) (0 : Nat) ∧ ty = ty ∧ cs = cs ∧ (61 : TypeId) = (61 : Nat) ∧ wyM cs off num (-1 : Int) = wyM cs off num (-1 : Int) ∧ True) := by kernel_rfl
theorem vA_vc (off : Nat) (num : Nat) (cs : Array Value) (ty : TypeId) (kF : Nat) (rF : Array Value) (i : Int) (ws : Array Value) (QlB : Int → Nat → Array Value → Array Value → Prop) : (vA_t off num cs ty kF rF i ws).vc ((boA kF rF)) (vA_x off num cs ty kF rF i ws QlB) =
    ((decide (i ≤ (↑num : Int)) = true → (((i == (0 : Int)) == false) = true → (((0 : Int) ≤ i ∧ i < (65 : Int)) ∧ True) ∧ (IsBool ws ((0 : Nat) + Int.toNat i * 1) ∧ True) ∧ ((boolAt ws ((0 : Nat) + Int.toNat i * 1) == true) = true → (((0 : Int) ≤ i ∧ i < (65 : Int)) ∧ True) ∧ (((0 : Int) ≤ i ∧ i < (65 : Int)) ∧ True) ∧ (IsBool ws ((0 : Nat) + Int.toNat i * 65 + Int.toNat i * 1) ∧ True) ∧ QlB (ari BinOp.add IntKind.i64 i (1 : Int)) (1 : Nat) ws #[Value.bool (boolAt ws ((0 : Nat) + Int.toNat i * 65 + Int.toNat i * 1))] ∧ CallKind.normal = CallKind.normal ∧ TodoOk (ren 1 [(1, 1), (2, 3)]) lA_d0 lA_d0 ∧ off = off ∧ num = num ∧ ari BinOp.add IntKind.i64 i (1 : Int) = ari BinOp.add IntKind.i64 i (1 : Int) ∧ (1 : Nat) = (1 : Nat) ∧ ty = ty ∧ cs = cs ∧ (61 : TypeId) = (61 : TypeId) ∧ ws = ws ∧ (4 : TypeId) = (4 : Nat) ∧ #[Value.bool (boolAt ws ((0 : Nat) + Int.toNat i * 65 + Int.toNat i * 1))] = #[Value.bool (boolAt ws ((0 : Nat) + Int.toNat i * 65 + Int.toNat i * 1))] ∧ True) ∧ ((boolAt ws ((0 : Nat) + Int.toNat i * 1) == true) = false → QlB (ari BinOp.add IntKind.i64 i (1 : Int)) (1 : Nat) ws #[Value.bool false] ∧ CallKind.normal = CallKind.normal ∧ TodoOk (ren 1 [(1, 1), (2, 3)]) lA_d0 lA_d0 ∧ off = off ∧ num = num ∧ ari BinOp.add IntKind.i64 i (1 : Int) = ari BinOp.add IntKind.i64 i (1 : Int) ∧ (1 : Nat) = (1 : Nat) ∧ ty = ty ∧ cs = cs ∧ (61 : TypeId) = (61 : TypeId) ∧ ws = ws ∧ (4 : TypeId) = (4 : Nat) ∧ #[Value.bool false] = #[Value.bool false] ∧ True)) ∧ (((i == (0 : Int)) == false) = false → (((0 : Int) ≤ i ∧ i < (65 : Int)) ∧ True) ∧ (((0 : Int) ≤ i ∧ i < (65 : Int)) ∧ True) ∧ (IsBool ws ((0 : Nat) + Int.toNat i * 65 + Int.toNat i * 1) ∧ True) ∧ QlB (ari BinOp.add IntKind.i64 i (1 : Int)) (1 : Nat) ws #[Value.bool (boolAt ws ((0 : Nat) + Int.toNat i * 65 + Int.toNat i * 1))] ∧ CallKind.normal = CallKind.normal ∧ TodoOk (ren 1 [(1, 1), (2, 3)]) lA_d0 lA_d0 ∧ off = off ∧ num = num ∧ ari BinOp.add IntKind.i64 i (1 : Int) = ari BinOp.add IntKind.i64 i (1 : Int) ∧ (1 : Nat) = (1 : Nat) ∧ ty = ty ∧ cs = cs ∧ (61 : TypeId) = (61 : TypeId) ∧ ws = ws ∧ (4 : TypeId) = (4 : Nat) ∧ #[Value.bool (boolAt ws ((0 : Nat) + Int.toNat i * 65 + Int.toNat i * 1))] = #[Value.bool (boolAt ws ((0 : Nat) + Int.toNat i * 65 + Int.toNat i * 1))] ∧ True)) ∧ (decide (i ≤ (↑num : Int)) = false → False)) := by kernel_rfl
theorem vB_vc (off : Nat) (num : Nat) (cs : Array Value) (ty : TypeId) (kF : Nat) (rF : Array Value) (i : Int) (k : Nat) (ws : Array Value) (rs : Array Value) (QlB : Int → Nat → Array Value → Array Value → Prop) : (vB_t off num cs ty kF rF i k ws rs).vc ((boA kF rF)) (vB_x off num cs ty kF rF i k ws rs QlB) =
    ((decide (i ≤ (↑num : Int)) = true → (((i == (0 : Int)) == false) = true → (((0 : Int) ≤ i ∧ i < (65 : Int)) ∧ True) ∧ (IsBool ws ((0 : Nat) + Int.toNat i * 1) ∧ True) ∧ ((boolAt ws ((0 : Nat) + Int.toNat i * 1) == true) = true → (((0 : Int) ≤ i ∧ i < (65 : Int)) ∧ True) ∧ (((0 : Int) ≤ i ∧ i < (65 : Int)) ∧ True) ∧ (IsBool ws ((0 : Nat) + Int.toNat i * 65 + Int.toNat i * 1) ∧ True) ∧ (((k + 1) * 1 ≤ (140737488355328 : Nat) ∧ k + 1 ≤ (140737488355328 : Nat)) ∧ k * 1 = Array.size rs ∧ True) ∧ QlB (ari BinOp.add IntKind.i64 i (1 : Int)) (k + 1) ws (rs ++ #[Value.bool (boolAt ws ((0 : Nat) + Int.toNat i * 65 + Int.toNat i * 1))]) ∧ CallKind.normal = CallKind.normal ∧ TodoOk (ren 1 [(1, 1), (2, 4)]) lA_d0 lA_d0 ∧ off = off ∧ num = num ∧ ari BinOp.add IntKind.i64 i (1 : Int) = ari BinOp.add IntKind.i64 i (1 : Int) ∧ k + 1 = k + 1 ∧ ty = ty ∧ cs = cs ∧ (61 : TypeId) = (61 : TypeId) ∧ ws = ws ∧ (4 : TypeId) = (4 : Nat) ∧ rs ++ #[Value.bool (boolAt ws ((0 : Nat) + Int.toNat i * 65 + Int.toNat i * 1))] = rs ++ #[Value.bool (boolAt ws ((0 : Nat) + Int.toNat i * 65 + Int.toNat i * 1))] ∧ True) ∧ ((boolAt ws ((0 : Nat) + Int.toNat i * 1) == true) = false → (((k + 1) * 1 ≤ (140737488355328 : Nat) ∧ k + 1 ≤ (140737488355328 : Nat)) ∧ k * 1 = Array.size rs ∧ True) ∧ QlB (ari BinOp.add IntKind.i64 i (1 : Int)) (k + 1) ws (rs ++ #[Value.bool false]) ∧ CallKind.normal = CallKind.normal ∧ TodoOk (ren 1 [(1, 1), (2, 4)]) lA_d0 lA_d0 ∧ off = off ∧ num = num ∧ ari BinOp.add IntKind.i64 i (1 : Int) = ari BinOp.add IntKind.i64 i (1 : Int) ∧ k + 1 = k + 1 ∧ ty = ty ∧ cs = cs ∧ (61 : TypeId) = (61 : TypeId) ∧ ws = ws ∧ (4 : TypeId) = (4 : Nat) ∧ rs ++ #[Value.bool false] = rs ++ #[Value.bool false] ∧ True)) ∧ (((i == (0 : Int)) == false) = false → (((0 : Int) ≤ i ∧ i < (65 : Int)) ∧ True) ∧ (((0 : Int) ≤ i ∧ i < (65 : Int)) ∧ True) ∧ (IsBool ws ((0 : Nat) + Int.toNat i * 65 + Int.toNat i * 1) ∧ True) ∧ (((k + 1) * 1 ≤ (140737488355328 : Nat) ∧ k + 1 ≤ (140737488355328 : Nat)) ∧ k * 1 = Array.size rs ∧ True) ∧ QlB (ari BinOp.add IntKind.i64 i (1 : Int)) (k + 1) ws (rs ++ #[Value.bool (boolAt ws ((0 : Nat) + Int.toNat i * 65 + Int.toNat i * 1))]) ∧ CallKind.normal = CallKind.normal ∧ TodoOk (ren 1 [(1, 1), (2, 4)]) lA_d0 lA_d0 ∧ off = off ∧ num = num ∧ ari BinOp.add IntKind.i64 i (1 : Int) = ari BinOp.add IntKind.i64 i (1 : Int) ∧ k + 1 = k + 1 ∧ ty = ty ∧ cs = cs ∧ (61 : TypeId) = (61 : TypeId) ∧ ws = ws ∧ (4 : TypeId) = (4 : Nat) ∧ rs ++ #[Value.bool (boolAt ws ((0 : Nat) + Int.toNat i * 65 + Int.toNat i * 1))] = rs ++ #[Value.bool (boolAt ws ((0 : Nat) + Int.toNat i * 65 + Int.toNat i * 1))] ∧ True)) ∧ (decide (i ≤ (↑num : Int)) = false → kF = k ∧ (4 : TypeId) = (4 : TypeId) ∧ rF = rs ∧ True)) := by kernel_rfl
end Go.Proofs.Ytebkbihhnoellaa
/- Of flow: the reference's Reached and Loops. No condition. -/
namespace Go.Proofs.Ytebkbihhnoellaa
set_option linter.unusedSectionVars false
set_option maxRecDepth 100000
theorem ER_ok : EnvOk ER := EnvOk.with E0_ok _ _ conC_ok
/-- A row of truths. -/
def boL (f : Nat → Bool) (n : Nat) : Array Value := ((List.range n).map fun i => Value.bool (f i)).toArray
theorem boL_size (f : Nat → Bool) (n : Nat) : (boL f n).size = n := by unfold boL; simp
theorem boL_more {f : Nat → Bool} {i : Nat} {b : Bool} (h : b = f i) : boL f i ++ #[Value.bool b] = boL f (i + 1) := by
  unfold boL; rw [List.range_succ, List.map_append, h]; simp
theorem boL_get (f : Nat → Bool) {n i : Nat} (h : i < n) : (boL f n)[0 + i * 1]? = some (.bool (f i)) := by
  unfold boL; simp [h]
def wayB (cs : Array Value) (off num : Nat) (sh : Int) (a b : Nat) : Bool := wR (wyE cs off num sh) (num + 1) a b
section
variable {cs : Array Value} {off num : Nat} {sh : Int} (hn : num ≤ 64)
include hn
theorem wy_get {a b : Nat} (ha : a ≤ num) (hb : b ≤ num) : (wyM cs off num sh)[0 + a * 65 + b * 1]? = some (.bool (wayB cs off num sh a b)) := by
  unfold wyM
  rw [tbM_get _ (by omega) (by omega)]
  unfold fC wayB
  rw [decide_eq_true (by omega), Bool.true_and]
theorem wy_at {a b : Nat} (ha : a ≤ num) (hb : b ≤ num) : boolAt (wyM cs off num sh) (0 + a * 65 + b * 1) = wayB cs off num sh a b := boolAt_of (wy_get hn ha hb)
theorem wy_is {a b : Nat} (ha : a ≤ num) (hb : b ≤ num) : IsBool (wyM cs off num sh) (0 + a * 65 + b * 1) := isBo_of (wy_get hn ha hb)
theorem wy_at0 {b : Nat} (hb : b ≤ num) : boolAt (wyM cs off num sh) (0 + b * 1) = wayB cs off num sh 0 b := by
  have h := wy_at (cs := cs) (off := off) (sh := sh) hn (Nat.zero_le num) hb
  rwa [show 0 + 0 * 65 + b * 1 = 0 + b * 1 by omega] at h
theorem wy_is0 {b : Nat} (hb : b ≤ num) : IsBool (wyM cs off num sh) (0 + b * 1) := by
  have h := wy_is (cs := cs) (off := off) (sh := sh) hn (Nat.zero_le num) hb
  rwa [show 0 + 0 * 65 + b * 1 = 0 + b * 1 by omega] at h
end
def rchB (cs : Array Value) (off num : Nat) (i : Nat) : Bool := decide (i = 0) || wayB cs off num (-1) 0 i
def lpB (cs : Array Value) (off num : Nat) (i : Nat) : Bool := rchB cs off num i && wayB cs off num (-1) i i
section
variable (off num : Nat) (cs : Array Value) (ty : TypeId) (hR : RowOk cs off num) (hn : num ≤ 64)
include hR hn
theorem rB_round : ∀ (K i : Nat), num + 1 - i < K → 1 ≤ i → i ≤ num + 1 → Good Try.prog (boA (num + 1) (boL (rchB cs off num) (num + 1))) 1 (rB_F off num cs ty (num + 1) (boL (rchB cs off num) (num + 1)) i i (wyM cs off num (-1)) (boL (rchB cs off num) i)) (rB_M off num cs ty (num + 1) (boL (rchB cs off num) (num + 1)) i i (wyM cs off num (-1)) (boL (rchB cs off num) i)) := by
  intro K
  induction K with
  | zero => intro i h; omega
  | succ K ih =>
    intro i hK h1 hi
    refine past_vc ER_ok 1000 (uB_vc off num cs ty (num + 1) (boL (rchB cs off num) (num + 1)) i i (wyM cs off num (-1)) (boL (rchB cs off num) i)
      (fun i' k' ws' rs' => i' = (i + 1 : Nat) ∧ k' = i + 1 ∧ ws' = wyM cs off num (-1) ∧ rs' = boL (rchB cs off num) (i + 1) ∧ i ≤ num)) ?_ (fun _ _ h => h)
      (fun fs m hb => uB_go (fun i' k' ws' rs' h => ?_) hb)
    · rw [i64_add1 (show i < 1000 by omega)]
      simp only [Int.toNat_natCast]
      by_cases d : i ≤ num
      · have e1 : decide ((i : Int) ≤ (num : Int)) = true := decide_eq_true (by omega)
        have e2 : ((i : Int) == 0) = false := by rw [beq_eq_false_iff_ne]; omega
        have b1 := wy_is0 (cs := cs) (off := off) (sh := -1) hn d
        have w1 : (0 : Int) ≤ (i : Int) ∧ (i : Int) < 65 := by omega
        have hm := boL_more (f := rchB cs off num) (i := i) (b := wayB cs off num (-1) 0 i) (by unfold rchB; rw [decide_eq_false (by omega), Bool.false_or])
        have c1 : (i + 1) * 1 ≤ 140737488355328 ∧ i + 1 ≤ 140737488355328 := by omega
        have c2 : i * 1 = (boL (rchB cs off num) i).size := by rw [boL_size]; omega
        rw [wy_at0 hn d, hm]
        simp only [e1, e2, b1, w1, c1, d, beqT, beqF, Bool.not_true, Bool.not_false, Bool.true_eq_false, Bool.false_eq_true, false_implies, true_implies, true_and, and_true, rA_d0_ok]
        exact c2
      · have e1 : decide ((i : Int) ≤ (num : Int)) = false := decide_eq_false (by omega)
        have ei : i = num + 1 := by omega
        simp only [e1, Bool.true_eq_false, Bool.false_eq_true, false_implies, true_implies, true_and, and_true]
        rw [ei]; exact ⟨rfl, rfl⟩
    · obtain ⟨rfl, rfl, rfl, rfl, h⟩ := h
      exact ih (i + 1) (by omega) (by omega) (by omega)
theorem reached_good : Good Try.prog (boA (num + 1) (boL (rchB cs off num) (num + 1))) 1 [callFr 14 Try.f14.ntmps [prS off num] (Try.f14.body.getD .skip)] (prM false cs ty) := by
  refine run_vc ER_ok 8000 (sR_vc off num cs ty (num + 1) (boL (rchB cs off num) (num + 1)) (fun i' ws' => i' = (0 : Nat) ∧ ws' = wyM cs off num (-1))) ?_ (fun _ _ h => h)
    (fun fs m hb => sR_go (fun i' ws' h => ?_) hb)
  · have z1 : (wyM cs off num (-1)).size = 4225 := tbM_size _
    simp only [hR, hn, z1, true_and, and_true, rA_d0_ok]
    rfl
  · obtain ⟨rfl, rfl⟩ := h
    refine past_vc ER_ok 1000 (uA_vc off num cs ty (num + 1) (boL (rchB cs off num) (num + 1)) (0 : Nat) (wyM cs off num (-1))
      (fun i' k' ws' rs' => i' = (1 : Nat) ∧ k' = 1 ∧ ws' = wyM cs off num (-1) ∧ rs' = boL (rchB cs off num) 1)) ?_ (fun _ _ h => h)
      (fun fs m hb => uA_go (fun i' k' ws' rs' h => ?_) hb)
    · have e1 : decide (((0 : Nat) : Int) ≤ (num : Int)) = true := decide_eq_true (by omega)
      have e2 : (((0 : Nat) : Int) == 0) = true := rfl
      have hm := boL_more (f := rchB cs off num) (i := 0) (b := true) rfl
      have hm : #[Value.bool true] = boL (rchB cs off num) 1 := hm
      have ea : ari BinOp.add IntKind.i64 ((0 : Nat) : Int) 1 = ((1 : Nat) : Int) := i64_add1 (by omega)
      simp only [e1, e2, ea, hm, beqT, beqF, Bool.not_true, Bool.not_false, Bool.true_eq_false, Bool.false_eq_true, false_implies, true_implies, true_and, and_true, rA_d0_ok]
    · obtain ⟨rfl, rfl, rfl, rfl⟩ := h
      exact rB_round off num cs ty hR hn (num + 2) 1 (by omega) (by omega) (by omega)
end
end Go.Proofs.Ytebkbihhnoellaa
/- Of flow: the reference's Loops, and contracts. No condition. -/
namespace Go.Proofs.Ytebkbihhnoellaa
set_option linter.unusedSectionVars false
set_option maxRecDepth 100000
section
variable (off num : Nat) (cs : Array Value) (ty : TypeId) (hR : RowOk cs off num) (hn : num ≤ 64)
include hR hn
theorem lB_round : ∀ (K i : Nat), num + 1 - i < K → 1 ≤ i → i ≤ num + 1 → Good Try.prog (boA (num + 1) (boL (lpB cs off num) (num + 1))) 1 (lB_F off num cs ty (num + 1) (boL (lpB cs off num) (num + 1)) i i (wyM cs off num (-1)) (boL (lpB cs off num) i)) (lB_M off num cs ty (num + 1) (boL (lpB cs off num) (num + 1)) i i (wyM cs off num (-1)) (boL (lpB cs off num) i)) := by
  intro K
  induction K with
  | zero => intro i h; omega
  | succ K ih =>
    intro i hK h1 hi
    refine past_vc ER_ok 1000 (vB_vc off num cs ty (num + 1) (boL (lpB cs off num) (num + 1)) i i (wyM cs off num (-1)) (boL (lpB cs off num) i)
      (fun i' k' ws' rs' => i' = (i + 1 : Nat) ∧ k' = i + 1 ∧ ws' = wyM cs off num (-1) ∧ rs' = boL (lpB cs off num) (i + 1) ∧ i ≤ num)) ?_ (fun _ _ h => h)
      (fun fs m hb => vB_go (fun i' k' ws' rs' h => ?_) hb)
    · rw [i64_add1 (show i < 1000 by omega)]
      simp only [Int.toNat_natCast]
      by_cases d : i ≤ num
      · have e1 : decide ((i : Int) ≤ (num : Int)) = true := decide_eq_true (by omega)
        have e2 : ((i : Int) == 0) = false := by rw [beq_eq_false_iff_ne]; omega
        have b1 := wy_is0 (cs := cs) (off := off) (sh := -1) hn d
        have b2 := wy_is (cs := cs) (off := off) (sh := -1) hn d d
        have w1 : (0 : Int) ≤ (i : Int) ∧ (i : Int) < 65 := by omega
        have hv : lpB cs off num i = (wayB cs off num (-1) 0 i && wayB cs off num (-1) i i) := by unfold lpB rchB; rw [decide_eq_false (by omega), Bool.false_or]
        have c1 : (i + 1) * 1 ≤ 140737488355328 ∧ i + 1 ≤ 140737488355328 := by omega
        have c2 : i * 1 = (boL (lpB cs off num) i).size := by rw [boL_size]; omega
        rw [wy_at0 hn d, wy_at hn d d]
        cases cw : wayB cs off num (-1) 0 i with
        | true =>
          have hm := boL_more (f := lpB cs off num) (i := i) (b := wayB cs off num (-1) i i) (by rw [hv, cw, Bool.true_and])
          rw [hm]
          simp only [e1, e2, b1, b2, w1, c1, d, beqT, beqF, Bool.not_true, Bool.not_false, Bool.true_eq_false, Bool.false_eq_true, false_implies, true_implies, true_and, and_true, lA_d0_ok]
          exact c2
        | false =>
          have hm := boL_more (f := lpB cs off num) (i := i) (b := false) (by rw [hv, cw, Bool.false_and])
          rw [hm]
          simp only [e1, e2, b1, b2, w1, c1, d, beqT, beqF, Bool.not_true, Bool.not_false, Bool.true_eq_false, Bool.false_eq_true, false_implies, true_implies, true_and, and_true, lA_d0_ok]
          exact c2
      · have e1 : decide ((i : Int) ≤ (num : Int)) = false := decide_eq_false (by omega)
        have ei : i = num + 1 := by omega
        simp only [e1, Bool.true_eq_false, Bool.false_eq_true, false_implies, true_implies, true_and, and_true]
        rw [ei]; exact ⟨rfl, rfl⟩
    · obtain ⟨rfl, rfl, rfl, rfl, h⟩ := h
      exact ih (i + 1) (by omega) (by omega) (by omega)
theorem loops_good : Good Try.prog (boA (num + 1) (boL (lpB cs off num) (num + 1))) 1 [callFr 17 Try.f17.ntmps [prS off num] (Try.f17.body.getD .skip)] (prM false cs ty) := by
  refine run_vc ER_ok 8000 (sL_vc off num cs ty (num + 1) (boL (lpB cs off num) (num + 1)) (fun i' ws' => i' = (0 : Nat) ∧ ws' = wyM cs off num (-1))) ?_ (fun _ _ h => h)
    (fun fs m hb => sL_go (fun i' ws' h => ?_) hb)
  · have z1 : (wyM cs off num (-1)).size = 4225 := tbM_size _
    simp only [hR, hn, z1, true_and, and_true, lA_d0_ok]
    rfl
  · obtain ⟨rfl, rfl⟩ := h
    refine past_vc ER_ok 1000 (vA_vc off num cs ty (num + 1) (boL (lpB cs off num) (num + 1)) (0 : Nat) (wyM cs off num (-1))
      (fun i' k' ws' rs' => i' = (1 : Nat) ∧ k' = 1 ∧ ws' = wyM cs off num (-1) ∧ rs' = boL (lpB cs off num) 1)) ?_ (fun _ _ h => h)
      (fun fs m hb => vA_go (fun i' k' ws' rs' h => ?_) hb)
    · have e1 : decide (((0 : Nat) : Int) ≤ (num : Int)) = true := decide_eq_true (by omega)
      have e2 : (((0 : Nat) : Int) == 0) = true := rfl
      have w1 : (0 : Int) ≤ ((0 : Nat) : Int) ∧ ((0 : Nat) : Int) < 65 := by omega
      have b2 := wy_is (cs := cs) (off := off) (sh := -1) hn (Nat.zero_le num) (Nat.zero_le num)
      have hm : #[Value.bool (wayB cs off num (-1) 0 0)] = boL (lpB cs off num) 1 := boL_more (f := lpB cs off num) (i := 0) (b := wayB cs off num (-1) 0 0) rfl
      have ea : ari BinOp.add IntKind.i64 ((0 : Nat) : Int) 1 = ((1 : Nat) : Int) := i64_add1 (by omega)
      have ez : Int.toNat ((0 : Nat) : Int) = 0 := rfl
      rw [ez, wy_at hn (Nat.zero_le num) (Nat.zero_le num), hm]
      simp only [e1, e2, ea, b2, w1, beqT, beqF, Bool.not_true, Bool.not_false, Bool.true_eq_false, Bool.false_eq_true, false_implies, true_implies, true_and, and_true, lA_d0_ok]
    · obtain ⟨rfl, rfl, rfl, rfl⟩ := h
      exact lB_round off num cs ty hR hn (num + 2) 1 (by omega) (by omega) (by omega)
end
end Go.Proofs.Ytebkbihhnoellaa
/- Of flow: the reference's Reached and Loops, as contracts. No condition. -/
namespace Go.Proofs.Ytebkbihhnoellaa
set_option linter.unusedSectionVars false
set_option maxRecDepth 100000
theorem Good.boA {k : Nat} {rs : Array Value} {fs : List SFr} {m : SMem} (h : Good Try.prog (boA k rs) 1 fs m) : Good Try.prog (fun s m' => s = .s (.c (.f (.slice 1 (.l 0) (.o k) .any))) ∧ m' = ⟨2, Tr.nil.set 1 (some ⟨.pop rs, 4, true⟩), []⟩) 1 fs m := by
  refine Good.retX (Good.mono h ?_)
  intro s m h
  unfold Go.Proofs.Ytebkbihhnoellaa.boA at h
  split at h
  · exact ⟨_, h⟩
  · exact h.elim
noncomputable section
def slN (k : Nat) (j : Nat) : SV := .s (.c (.f (.slice j (.l 0) (.o k) .any)))
def rowT (f : Array Value → Nat → Nat → Nat → Bool) (m : SMem) : List SV → Option Tree
  | [.s (.c (.f (.slice i o n _)))] => match rowR m i with
    | some cs => some (needs [RowOk cs o.den n.den, n.den ≤ 64] (.ret (slN (n.den + 1) m.next) (m.new (.pop (boL (f cs o.den n.den) (n.den + 1))) 4)))
    | none => none
  | _ => none
def conD (g : FuncId) (l : List SV) (m : SMem) : Option Tree := match g, l with
  | 14, l => rowT rchB m l
  | 17, l => rowT lpB m l
  | g, l => conC g l m
end
theorem fn14 : E0.fn 14 = some Try.f14 := by kernel_rfl
theorem body14 : Try.f14.body = some (Try.f14.body.getD .skip) := by kernel_rfl
theorem fn17 : E0.fn 17 = some Try.f17 := by kernel_rfl
theorem body17 : Try.f17.body = some (Try.f17.body.getD .skip) := by kernel_rfl
theorem nil_args : ∀ (R R' : Ren) (vs : List Value), All2 (SV.ok R) [] vs → All2 (SV.ok R') [] vs := by
  intro R R' vs h
  match vs, h with
  | [], _ => trivial
theorem rowT_ok {f : Array Value → Nat → Nat → Nat → Bool} {g : FuncId} {fn : Func} {c : Code} (h1 : E0.fn g = some fn) (h2 : fn.body = some c)
    (hg : ∀ off num cs ty, RowOk cs off num → num ≤ 64 → Good Try.prog (boA (num + 1) (boL (f cs off num) (num + 1))) 1 [callFr g fn.ntmps [prS off num] c] (prM false cs ty))
    {m : SMem} {l : List SV} {t : Tree} (h : rowT f m l = some t) : Con E0 g l m t := by
  unfold rowT at h
  split at h
  · rename_i i o n cap
    split at h
    · rename_i cs e
      cases h
      obtain ⟨ty, wr, hb⟩ := rowR_of e
      exact Con.made (v := false) (S := slN (n.den + 1)) (l := []) (l' := []) h1 h2 hb nil_args (fun hq => Good.boA (hg o.den n.den cs ty (hq _ (by simp)) (hq _ (by simp)))) (fun f => rfl)
    · cases h
  · cases h
theorem conD_ok (g : FuncId) (l : List SV) (m : SMem) (t : Tree) (h : conD g l m = some t) : Con E0 g l m t := by
  unfold conD at h
  split at h
  · exact rowT_ok fn14 body14 (fun off num cs ty hR hn => reached_good off num cs ty hR hn) h
  · exact rowT_ok fn17 body17 (fun off num cs ty hR hn => loops_good off num cs ty hR hn) h
  · exact conC_ok _ _ _ _ h
end Go.Proofs.Ytebkbihhnoellaa
/- Of flow: Reached and Loops: their states. No condition. -/
namespace Go.Proofs.Ytebkbihhnoellaa
set_option linter.unusedVariables false
noncomputable def boE (ok : Bool) (k : Nat) (rs : Array Value) (s : SV) (m : SMem) : Prop := match s with
  | .tup [.c (.f (.lit (.slice none 0 0))), .c (.f (.int .i64 e))] => ok = false ∧ e.den = 3
  | .tup [.c (.f (.slice sid _ _ _)), .c (.f (.int .i64 _))] => ok = true ∧ retOk 1 [(1, sid)] (.tup [.c (.f (.slice 1 (.l 0) (.o k) .any)), .c (.f (.int .i64 (.l 0)))]) ⟨2, Tr.nil.set 1 (some ⟨.pop rs, 4, true⟩), []⟩ s m
  | _ => False
noncomputable def fn28V : SV := .s (.c (.fn (.func 28) [] []))
noncomputable def fn31V : SV := .s (.c (.fn (.func 31) [] [.ptr 1 (.l 0)]))
noncomputable def EE : Env := ⟨Try.prog, fnOf, conB, haltAt [27006]⟩
noncomputable def eA_d0 : List SIt := sekF Try.f27 6
noncomputable def eA_d1 : List SIt := sekI Try.f12 1 [1, 2, 3, 4, 5]
noncomputable def eA_F (off : Nat) (num : Nat) (cs : Array Value) (ty : TypeId) (ok : Bool) (kF : Nat) (rF : Array Value) (b : Int) (i : Int) (ws : Array Value) : List SFr := [frOf 27 Try.f27 [(0, prS off num), (1, fn28V), (6, ptr 1 (.l 0)), (7, nilV), (16, i64 (.o b)), (17, i64 (.o i))] eA_d0, frOf 12 Try.f12 [(0, prS off num)] eA_d1]
noncomputable def eA_M (off : Nat) (num : Nat) (cs : Array Value) (ty : TypeId) (ok : Bool) (kF : Nat) (rF : Array Value) (b : Int) (i : Int) (ws : Array Value) : SMem := mkM 2 [(0, ⟨.raw cs, ty, false⟩), (1, ⟨.op ws, 57, true⟩)]
noncomputable def eA_n (off : Nat) (num : Nat) (cs : Array Value) (ty : TypeId) (ok : Bool) (kF : Nat) (rF : Array Value) (Q : Int → Int → Array Value → Prop) (fs : List SFr) (m : SMem) : Prop := (match frNth fs 0 with | some f0 => (match rdI f0 16 with | some b => (match rdI f0 17 with | some i => (match rdP f0 6 with | some p1 => (match rdA m p1 with | some ws => Q b i ws ∧ subOk 1 [(1, p1)] (eA_F off num cs ty ok kF rF b i ws) (eA_M off num cs ty ok kF rF b i ws) fs m | none => False) | none => False) | none => False) | none => False) | none => False)
noncomputable def eB_d0 : List SIt := sekF Try.f27 6
noncomputable def eB_d1 : List SIt := sekI Try.f12 1 [1, 2, 3, 4, 5]
noncomputable def eB_F (off : Nat) (num : Nat) (cs : Array Value) (ty : TypeId) (ok : Bool) (kF : Nat) (rF : Array Value) (b : Int) (i : Int) (k : Nat) (ws : Array Value) (rs : Array Value) : List SFr := [frOf 27 Try.f27 [(0, prS off num), (1, fn28V), (6, ptr 1 (.l 0)), (7, slA k), (16, i64 (.o b)), (17, i64 (.o i))] eB_d0, frOf 12 Try.f12 [(0, prS off num)] eB_d1]
noncomputable def eB_M (off : Nat) (num : Nat) (cs : Array Value) (ty : TypeId) (ok : Bool) (kF : Nat) (rF : Array Value) (b : Int) (i : Int) (k : Nat) (ws : Array Value) (rs : Array Value) : SMem := mkM 3 [(0, ⟨.raw cs, ty, false⟩), (1, ⟨.op ws, 57, true⟩), (2, ⟨.pop rs, 4, true⟩)]
noncomputable def eB_n (off : Nat) (num : Nat) (cs : Array Value) (ty : TypeId) (ok : Bool) (kF : Nat) (rF : Array Value) (Q : Int → Int → Nat → Array Value → Array Value → Prop) (fs : List SFr) (m : SMem) : Prop := (match frNth fs 0 with | some f0 => (match rdI f0 16 with | some b => (match rdI f0 17 with | some i => (match rdP f0 6 with | some p1 => (match rdSI f0 7 with | some p2 => (match rdSN f0 7 with | some k => (match rdA m p1 with | some ws => (match rdA m p2 with | some rs => Q b i k ws rs ∧ subOk 1 [(1, p1), (2, p2)] (eB_F off num cs ty ok kF rF b i k ws rs) (eB_M off num cs ty ok kF rF b i k ws rs) fs m | none => False) | none => False) | none => False) | none => False) | none => False) | none => False) | none => False) | none => False)
noncomputable def sE_t (off : Nat) (num : Nat) (cs : Array Value) (ty : TypeId) (ok : Bool) (kF : Nat) (rF : Array Value) : Tree := run EE 8000 1 [callFr 12 Try.f12.ntmps [prS off num] (Try.f12.body.getD .skip)] (rawM cs ty)
noncomputable def sE_x (off : Nat) (num : Nat) (cs : Array Value) (ty : TypeId) (ok : Bool) (kF : Nat) (rF : Array Value) (QeA : Int → Int → Array Value → Prop) (fs : List SFr) (m : SMem) : Prop := eA_n off num cs ty ok kF rF QeA fs m
noncomputable def xA_t (off : Nat) (num : Nat) (cs : Array Value) (ty : TypeId) (ok : Bool) (kF : Nat) (rF : Array Value) (b : Int) (i : Int) (ws : Array Value) : Tree := stepT EE.go (run EE 1000) 1 (eA_F off num cs ty ok kF rF b i ws) (eA_M off num cs ty ok kF rF b i ws)
noncomputable def xA_x (off : Nat) (num : Nat) (cs : Array Value) (ty : TypeId) (ok : Bool) (kF : Nat) (rF : Array Value) (b : Int) (i : Int) (ws : Array Value) (QeB : Int → Int → Nat → Array Value → Array Value → Prop) (fs : List SFr) (m : SMem) : Prop := eB_n off num cs ty ok kF rF QeB fs m
noncomputable def xB_t (off : Nat) (num : Nat) (cs : Array Value) (ty : TypeId) (ok : Bool) (kF : Nat) (rF : Array Value) (b : Int) (i : Int) (k : Nat) (ws : Array Value) (rs : Array Value) : Tree := stepT EE.go (run EE 1000) 1 (eB_F off num cs ty ok kF rF b i k ws rs) (eB_M off num cs ty ok kF rF b i k ws rs)
noncomputable def xB_x (off : Nat) (num : Nat) (cs : Array Value) (ty : TypeId) (ok : Bool) (kF : Nat) (rF : Array Value) (b : Int) (i : Int) (k : Nat) (ws : Array Value) (rs : Array Value) (QeB : Int → Int → Nat → Array Value → Array Value → Prop) (fs : List SFr) (m : SMem) : Prop := eB_n off num cs ty ok kF rF QeB fs m
theorem eA_d0_ok (r : Nat → Option Nat) : TodoOk r eA_d0 eA_d0 := TodoOk.it (by kernel_rfl)
theorem eA_d1_ok (r : Nat → Option Nat) : TodoOk r eA_d1 eA_d1 := TodoOk.it (by kernel_rfl)
theorem eB_d0_ok (r : Nat → Option Nat) : TodoOk r eB_d0 eB_d0 := TodoOk.it (by kernel_rfl)
theorem eB_d1_ok (r : Nat → Option Nat) : TodoOk r eB_d1 eB_d1 := TodoOk.it (by kernel_rfl)
theorem eA_good {A : SV → SMem → Prop} {off : Nat} {num : Nat} {cs : Array Value} {ty : TypeId} {ok : Bool} {kF : Nat} {rF : Array Value} {Q : Int → Int → Array Value → Prop} {fs : List SFr} {m : SMem} (H : ∀ b i ws, Q b i ws → Good Try.prog A 1 (eA_F off num cs ty ok kF rF b i ws) (eA_M off num cs ty ok kF rF b i ws)) (hb : eA_n off num cs ty ok kF rF Q fs m) : Good Try.prog A 1 fs m := by
  unfold eA_n at hb
  split at hb
  rotate_left
  · exact hb.elim
  split at hb
  rotate_left
  · exact hb.elim
  split at hb
  rotate_left
  · exact hb.elim
  split at hb
  rotate_left
  · exact hb.elim
  split at hb
  rotate_left
  · exact hb.elim
  exact Good.of_sub hb.2 (H _ _ _ hb.1)
theorem eB_good {A : SV → SMem → Prop} {off : Nat} {num : Nat} {cs : Array Value} {ty : TypeId} {ok : Bool} {kF : Nat} {rF : Array Value} {Q : Int → Int → Nat → Array Value → Array Value → Prop} {fs : List SFr} {m : SMem} (H : ∀ b i k ws rs, Q b i k ws rs → Good Try.prog A 1 (eB_F off num cs ty ok kF rF b i k ws rs) (eB_M off num cs ty ok kF rF b i k ws rs)) (hb : eB_n off num cs ty ok kF rF Q fs m) : Good Try.prog A 1 fs m := by
  unfold eB_n at hb
  split at hb
  rotate_left
  · exact hb.elim
  split at hb
  rotate_left
  · exact hb.elim
  split at hb
  rotate_left
  · exact hb.elim
  split at hb
  rotate_left
  · exact hb.elim
  split at hb
  rotate_left
  · exact hb.elim
  split at hb
  rotate_left
  · exact hb.elim
  split at hb
  rotate_left
  · exact hb.elim
  split at hb
  rotate_left
  · exact hb.elim
  exact Good.of_sub hb.2 (H _ _ _ _ _ hb.1)
theorem sE_go {A : SV → SMem → Prop} {off : Nat} {num : Nat} {cs : Array Value} {ty : TypeId} {ok : Bool} {kF : Nat} {rF : Array Value} {QeA : Int → Int → Array Value → Prop} {fs : List SFr} {m : SMem} (heA : ∀ b' i' ws', QeA b' i' ws' → Good Try.prog A 1 (eA_F off num cs ty ok kF rF b' i' ws') (eA_M off num cs ty ok kF rF b' i' ws')) (hb : sE_x off num cs ty ok kF rF QeA fs m) : Good Try.prog A 1 fs m := by
  unfold sE_x at hb
  exact eA_good heA hb
theorem xA_go {A : SV → SMem → Prop} {off : Nat} {num : Nat} {cs : Array Value} {ty : TypeId} {ok : Bool} {kF : Nat} {rF : Array Value} {b : Int} {i : Int} {ws : Array Value} {QeB : Int → Int → Nat → Array Value → Array Value → Prop} {fs : List SFr} {m : SMem} (heB : ∀ b' i' k' ws' rs', QeB b' i' k' ws' rs' → Good Try.prog A 1 (eB_F off num cs ty ok kF rF b' i' k' ws' rs') (eB_M off num cs ty ok kF rF b' i' k' ws' rs')) (hb : xA_x off num cs ty ok kF rF b i ws QeB fs m) : Good Try.prog A 1 fs m := by
  unfold xA_x at hb
  exact eB_good heB hb
theorem xB_go {A : SV → SMem → Prop} {off : Nat} {num : Nat} {cs : Array Value} {ty : TypeId} {ok : Bool} {kF : Nat} {rF : Array Value} {b : Int} {i : Int} {k : Nat} {ws : Array Value} {rs : Array Value} {QeB : Int → Int → Nat → Array Value → Array Value → Prop} {fs : List SFr} {m : SMem} (heB : ∀ b' i' k' ws' rs', QeB b' i' k' ws' rs' → Good Try.prog A 1 (eB_F off num cs ty ok kF rF b' i' k' ws' rs') (eB_M off num cs ty ok kF rF b' i' k' ws' rs')) (hb : xB_x off num cs ty ok kF rF b i k ws rs QeB fs m) : Good Try.prog A 1 fs m := by
  unfold xB_x at hb
  exact eB_good heB hb
end Go.Proofs.Ytebkbihhnoellaa
/- Of flow: Reached and Loops: their states. -/
namespace Go.Proofs.Ytebkbihhnoellaa
set_option maxRecDepth 100000
theorem sE_vc (off : Nat) (num : Nat) (cs : Array Value) (ty : TypeId) (ok : Bool) (kF : Nat) (rF : Array Value) (QeA : Int → Int → Array Value → Prop) : (sE_t off num cs ty ok kF rF).vc ((boE ok kF rF)) (sE_x off num cs ty ok kF rF QeA) =
    ((InsOk cs off num ∧ True) ∧ ((!mayV cs off num) = true → ok = false ∧ (3 : Int) = (3 : Int)) ∧ ((!mayV cs off num) = false → (InsOk cs off num ∧ mayV cs off num = true ∧ (0 : Int) ≤ (0 : Int) ∧ (0 : Int) ≤ (↑num : Int) ∧ True) ∧ (Array.size (frW cs off num (0 : Int) (-1 : Int)) = (2 : Nat) ∧ Array.size (frW cs off num (0 : Int) (-1 : Int)) = (2 : Nat) ∧ True) ∧ QeA (ari BinOp.add IntKind.i64 (↑num : Int) (1 : Int)) (0 : Int) (frW cs off num (0 : Int) (-1 : Int)) ∧ CallKind.normal = CallKind.normal ∧ TodoOk (ren 1 [(1, 1)]) eA_d0 eA_d0 ∧ off = off ∧ num = num ∧ Fn.func (28 : Nat) = Fn.func (28 : Nat) ∧ Value.slice none (0 : Nat) (0 : Nat) = Value.slice none (0 : Nat) (0 : Nat) ∧ (0 : Int) = (0 : Int) ∧ ari BinOp.add IntKind.i64 (↑num : Int) (1 : Int) = ari BinOp.add IntKind.i64 (↑num : Int) (1 : Int) ∧ CallKind.normal = CallKind.normal ∧ TodoOk (ren 1 [(1, 1)]) eA_d1 eA_d1 ∧ off = off ∧ num = num ∧ ty = ty ∧ cs = cs ∧ (57 : TypeId) = (57 : Nat) ∧ frW cs off num (0 : Int) (-1 : Int) = frW cs off num (0 : Int) (-1 : Int) ∧ True)) := by kernel_rfl
theorem xA_vc (off : Nat) (num : Nat) (cs : Array Value) (ty : TypeId) (ok : Bool) (kF : Nat) (rF : Array Value) (b : Int) (i : Int) (ws : Array Value) (QeB : Int → Int → Nat → Array Value → Array Value → Prop) : (xA_t off num cs ty ok kF rF b i ws).vc ((boE ok kF rF)) (xA_x off num cs ty ok kF rF b i ws QeB) =
    ((decide (i < b) = true → (Array.size ws = (2 : Nat) ∧ True) ∧ (Array.size ws = (2 : Nat) ∧ True) ∧ (((0 : Int) ≤ ari BinOp.quo IntKind.i64 i (64 : Int) ∧ ari BinOp.quo IntKind.i64 i (64 : Int) < (2 : Int)) ∧ True) ∧ (IsInt IntKind.u64 ws ((0 : Nat) + Int.toNat (ari BinOp.quo IntKind.i64 i (64 : Int)) * 1) ∧ True) ∧ ((0 : Int) ≤ ari BinOp.rem IntKind.i64 i (64 : Int) ∧ True) ∧ QeB b (ari BinOp.add IntKind.i64 i (1 : Int)) (1 : Nat) ws #[Value.bool (ari BinOp.and IntKind.u64 (ari BinOp.shr IntKind.u64 (intAt ws ((0 : Nat) + Int.toNat (ari BinOp.quo IntKind.i64 i (64 : Int)) * 1)) (ari BinOp.rem IntKind.i64 i (64 : Int))) (1 : Int) == (1 : Int))] ∧ CallKind.normal = CallKind.normal ∧ TodoOk (ren 1 [(1, 1), (2, 5)]) eA_d0 eA_d0 ∧ off = off ∧ num = num ∧ Fn.func (28 : Nat) = Fn.func (28 : Nat) ∧ (1 : Nat) = (1 : Nat) ∧ ari BinOp.add IntKind.i64 i (1 : Int) = ari BinOp.add IntKind.i64 i (1 : Int) ∧ b = b ∧ CallKind.normal = CallKind.normal ∧ TodoOk (ren 1 [(1, 1), (2, 5)]) eA_d1 eA_d1 ∧ off = off ∧ num = num ∧ ty = ty ∧ cs = cs ∧ (57 : TypeId) = (57 : TypeId) ∧ ws = ws ∧ (4 : TypeId) = (4 : Nat) ∧ #[Value.bool (ari BinOp.and IntKind.u64 (ari BinOp.shr IntKind.u64 (intAt ws ((0 : Nat) + Int.toNat (ari BinOp.quo IntKind.i64 i (64 : Int)) * 1)) (ari BinOp.rem IntKind.i64 i (64 : Int))) (1 : Int) == (1 : Int))] = #[Value.bool (ari BinOp.and IntKind.u64 (ari BinOp.shr IntKind.u64 (intAt ws ((0 : Nat) + Int.toNat (ari BinOp.quo IntKind.i64 i (64 : Int)) * 1)) (ari BinOp.rem IntKind.i64 i (64 : Int))) (1 : Int) == (1 : Int))] ∧ True) ∧ (decide (i < b) = false → ok = false ∧ (0 : Int) = (3 : Int))) := by kernel_rfl
theorem xB_vc (off : Nat) (num : Nat) (cs : Array Value) (ty : TypeId) (ok : Bool) (kF : Nat) (rF : Array Value) (b : Int) (i : Int) (k : Nat) (ws : Array Value) (rs : Array Value) (QeB : Int → Int → Nat → Array Value → Array Value → Prop) : (xB_t off num cs ty ok kF rF b i k ws rs).vc ((boE ok kF rF)) (xB_x off num cs ty ok kF rF b i k ws rs QeB) =
    ((decide (i < b) = true → (Array.size ws = (2 : Nat) ∧ True) ∧ (Array.size ws = (2 : Nat) ∧ True) ∧ (((0 : Int) ≤ ari BinOp.quo IntKind.i64 i (64 : Int) ∧ ari BinOp.quo IntKind.i64 i (64 : Int) < (2 : Int)) ∧ True) ∧ (IsInt IntKind.u64 ws ((0 : Nat) + Int.toNat (ari BinOp.quo IntKind.i64 i (64 : Int)) * 1) ∧ True) ∧ ((0 : Int) ≤ ari BinOp.rem IntKind.i64 i (64 : Int) ∧ True) ∧ (((k + 1) * 1 ≤ (140737488355328 : Nat) ∧ k + 1 ≤ (140737488355328 : Nat)) ∧ k * 1 = Array.size rs ∧ True) ∧ QeB b (ari BinOp.add IntKind.i64 i (1 : Int)) (k + 1) ws (rs ++ #[Value.bool (ari BinOp.and IntKind.u64 (ari BinOp.shr IntKind.u64 (intAt ws ((0 : Nat) + Int.toNat (ari BinOp.quo IntKind.i64 i (64 : Int)) * 1)) (ari BinOp.rem IntKind.i64 i (64 : Int))) (1 : Int) == (1 : Int))]) ∧ CallKind.normal = CallKind.normal ∧ TodoOk (ren 1 [(1, 1), (2, 6)]) eA_d0 eA_d0 ∧ off = off ∧ num = num ∧ Fn.func (28 : Nat) = Fn.func (28 : Nat) ∧ k + 1 = k + 1 ∧ ari BinOp.add IntKind.i64 i (1 : Int) = ari BinOp.add IntKind.i64 i (1 : Int) ∧ b = b ∧ CallKind.normal = CallKind.normal ∧ TodoOk (ren 1 [(1, 1), (2, 6)]) eA_d1 eA_d1 ∧ off = off ∧ num = num ∧ ty = ty ∧ cs = cs ∧ (57 : TypeId) = (57 : TypeId) ∧ ws = ws ∧ (4 : TypeId) = (4 : Nat) ∧ rs ++ #[Value.bool (ari BinOp.and IntKind.u64 (ari BinOp.shr IntKind.u64 (intAt ws ((0 : Nat) + Int.toNat (ari BinOp.quo IntKind.i64 i (64 : Int)) * 1)) (ari BinOp.rem IntKind.i64 i (64 : Int))) (1 : Int) == (1 : Int))] = rs ++ #[Value.bool (ari BinOp.and IntKind.u64 (ari BinOp.shr IntKind.u64 (intAt ws ((0 : Nat) + Int.toNat (ari BinOp.quo IntKind.i64 i (64 : Int)) * 1)) (ari BinOp.rem IntKind.i64 i (64 : Int))) (1 : Int) == (1 : Int))] ∧ True) ∧ (decide (i < b) = false → ok = true ∧ kF = k ∧ (4 : TypeId) = (4 : TypeId) ∧ rF = rs ∧ True)) := by kernel_rfl
end Go.Proofs.Ytebkbihhnoellaa
/- Of flow: Reached. No condition. -/
namespace Go.Proofs.Ytebkbihhnoellaa
set_option linter.unusedSectionVars false
set_option maxRecDepth 100000
theorem EE_ok : EnvOk EE := EnvOk.with E0_ok _ _ conB_ok
/-- The places that are reached. -/
def metW (cs : Array Value) (off num : Nat) : Array Value := frW cs off num (0 : Int) (-1)
def metB (cs : Array Value) (off num i : Nat) : Bool := bitW (metW cs off num) i
section
variable (off num : Nat) (cs : Array Value) (ty : TypeId) (hI : InsOk cs off num) (hM : mayV cs off num = true)
include hI hM
theorem eB_round : ∀ (K i : Nat), num + 1 - i < K → 1 ≤ i → i ≤ num + 1 → Good Try.prog (boE true (num + 1) (boL (metB cs off num) (num + 1))) 1 (eB_F off num cs ty true (num + 1) (boL (metB cs off num) (num + 1)) (num + 1 : Nat) i i (metW cs off num) (boL (metB cs off num) i)) (eB_M off num cs ty true (num + 1) (boL (metB cs off num) (num + 1)) (num + 1 : Nat) i i (metW cs off num) (boL (metB cs off num) i)) := by
  have n64 := (mayV_iff.1 hM).1
  have hW : IsW (metW cs off num) := frW_ok (i := 0) hI hM (Nat.zero_le _)
  intro K
  induction K with
  | zero => intro i h; omega
  | succ K ih =>
    intro i hK h1 hi
    refine past_vc EE_ok 1000 (xB_vc off num cs ty true (num + 1) (boL (metB cs off num) (num + 1)) (num + 1 : Nat) i i (metW cs off num) (boL (metB cs off num) i)
      (fun b' i' k' ws' rs' => b' = (num + 1 : Nat) ∧ i' = (i + 1 : Nat) ∧ k' = i + 1 ∧ ws' = metW cs off num ∧ rs' = boL (metB cs off num) (i + 1) ∧ i ≤ num)) ?_ (fun _ _ h => h)
      (fun fs m hb => xB_go (fun b' i' k' ws' rs' h => ?_) hb)
    · have hm := boL_more (f := metB cs off num) (i := i) (b := bitW (metW cs off num) i) rfl
      rw [i64_add1 (show i < 1000 by omega), bitW_has hW (by omega), hm, quo64 (by omega), rem64, Int.toNat_natCast]
      by_cases d : i ≤ num
      · have e1 : decide ((i : Int) < ((num + 1 : Nat) : Int)) = true := decide_eq_true (by omega)
        have w1 := hW.size
        have w2 : (0 : Int) ≤ ((i / 64 : Nat) : Int) ∧ ((i / 64 : Nat) : Int) < 2 := by omega
        have w3 : IsInt IntKind.u64 (metW cs off num) (0 + i / 64 * 1) := by rw [Nat.zero_add, Nat.mul_one]; exact hW.int _ (by omega)
        have w4 : (0 : Int) ≤ ((i % 64 : Nat) : Int) := by omega
        have c1 : (i + 1) * 1 ≤ 140737488355328 ∧ i + 1 ≤ 140737488355328 := by omega
        have c2 : i * 1 = (boL (metB cs off num) i).size := by rw [boL_size]; omega
        simp only [e1, w1, w3, w4, c1, d, Bool.true_eq_false, Bool.false_eq_true, false_implies, true_implies, true_and, and_true, eA_d0_ok, eA_d1_ok]
        exact ⟨w2, c2⟩
      · have e1 : decide ((i : Int) < ((num + 1 : Nat) : Int)) = false := decide_eq_false (by omega)
        have ei : i = num + 1 := by omega
        simp only [e1, Bool.true_eq_false, Bool.false_eq_true, false_implies, true_implies, true_and, and_true]
        rw [ei]; exact ⟨rfl, rfl⟩
    · obtain ⟨rfl, rfl, rfl, rfl, rfl, h⟩ := h
      exact ih (i + 1) (by omega) (by omega) (by omega)
theorem reach_yes : Good Try.prog (boE true (num + 1) (boL (metB cs off num) (num + 1))) 1 [callFr 12 Try.f12.ntmps [prS off num] (Try.f12.body.getD .skip)] (rawM cs ty) := by
  have n64 := (mayV_iff.1 hM).1
  have hW : IsW (metW cs off num) := frW_ok (i := 0) hI hM (Nat.zero_le _)
  refine run_vc EE_ok 8000 (sE_vc off num cs ty true (num + 1) (boL (metB cs off num) (num + 1)) (fun b' i' ws' => b' = (num + 1 : Nat) ∧ i' = (0 : Nat) ∧ ws' = metW cs off num)) ?_ (fun _ _ h => h)
    (fun fs m hb => sE_go (fun b' i' ws' h => ?_) hb)
  · have z1 : (frW cs off num (0 : Int) (-1)).size = 2 := hW.size
    have z2 : (0 : Int) ≤ (num : Int) := by omega
    rw [i64_add1 (show num < 1000 by omega)]
    simp only [hI, hM, z1, z2, Bool.not_true, Bool.true_eq_false, Bool.false_eq_true, false_implies, true_implies, true_and, and_true, eA_d0_ok, eA_d1_ok]
    exact ⟨Int.le_refl _, rfl, rfl⟩
  · obtain ⟨rfl, rfl, rfl⟩ := h
    refine past_vc EE_ok 1000 (xA_vc off num cs ty true (num + 1) (boL (metB cs off num) (num + 1)) (num + 1 : Nat) (0 : Nat) (metW cs off num)
      (fun b' i' k' ws' rs' => b' = (num + 1 : Nat) ∧ i' = (1 : Nat) ∧ k' = 1 ∧ ws' = metW cs off num ∧ rs' = boL (metB cs off num) 1)) ?_ (fun _ _ h => h)
      (fun fs m hb => xA_go (fun b' i' k' ws' rs' h => ?_) hb)
    · have hm : #[Value.bool (bitW (metW cs off num) 0)] = boL (metB cs off num) 1 := boL_more (f := metB cs off num) (i := 0) (b := bitW (metW cs off num) 0) rfl
      rw [i64_add1 (show 0 < 1000 by omega), bitW_has hW (by omega), hm, quo64 (by omega), rem64, Int.toNat_natCast]
      have e1 : decide (((0 : Nat) : Int) < ((num + 1 : Nat) : Int)) = true := decide_eq_true (by omega)
      have w1 := hW.size
      have w2 : (0 : Int) ≤ ((0 / 64 : Nat) : Int) ∧ ((0 / 64 : Nat) : Int) < 2 := by omega
      have w3 : IsInt IntKind.u64 (metW cs off num) (0 + 0 / 64 * 1) := hW.int 0 (by omega)
      have w4 : (0 : Int) ≤ ((0 % 64 : Nat) : Int) := by omega
      simp only [e1, w1, w3, w4, Nat.zero_add, Bool.true_eq_false, Bool.false_eq_true, false_implies, true_implies, true_and, and_true, eA_d0_ok, eA_d1_ok]
      exact w2.2
    · obtain ⟨rfl, rfl, rfl, rfl, rfl⟩ := h
      exact eB_round off num cs ty hI hM (num + 2) 1 (by omega) (by omega) (by omega)
end
theorem reach_no (off num : Nat) (cs : Array Value) (ty : TypeId) (hI : InsOk cs off num) (hM : mayV cs off num = false) : Good Try.prog (boE false 0 #[]) 1 [callFr 12 Try.f12.ntmps [prS off num] (Try.f12.body.getD .skip)] (rawM cs ty) := by
  refine run_vc EE_ok 8000 (sE_vc off num cs ty false 0 #[] (fun _ _ _ => False)) ?_ (fun _ _ h => h) (fun fs m hb => sE_go (fun _ _ _ h => h.elim) hb)
  simp only [hI, hM, Bool.not_false, Bool.true_eq_false, Bool.false_eq_true, false_implies, true_implies, true_and, and_true]
/-- What is reached, as the reference has it. -/
theorem met_rch {cs ds : Array Value} {off off' num : Nat} (hI : InsOk cs off num) (hM : mayV cs off num = true) (h : ∀ i, i < num → ins ds off' i = ins cs off i) {i : Nat} (hi : i ≤ num) : metB cs off num i = rchB ds off' num i := by
  have hx := toL_le hI hM
  have he : ∀ a b, a ≤ num → b ≤ num → (wyE ds off' num (-1) a b = true ↔ b ∈ toL cs off num a ∧ (a : Int) ≠ -1 ∧ (b : Int) ≠ -1) := by
    intro a b ha hb
    have e1 : edB ds off' num a b = true ↔ b ∈ toL ds off' num a := edB_toL (fun i hi => by rw [h i hi]; exact (hI.2 i hi).2.2.2.2.2.1)
    have e2 : toL ds off' num a = toL cs off num a := by
      by_cases d : num ≤ a
      · unfold toL; rw [if_pos d, if_pos d]
      · have hh := h a (by omega)
        unfold toL; rw [hh]
    unfold wyE
    rw [Bool.and_eq_true, Bool.and_eq_true, e1, e2, decide_eq_true_eq, decide_eq_true_eq]
  have e3 : metB cs off num i = true ↔ Rch (toL cs off num) (-1) 0 i := frW_iff (i := 0) hI hM (Nat.zero_le _) i
  have e4 := way_iff (s := -1) hx he (i := 0) (j := i) (Nat.zero_le _) hi
  have e5 : rchB ds off' num i = true ↔ i = 0 ∨ ((((0 : Nat) : Int) ≠ -1) ∧ ∃ b ∈ toL cs off num 0, Rch (toL cs off num) (-1) b i) := by
    unfold rchB wayB
    rw [Bool.or_eq_true, decide_eq_true_eq, e4]
  rw [Bool.eq_iff_iff, e3, e5]
  constructor
  · intro hr
    have hrec : ∀ j, Rch (toL cs off num) (-1) 0 j → j = 0 ∨ ∃ b ∈ toL cs off num 0, Rch (toL cs off num) (-1) b j := by
      intro j hj
      induction hj with
      | refl _ => exact .inl rfl
      | @step b c hb h1 h2 ih =>
        rcases ih with rfl | ⟨x, hx1, hx2⟩
        · exact .inr ⟨_, h1, .refl h2⟩
        · exact .inr ⟨x, hx1, .step hx2 h1 h2⟩
    rcases hrec i hr with h | h
    · exact .inl h
    · exact .inr ⟨by omega, h⟩
  · rintro (rfl | ⟨_, b, hb, hr⟩)
    · exact .refl (by omega)
    · exact Rch.head (by omega) hb hr
end Go.Proofs.Ytebkbihhnoellaa
/- Of flow: Loops: its states. No condition. -/
namespace Go.Proofs.Ytebkbihhnoellaa
set_option linter.unusedVariables false
noncomputable def slC (k : Nat) : SV := .s (.c (.f (.slice 3 (.l 0) (.o k) (.full 1))))
noncomputable def EG : Env := ⟨Try.prog, fnOf, conB, haltAt [27006]⟩
noncomputable def gA_d0 : List SIt := sekF Try.f27 6
noncomputable def gA_d1 : List SIt := sekI Try.f15 1 [2, 3, 4, 5, 6]
noncomputable def gA_F (off : Nat) (num : Nat) (cs : Array Value) (ty : TypeId) (ok : Bool) (kF : Nat) (rF : Array Value) (b : Int) (i : Int) (ws : Array Value) : List SFr := [frOf 27 Try.f27 [(0, prS off num), (1, fn31V), (6, ptr 2 (.l 0)), (7, nilV), (16, i64 (.o b)), (17, i64 (.o i))] gA_d0, frOf 15 Try.f15 [(1, ptr 1 (.l 0))] gA_d1]
noncomputable def gA_M (off : Nat) (num : Nat) (cs : Array Value) (ty : TypeId) (ok : Bool) (kF : Nat) (rF : Array Value) (b : Int) (i : Int) (ws : Array Value) : SMem := mkM 3 [(0, ⟨.raw cs, ty, false⟩), (1, ⟨.ls [prS' off num], 22, true⟩), (2, ⟨.op ws, 57, true⟩)]
noncomputable def gA_n (off : Nat) (num : Nat) (cs : Array Value) (ty : TypeId) (ok : Bool) (kF : Nat) (rF : Array Value) (Q : Int → Int → Array Value → Prop) (fs : List SFr) (m : SMem) : Prop := (match frNth fs 0 with | some f0 => (match frNth fs 1 with | some f1 => (match rdI f0 16 with | some b => (match rdI f0 17 with | some i => (match rdP f1 1 with | some p1 => (match rdP f0 6 with | some p2 => (match rdA m p2 with | some ws => Q b i ws ∧ subOk 1 [(1, p1), (2, p2)] (gA_F off num cs ty ok kF rF b i ws) (gA_M off num cs ty ok kF rF b i ws) fs m | none => False) | none => False) | none => False) | none => False) | none => False) | none => False) | none => False)
noncomputable def gB_d0 : List SIt := sekF Try.f27 6
noncomputable def gB_d1 : List SIt := sekI Try.f15 1 [2, 3, 4, 5, 6]
noncomputable def gB_F (off : Nat) (num : Nat) (cs : Array Value) (ty : TypeId) (ok : Bool) (kF : Nat) (rF : Array Value) (b : Int) (i : Int) (k : Nat) (ws : Array Value) (rs : Array Value) : List SFr := [frOf 27 Try.f27 [(0, prS off num), (1, fn31V), (6, ptr 2 (.l 0)), (7, slC k), (16, i64 (.o b)), (17, i64 (.o i))] gB_d0, frOf 15 Try.f15 [(1, ptr 1 (.l 0))] gB_d1]
noncomputable def gB_M (off : Nat) (num : Nat) (cs : Array Value) (ty : TypeId) (ok : Bool) (kF : Nat) (rF : Array Value) (b : Int) (i : Int) (k : Nat) (ws : Array Value) (rs : Array Value) : SMem := mkM 4 [(0, ⟨.raw cs, ty, false⟩), (1, ⟨.ls [prS' off num], 22, true⟩), (2, ⟨.op ws, 57, true⟩), (3, ⟨.pop rs, 4, true⟩)]
noncomputable def gB_n (off : Nat) (num : Nat) (cs : Array Value) (ty : TypeId) (ok : Bool) (kF : Nat) (rF : Array Value) (Q : Int → Int → Nat → Array Value → Array Value → Prop) (fs : List SFr) (m : SMem) : Prop := (match frNth fs 0 with | some f0 => (match frNth fs 1 with | some f1 => (match rdI f0 16 with | some b => (match rdI f0 17 with | some i => (match rdP f1 1 with | some p1 => (match rdP f0 6 with | some p2 => (match rdSI f0 7 with | some p3 => (match rdSN f0 7 with | some k => (match rdA m p2 with | some ws => (match rdA m p3 with | some rs => Q b i k ws rs ∧ subOk 1 [(1, p1), (2, p2), (3, p3)] (gB_F off num cs ty ok kF rF b i k ws rs) (gB_M off num cs ty ok kF rF b i k ws rs) fs m | none => False) | none => False) | none => False) | none => False) | none => False) | none => False) | none => False) | none => False) | none => False) | none => False)
noncomputable def sG_t (off : Nat) (num : Nat) (cs : Array Value) (ty : TypeId) (ok : Bool) (kF : Nat) (rF : Array Value) : Tree := run EG 8000 1 [callFr 15 Try.f15.ntmps [prS off num] (Try.f15.body.getD .skip)] (rawM cs ty)
noncomputable def sG_x (off : Nat) (num : Nat) (cs : Array Value) (ty : TypeId) (ok : Bool) (kF : Nat) (rF : Array Value) (QgA : Int → Int → Array Value → Prop) (fs : List SFr) (m : SMem) : Prop := gA_n off num cs ty ok kF rF QgA fs m
noncomputable def yA_t (off : Nat) (num : Nat) (cs : Array Value) (ty : TypeId) (ok : Bool) (kF : Nat) (rF : Array Value) (b : Int) (i : Int) (ws : Array Value) : Tree := stepT EG.go (run EG 1000) 1 (gA_F off num cs ty ok kF rF b i ws) (gA_M off num cs ty ok kF rF b i ws)
noncomputable def yA_x (off : Nat) (num : Nat) (cs : Array Value) (ty : TypeId) (ok : Bool) (kF : Nat) (rF : Array Value) (b : Int) (i : Int) (ws : Array Value) (QgB : Int → Int → Nat → Array Value → Array Value → Prop) (fs : List SFr) (m : SMem) : Prop := gB_n off num cs ty ok kF rF QgB fs m
noncomputable def yB_t (off : Nat) (num : Nat) (cs : Array Value) (ty : TypeId) (ok : Bool) (kF : Nat) (rF : Array Value) (b : Int) (i : Int) (k : Nat) (ws : Array Value) (rs : Array Value) : Tree := stepT EG.go (run EG 1000) 1 (gB_F off num cs ty ok kF rF b i k ws rs) (gB_M off num cs ty ok kF rF b i k ws rs)
noncomputable def yB_x (off : Nat) (num : Nat) (cs : Array Value) (ty : TypeId) (ok : Bool) (kF : Nat) (rF : Array Value) (b : Int) (i : Int) (k : Nat) (ws : Array Value) (rs : Array Value) (QgB : Int → Int → Nat → Array Value → Array Value → Prop) (fs : List SFr) (m : SMem) : Prop := gB_n off num cs ty ok kF rF QgB fs m
theorem gA_d0_ok (r : Nat → Option Nat) : TodoOk r gA_d0 gA_d0 := TodoOk.it (by kernel_rfl)
theorem gA_d1_ok (r : Nat → Option Nat) : TodoOk r gA_d1 gA_d1 := TodoOk.it (by kernel_rfl)
theorem gB_d0_ok (r : Nat → Option Nat) : TodoOk r gB_d0 gB_d0 := TodoOk.it (by kernel_rfl)
theorem gB_d1_ok (r : Nat → Option Nat) : TodoOk r gB_d1 gB_d1 := TodoOk.it (by kernel_rfl)
theorem gA_good {A : SV → SMem → Prop} {off : Nat} {num : Nat} {cs : Array Value} {ty : TypeId} {ok : Bool} {kF : Nat} {rF : Array Value} {Q : Int → Int → Array Value → Prop} {fs : List SFr} {m : SMem} (H : ∀ b i ws, Q b i ws → Good Try.prog A 1 (gA_F off num cs ty ok kF rF b i ws) (gA_M off num cs ty ok kF rF b i ws)) (hb : gA_n off num cs ty ok kF rF Q fs m) : Good Try.prog A 1 fs m := by
  unfold gA_n at hb
  split at hb
  rotate_left
  · exact hb.elim
  split at hb
  rotate_left
  · exact hb.elim
  split at hb
  rotate_left
  · exact hb.elim
  split at hb
  rotate_left
  · exact hb.elim
  split at hb
  rotate_left
  · exact hb.elim
  split at hb
  rotate_left
  · exact hb.elim
  split at hb
  rotate_left
  · exact hb.elim
  exact Good.of_sub hb.2 (H _ _ _ hb.1)
theorem gB_good {A : SV → SMem → Prop} {off : Nat} {num : Nat} {cs : Array Value} {ty : TypeId} {ok : Bool} {kF : Nat} {rF : Array Value} {Q : Int → Int → Nat → Array Value → Array Value → Prop} {fs : List SFr} {m : SMem} (H : ∀ b i k ws rs, Q b i k ws rs → Good Try.prog A 1 (gB_F off num cs ty ok kF rF b i k ws rs) (gB_M off num cs ty ok kF rF b i k ws rs)) (hb : gB_n off num cs ty ok kF rF Q fs m) : Good Try.prog A 1 fs m := by
  unfold gB_n at hb
  split at hb
  rotate_left
  · exact hb.elim
  split at hb
  rotate_left
  · exact hb.elim
  split at hb
  rotate_left
  · exact hb.elim
  split at hb
  rotate_left
  · exact hb.elim
  split at hb
  rotate_left
  · exact hb.elim
  split at hb
  rotate_left
  · exact hb.elim
  split at hb
  rotate_left
  · exact hb.elim
  split at hb
  rotate_left
  · exact hb.elim
  split at hb
  rotate_left
  · exact hb.elim
  split at hb
  rotate_left
  · exact hb.elim
  exact Good.of_sub hb.2 (H _ _ _ _ _ hb.1)
theorem sG_go {A : SV → SMem → Prop} {off : Nat} {num : Nat} {cs : Array Value} {ty : TypeId} {ok : Bool} {kF : Nat} {rF : Array Value} {QgA : Int → Int → Array Value → Prop} {fs : List SFr} {m : SMem} (hgA : ∀ b' i' ws', QgA b' i' ws' → Good Try.prog A 1 (gA_F off num cs ty ok kF rF b' i' ws') (gA_M off num cs ty ok kF rF b' i' ws')) (hb : sG_x off num cs ty ok kF rF QgA fs m) : Good Try.prog A 1 fs m := by
  unfold sG_x at hb
  exact gA_good hgA hb
theorem yA_go {A : SV → SMem → Prop} {off : Nat} {num : Nat} {cs : Array Value} {ty : TypeId} {ok : Bool} {kF : Nat} {rF : Array Value} {b : Int} {i : Int} {ws : Array Value} {QgB : Int → Int → Nat → Array Value → Array Value → Prop} {fs : List SFr} {m : SMem} (hgB : ∀ b' i' k' ws' rs', QgB b' i' k' ws' rs' → Good Try.prog A 1 (gB_F off num cs ty ok kF rF b' i' k' ws' rs') (gB_M off num cs ty ok kF rF b' i' k' ws' rs')) (hb : yA_x off num cs ty ok kF rF b i ws QgB fs m) : Good Try.prog A 1 fs m := by
  unfold yA_x at hb
  exact gB_good hgB hb
theorem yB_go {A : SV → SMem → Prop} {off : Nat} {num : Nat} {cs : Array Value} {ty : TypeId} {ok : Bool} {kF : Nat} {rF : Array Value} {b : Int} {i : Int} {k : Nat} {ws : Array Value} {rs : Array Value} {QgB : Int → Int → Nat → Array Value → Array Value → Prop} {fs : List SFr} {m : SMem} (hgB : ∀ b' i' k' ws' rs', QgB b' i' k' ws' rs' → Good Try.prog A 1 (gB_F off num cs ty ok kF rF b' i' k' ws' rs') (gB_M off num cs ty ok kF rF b' i' k' ws' rs')) (hb : yB_x off num cs ty ok kF rF b i k ws rs QgB fs m) : Good Try.prog A 1 fs m := by
  unfold yB_x at hb
  exact gB_good hgB hb
end Go.Proofs.Ytebkbihhnoellaa
/- Of flow: Loops: its states. -/
namespace Go.Proofs.Ytebkbihhnoellaa
set_option maxRecDepth 100000
theorem sG_vc (off : Nat) (num : Nat) (cs : Array Value) (ty : TypeId) (ok : Bool) (kF : Nat) (rF : Array Value) (QgA : Int → Int → Array Value → Prop) : (sG_t off num cs ty ok kF rF).vc ((boE ok kF rF)) (sG_x off num cs ty ok kF rF QgA) =
    ((InsOk cs off num ∧ True) ∧ ((!mayV cs off num) = true → ok = false ∧ (3 : Int) = (3 : Int)) ∧ ((!mayV cs off num) = false → (InsOk cs off num ∧ mayV cs off num = true ∧ (0 : Int) ≤ (0 : Int) ∧ (0 : Int) ≤ (↑num : Int) ∧ True) ∧ (Array.size (frW cs off num (0 : Int) (-1 : Int)) = (2 : Nat) ∧ Array.size (frW cs off num (0 : Int) (-1 : Int)) = (2 : Nat) ∧ True) ∧ QgA (ari BinOp.add IntKind.i64 (↑num : Int) (1 : Int)) (0 : Int) (frW cs off num (0 : Int) (-1 : Int)) ∧ CallKind.normal = CallKind.normal ∧ TodoOk (ren 1 [(1, 1), (2, 2)]) gA_d0 gA_d0 ∧ off = off ∧ num = num ∧ Fn.func (31 : Nat) = Fn.func (31 : Nat) ∧ Value.slice none (0 : Nat) (0 : Nat) = Value.slice none (0 : Nat) (0 : Nat) ∧ (0 : Int) = (0 : Int) ∧ ari BinOp.add IntKind.i64 (↑num : Int) (1 : Int) = ari BinOp.add IntKind.i64 (↑num : Int) (1 : Int) ∧ CallKind.normal = CallKind.normal ∧ TodoOk (ren 1 [(1, 1), (2, 2)]) gA_d1 gA_d1 ∧ ty = ty ∧ cs = cs ∧ (22 : TypeId) = (22 : Nat) ∧ off = off ∧ num = num ∧ (57 : TypeId) = (57 : Nat) ∧ frW cs off num (0 : Int) (-1 : Int) = frW cs off num (0 : Int) (-1 : Int) ∧ True)) := by kernel_rfl
theorem yA_vc (off : Nat) (num : Nat) (cs : Array Value) (ty : TypeId) (ok : Bool) (kF : Nat) (rF : Array Value) (b : Int) (i : Int) (ws : Array Value) (QgB : Int → Int → Nat → Array Value → Array Value → Prop) : (yA_t off num cs ty ok kF rF b i ws).vc ((boE ok kF rF)) (yA_x off num cs ty ok kF rF b i ws QgB) =
    ((decide (i < b) = true → (Array.size ws = (2 : Nat) ∧ True) ∧ (Array.size ws = (2 : Nat) ∧ True) ∧ (((0 : Int) ≤ ari BinOp.quo IntKind.i64 i (64 : Int) ∧ ari BinOp.quo IntKind.i64 i (64 : Int) < (2 : Int)) ∧ True) ∧ (IsInt IntKind.u64 ws ((0 : Nat) + Int.toNat (ari BinOp.quo IntKind.i64 i (64 : Int)) * 1) ∧ True) ∧ ((0 : Int) ≤ ari BinOp.rem IntKind.i64 i (64 : Int) ∧ True) ∧ (((ari BinOp.and IntKind.u64 (ari BinOp.shr IntKind.u64 (intAt ws ((0 : Nat) + Int.toNat (ari BinOp.quo IntKind.i64 i (64 : Int)) * 1)) (ari BinOp.rem IntKind.i64 i (64 : Int))) (1 : Int) == (1 : Int)) == true) = true → (InsOk cs off num ∧ mayV cs off num = true ∧ (0 : Int) ≤ i ∧ i ≤ (↑num : Int) ∧ True) ∧ (((0 : Int) ≤ ari BinOp.quo IntKind.i64 i (64 : Int) ∧ ari BinOp.quo IntKind.i64 i (64 : Int) < (2 : Int)) ∧ True) ∧ (IsInt IntKind.u64 (behW cs off num (Int.toNat i)) ((0 : Nat) + Int.toNat (ari BinOp.quo IntKind.i64 i (64 : Int)) * 1) ∧ True) ∧ ((0 : Int) ≤ ari BinOp.rem IntKind.i64 i (64 : Int) ∧ True) ∧ QgB b (ari BinOp.add IntKind.i64 i (1 : Int)) (1 : Nat) ws #[Value.bool (ari BinOp.and IntKind.u64 (ari BinOp.shr IntKind.u64 (intAt (behW cs off num (Int.toNat i)) ((0 : Nat) + Int.toNat (ari BinOp.quo IntKind.i64 i (64 : Int)) * 1)) (ari BinOp.rem IntKind.i64 i (64 : Int))) (1 : Int) == (1 : Int))] ∧ CallKind.normal = CallKind.normal ∧ TodoOk (ren 1 [(1, 1), (2, 2), (3, 7)]) gA_d0 gA_d0 ∧ off = off ∧ num = num ∧ Fn.func (31 : Nat) = Fn.func (31 : Nat) ∧ (1 : Nat) = (1 : Nat) ∧ ari BinOp.add IntKind.i64 i (1 : Int) = ari BinOp.add IntKind.i64 i (1 : Int) ∧ b = b ∧ CallKind.normal = CallKind.normal ∧ TodoOk (ren 1 [(1, 1), (2, 2), (3, 7)]) gA_d1 gA_d1 ∧ ty = ty ∧ cs = cs ∧ (22 : TypeId) = (22 : TypeId) ∧ off = off ∧ num = num ∧ (4 : TypeId) = (4 : Nat) ∧ #[Value.bool (ari BinOp.and IntKind.u64 (ari BinOp.shr IntKind.u64 (intAt (behW cs off num (Int.toNat i)) ((0 : Nat) + Int.toNat (ari BinOp.quo IntKind.i64 i (64 : Int)) * 1)) (ari BinOp.rem IntKind.i64 i (64 : Int))) (1 : Int) == (1 : Int))] = #[Value.bool (ari BinOp.and IntKind.u64 (ari BinOp.shr IntKind.u64 (intAt (behW cs off num (Int.toNat i)) ((0 : Nat) + Int.toNat (ari BinOp.quo IntKind.i64 i (64 : Int)) * 1)) (ari BinOp.rem IntKind.i64 i (64 : Int))) (1 : Int) == (1 : Int))] ∧ (57 : TypeId) = (57 : TypeId) ∧ ws = ws ∧ True) ∧ (((ari BinOp.and IntKind.u64 (ari BinOp.shr IntKind.u64 (intAt ws ((0 : Nat) + Int.toNat (ari BinOp.quo IntKind.i64 i (64 : Int)) * 1)) (ari BinOp.rem IntKind.i64 i (64 : Int))) (1 : Int) == (1 : Int)) == true) = false → QgB b (ari BinOp.add IntKind.i64 i (1 : Int)) (1 : Nat) ws #[Value.bool false] ∧ CallKind.normal = CallKind.normal ∧ TodoOk (ren 1 [(1, 1), (2, 2), (3, 6)]) gA_d0 gA_d0 ∧ off = off ∧ num = num ∧ Fn.func (31 : Nat) = Fn.func (31 : Nat) ∧ (1 : Nat) = (1 : Nat) ∧ ari BinOp.add IntKind.i64 i (1 : Int) = ari BinOp.add IntKind.i64 i (1 : Int) ∧ b = b ∧ CallKind.normal = CallKind.normal ∧ TodoOk (ren 1 [(1, 1), (2, 2), (3, 6)]) gA_d1 gA_d1 ∧ ty = ty ∧ cs = cs ∧ (22 : TypeId) = (22 : TypeId) ∧ off = off ∧ num = num ∧ (4 : TypeId) = (4 : Nat) ∧ #[Value.bool false] = #[Value.bool false] ∧ (57 : TypeId) = (57 : TypeId) ∧ ws = ws ∧ True)) ∧ (decide (i < b) = false → ok = false ∧ (0 : Int) = (3 : Int))) := by kernel_rfl
theorem yB_vc (off : Nat) (num : Nat) (cs : Array Value) (ty : TypeId) (ok : Bool) (kF : Nat) (rF : Array Value) (b : Int) (i : Int) (k : Nat) (ws : Array Value) (rs : Array Value) (QgB : Int → Int → Nat → Array Value → Array Value → Prop) : (yB_t off num cs ty ok kF rF b i k ws rs).vc ((boE ok kF rF)) (yB_x off num cs ty ok kF rF b i k ws rs QgB) =
    ((decide (i < b) = true → (Array.size ws = (2 : Nat) ∧ True) ∧ (Array.size ws = (2 : Nat) ∧ True) ∧ (((0 : Int) ≤ ari BinOp.quo IntKind.i64 i (64 : Int) ∧ ari BinOp.quo IntKind.i64 i (64 : Int) < (2 : Int)) ∧ True) ∧ (IsInt IntKind.u64 ws ((0 : Nat) + Int.toNat (ari BinOp.quo IntKind.i64 i (64 : Int)) * 1) ∧ True) ∧ ((0 : Int) ≤ ari BinOp.rem IntKind.i64 i (64 : Int) ∧ True) ∧ (((ari BinOp.and IntKind.u64 (ari BinOp.shr IntKind.u64 (intAt ws ((0 : Nat) + Int.toNat (ari BinOp.quo IntKind.i64 i (64 : Int)) * 1)) (ari BinOp.rem IntKind.i64 i (64 : Int))) (1 : Int) == (1 : Int)) == true) = true → (InsOk cs off num ∧ mayV cs off num = true ∧ (0 : Int) ≤ i ∧ i ≤ (↑num : Int) ∧ True) ∧ (((0 : Int) ≤ ari BinOp.quo IntKind.i64 i (64 : Int) ∧ ari BinOp.quo IntKind.i64 i (64 : Int) < (2 : Int)) ∧ True) ∧ (IsInt IntKind.u64 (behW cs off num (Int.toNat i)) ((0 : Nat) + Int.toNat (ari BinOp.quo IntKind.i64 i (64 : Int)) * 1) ∧ True) ∧ ((0 : Int) ≤ ari BinOp.rem IntKind.i64 i (64 : Int) ∧ True) ∧ (((k + 1) * 1 ≤ (140737488355328 : Nat) ∧ k + 1 ≤ (140737488355328 : Nat)) ∧ k * 1 = Array.size rs ∧ True) ∧ QgB b (ari BinOp.add IntKind.i64 i (1 : Int)) (k + 1) ws (rs ++ #[Value.bool (ari BinOp.and IntKind.u64 (ari BinOp.shr IntKind.u64 (intAt (behW cs off num (Int.toNat i)) ((0 : Nat) + Int.toNat (ari BinOp.quo IntKind.i64 i (64 : Int)) * 1)) (ari BinOp.rem IntKind.i64 i (64 : Int))) (1 : Int) == (1 : Int))]) ∧ CallKind.normal = CallKind.normal ∧ TodoOk (ren 1 [(1, 1), (2, 2), (3, 8)]) gA_d0 gA_d0 ∧ off = off ∧ num = num ∧ Fn.func (31 : Nat) = Fn.func (31 : Nat) ∧ k + 1 = k + 1 ∧ ari BinOp.add IntKind.i64 i (1 : Int) = ari BinOp.add IntKind.i64 i (1 : Int) ∧ b = b ∧ CallKind.normal = CallKind.normal ∧ TodoOk (ren 1 [(1, 1), (2, 2), (3, 8)]) gA_d1 gA_d1 ∧ ty = ty ∧ cs = cs ∧ (22 : TypeId) = (22 : TypeId) ∧ off = off ∧ num = num ∧ (4 : TypeId) = (4 : Nat) ∧ rs ++ #[Value.bool (ari BinOp.and IntKind.u64 (ari BinOp.shr IntKind.u64 (intAt (behW cs off num (Int.toNat i)) ((0 : Nat) + Int.toNat (ari BinOp.quo IntKind.i64 i (64 : Int)) * 1)) (ari BinOp.rem IntKind.i64 i (64 : Int))) (1 : Int) == (1 : Int))] = rs ++ #[Value.bool (ari BinOp.and IntKind.u64 (ari BinOp.shr IntKind.u64 (intAt (behW cs off num (Int.toNat i)) ((0 : Nat) + Int.toNat (ari BinOp.quo IntKind.i64 i (64 : Int)) * 1)) (ari BinOp.rem IntKind.i64 i (64 : Int))) (1 : Int) == (1 : Int))] ∧ (57 : TypeId) = (57 : TypeId) ∧ ws = ws ∧ True) ∧ (((ari BinOp.and IntKind.u64 (ari BinOp.shr IntKind.u64 (intAt ws ((0 : Nat) + Int.toNat (ari BinOp.quo IntKind.i64 i (64 : Int)) * 1)) (ari BinOp.rem IntKind.i64 i (64 : Int))) (1 : Int) == (1 : Int)) == true) = false → (((k + 1) * 1 ≤ (140737488355328 : Nat) ∧ k + 1 ≤ (140737488355328 : Nat)) ∧ k * 1 = Array.size rs ∧ True) ∧ QgB b (ari BinOp.add IntKind.i64 i (1 : Int)) (k + 1) ws (rs ++ #[Value.bool false]) ∧ CallKind.normal = CallKind.normal ∧ TodoOk (ren 1 [(1, 1), (2, 2), (3, 7)]) gA_d0 gA_d0 ∧ off = off ∧ num = num ∧ Fn.func (31 : Nat) = Fn.func (31 : Nat) ∧ k + 1 = k + 1 ∧ ari BinOp.add IntKind.i64 i (1 : Int) = ari BinOp.add IntKind.i64 i (1 : Int) ∧ b = b ∧ CallKind.normal = CallKind.normal ∧ TodoOk (ren 1 [(1, 1), (2, 2), (3, 7)]) gA_d1 gA_d1 ∧ ty = ty ∧ cs = cs ∧ (22 : TypeId) = (22 : TypeId) ∧ off = off ∧ num = num ∧ (4 : TypeId) = (4 : Nat) ∧ rs ++ #[Value.bool false] = rs ++ #[Value.bool false] ∧ (57 : TypeId) = (57 : TypeId) ∧ ws = ws ∧ True)) ∧ (decide (i < b) = false → ok = true ∧ kF = k ∧ (4 : TypeId) = (4 : TypeId) ∧ rF = rs ∧ True)) := by kernel_rfl
end Go.Proofs.Ytebkbihhnoellaa
/- Of flow: Loops. No condition. -/
namespace Go.Proofs.Ytebkbihhnoellaa
set_option linter.unusedSectionVars false
set_option maxRecDepth 100000
theorem EG_ok : EnvOk EG := EnvOk.with E0_ok _ _ conB_ok
def cycB (cs : Array Value) (off num i : Nat) : Bool := metB cs off num i && bitW (behW cs off num i) i
section
variable (off num : Nat) (cs : Array Value) (ty : TypeId) (hI : InsOk cs off num) (hM : mayV cs off num = true)
include hI hM
theorem gB_round : ∀ (K i : Nat), num + 1 - i < K → 1 ≤ i → i ≤ num + 1 → Good Try.prog (boE true (num + 1) (boL (cycB cs off num) (num + 1))) 1 (gB_F off num cs ty true (num + 1) (boL (cycB cs off num) (num + 1)) (num + 1 : Nat) i i (metW cs off num) (boL (cycB cs off num) i)) (gB_M off num cs ty true (num + 1) (boL (cycB cs off num) (num + 1)) (num + 1 : Nat) i i (metW cs off num) (boL (cycB cs off num) i)) := by
  have n64 := (mayV_iff.1 hM).1
  have hW : IsW (metW cs off num) := frW_ok (i := 0) hI hM (Nat.zero_le _)
  intro K
  induction K with
  | zero => intro i h; omega
  | succ K ih =>
    intro i hK h1 hi
    refine past_vc EG_ok 1000 (yB_vc off num cs ty true (num + 1) (boL (cycB cs off num) (num + 1)) (num + 1 : Nat) i i (metW cs off num) (boL (cycB cs off num) i)
      (fun b' i' k' ws' rs' => b' = (num + 1 : Nat) ∧ i' = (i + 1 : Nat) ∧ k' = i + 1 ∧ ws' = metW cs off num ∧ rs' = boL (cycB cs off num) (i + 1) ∧ i ≤ num)) ?_ (fun _ _ h => h)
      (fun fs m hb => yB_go (fun b' i' k' ws' rs' h => ?_) hb)
    · by_cases d : i ≤ num
      · have hV := behW_ok hI hM d
        rw [i64_add1 (show i < 1000 by omega), bitW_has hW (by omega), Int.toNat_natCast, bitW_has hV (by omega), quo64 (by omega), rem64, Int.toNat_natCast]
        have e1 : decide ((i : Int) < ((num + 1 : Nat) : Int)) = true := decide_eq_true (by omega)
        have w1 := hW.size
        have w2 : (0 : Int) ≤ ((i / 64 : Nat) : Int) ∧ ((i / 64 : Nat) : Int) < 2 := by omega
        have w3 : IsInt IntKind.u64 (metW cs off num) (0 + i / 64 * 1) := by rw [Nat.zero_add, Nat.mul_one]; exact hW.int _ (by omega)
        have w5 : IsInt IntKind.u64 (behW cs off num i) (0 + i / 64 * 1) := by rw [Nat.zero_add, Nat.mul_one]; exact hV.int _ (by omega)
        have w4 : (0 : Int) ≤ ((i % 64 : Nat) : Int) := by omega
        have w6 : (0 : Int) ≤ (i : Int) ∧ (i : Int) ≤ (num : Int) := by omega
        have c1 : (i + 1) * 1 ≤ 140737488355328 ∧ i + 1 ≤ 140737488355328 := by omega
        have c2 : i * 1 = (boL (cycB cs off num) i).size := by rw [boL_size]; omega
        cases cm : bitW (metW cs off num) i with
        | true =>
          have hm := boL_more (f := cycB cs off num) (i := i) (b := bitW (behW cs off num i) i) (by unfold cycB metB; rw [cm, Bool.true_and])
          rw [hm]
          simp only [e1, w1, w3, w4, w5, w6, c1, d, hI, hM, beqT, beqF, Bool.not_true, Bool.not_false, Bool.true_eq_false, Bool.false_eq_true, false_implies, true_implies, true_and, and_true, gA_d0_ok, gA_d1_ok]
          exact ⟨w2, w2, c2⟩
        | false =>
          have hm := boL_more (f := cycB cs off num) (i := i) (b := false) (by unfold cycB metB; rw [cm, Bool.false_and])
          rw [hm]
          simp only [e1, w1, w3, w4, w5, w6, c1, d, hI, hM, beqT, beqF, Bool.not_true, Bool.not_false, Bool.true_eq_false, Bool.false_eq_true, false_implies, true_implies, true_and, and_true, gA_d0_ok, gA_d1_ok]
          exact ⟨w2, c2⟩
      · have e1 : decide ((i : Int) < ((num + 1 : Nat) : Int)) = false := decide_eq_false (by omega)
        have ei : i = num + 1 := by omega
        simp only [e1, Bool.true_eq_false, Bool.false_eq_true, false_implies, true_implies, true_and, and_true]
        rw [ei]; exact ⟨rfl, rfl⟩
    · obtain ⟨rfl, rfl, rfl, rfl, rfl, h⟩ := h
      exact ih (i + 1) (by omega) (by omega) (by omega)
theorem cyc_yes : Good Try.prog (boE true (num + 1) (boL (cycB cs off num) (num + 1))) 1 [callFr 15 Try.f15.ntmps [prS off num] (Try.f15.body.getD .skip)] (rawM cs ty) := by
  have n64 := (mayV_iff.1 hM).1
  have hW : IsW (metW cs off num) := frW_ok (i := 0) hI hM (Nat.zero_le _)
  refine run_vc EG_ok 8000 (sG_vc off num cs ty true (num + 1) (boL (cycB cs off num) (num + 1)) (fun b' i' ws' => b' = (num + 1 : Nat) ∧ i' = (0 : Nat) ∧ ws' = metW cs off num)) ?_ (fun _ _ h => h)
    (fun fs m hb => sG_go (fun b' i' ws' h => ?_) hb)
  · have z1 : (frW cs off num (0 : Int) (-1)).size = 2 := hW.size
    have z2 : (0 : Int) ≤ (num : Int) := by omega
    rw [i64_add1 (show num < 1000 by omega)]
    simp only [hI, hM, z1, z2, Bool.not_true, Bool.true_eq_false, Bool.false_eq_true, false_implies, true_implies, true_and, and_true, gA_d0_ok, gA_d1_ok]
    exact ⟨Int.le_refl _, rfl, rfl⟩
  · obtain ⟨rfl, rfl, rfl⟩ := h
    refine past_vc EG_ok 1000 (yA_vc off num cs ty true (num + 1) (boL (cycB cs off num) (num + 1)) (num + 1 : Nat) (0 : Nat) (metW cs off num)
      (fun b' i' k' ws' rs' => b' = (num + 1 : Nat) ∧ i' = (1 : Nat) ∧ k' = 1 ∧ ws' = metW cs off num ∧ rs' = boL (cycB cs off num) 1)) ?_ (fun _ _ h => h)
      (fun fs m hb => yA_go (fun b' i' k' ws' rs' h => ?_) hb)
    · have hV := behW_ok hI hM (Nat.zero_le num)
      rw [i64_add1 (show 0 < 1000 by omega), bitW_has hW (by omega), Int.toNat_natCast, bitW_has hV (by omega), quo64 (by omega), rem64, Int.toNat_natCast]
      have e1 : decide (((0 : Nat) : Int) < ((num + 1 : Nat) : Int)) = true := decide_eq_true (by omega)
      have w1 := hW.size
      have w2 : (0 : Int) ≤ ((0 / 64 : Nat) : Int) ∧ ((0 / 64 : Nat) : Int) < 2 := by omega
      have w3 : IsInt IntKind.u64 (metW cs off num) (0 + 0 / 64 * 1) := hW.int 0 (by omega)
      have w5 : IsInt IntKind.u64 (behW cs off num 0) (0 + 0 / 64 * 1) := hV.int 0 (by omega)
      have w4 : (0 : Int) ≤ ((0 % 64 : Nat) : Int) := by omega
      have w6 : (0 : Int) ≤ ((0 : Nat) : Int) ∧ ((0 : Nat) : Int) ≤ (num : Int) := by omega
      cases cm : bitW (metW cs off num) 0 with
      | true =>
        have hm : #[Value.bool (bitW (behW cs off num 0) 0)] = boL (cycB cs off num) 1 := boL_more (f := cycB cs off num) (i := 0) (b := bitW (behW cs off num 0) 0) (by unfold cycB metB; rw [cm, Bool.true_and])
        rw [hm]
        repeat' first | exact trivial | exact e1 | exact w2 | exact w3 | exact w5 | exact w4 | exact w1 | exact hI | exact hM | exact w6.1 | exact w6.2 | exact w2.1 | exact w2.2 | exact gA_d0_ok _ | exact gA_d1_ok _ | apply And.intro | exact rfl | (intro hh; first | (exact absurd hh (by rw [e1]; decide)) | (exact absurd hh (by decide)) | skip)
      | false =>
        have hm : #[Value.bool false] = boL (cycB cs off num) 1 := boL_more (f := cycB cs off num) (i := 0) (b := false) (by unfold cycB metB; rw [cm, Bool.false_and])
        rw [hm]
        repeat' first | exact trivial | exact e1 | exact w2 | exact w3 | exact w5 | exact w4 | exact w1 | exact hI | exact hM | exact w6.1 | exact w6.2 | exact w2.1 | exact w2.2 | exact gA_d0_ok _ | exact gA_d1_ok _ | apply And.intro | exact rfl | (intro hh; first | (exact absurd hh (by rw [e1]; decide)) | (exact absurd hh (by decide)) | skip)
    · obtain ⟨rfl, rfl, rfl, rfl, rfl⟩ := h
      exact gB_round off num cs ty hI hM (num + 2) 1 (by omega) (by omega) (by omega)
end
theorem cyc_no (off num : Nat) (cs : Array Value) (ty : TypeId) (hI : InsOk cs off num) (hM : mayV cs off num = false) : Good Try.prog (boE false 0 #[]) 1 [callFr 15 Try.f15.ntmps [prS off num] (Try.f15.body.getD .skip)] (rawM cs ty) := by
  refine run_vc EG_ok 8000 (sG_vc off num cs ty false 0 #[] (fun _ _ _ => False)) ?_ (fun _ _ h => h) (fun fs m hb => sG_go (fun _ _ _ h => h.elim) hb)
  simp only [hI, hM, Bool.not_false, Bool.true_eq_false, Bool.false_eq_true, false_implies, true_implies, true_and, and_true]
end Go.Proofs.Ytebkbihhnoellaa
/- Of flow: Reached and Loops, as contracts. No condition. -/
namespace Go.Proofs.Ytebkbihhnoellaa
set_option linter.unusedSectionVars false
set_option maxRecDepth 100000
/-- What lies on a loop, as the reference has it. -/
theorem cyc_lp {cs ds : Array Value} {off off' num : Nat} (hI : InsOk cs off num) (hM : mayV cs off num = true) (h : ∀ i, i < num → ins ds off' i = ins cs off i) {i : Nat} (hi : i ≤ num) : cycB cs off num i = lpB ds off' num i := by
  have hx := toL_le hI hM
  have he : ∀ a b, a ≤ num → b ≤ num → (wyE ds off' num (-1) a b = true ↔ b ∈ toL cs off num a ∧ (a : Int) ≠ -1 ∧ (b : Int) ≠ -1) := by
    intro a b ha hb
    have e1 : edB ds off' num a b = true ↔ b ∈ toL ds off' num a := edB_toL (fun i hi => by rw [h i hi]; exact (hI.2 i hi).2.2.2.2.2.1)
    have e2 : toL ds off' num a = toL cs off num a := by
      by_cases d : num ≤ a
      · unfold toL; rw [if_pos d, if_pos d]
      · have hh := h a (by omega)
        unfold toL; rw [hh]
    unfold wyE
    rw [Bool.and_eq_true, Bool.and_eq_true, e1, e2, decide_eq_true_eq, decide_eq_true_eq]
  have e4 := way_iff (s := -1) hx he (i := i) (j := i) hi hi
  have e5 : wayB ds off' num (-1) i i = bitW (behW cs off num i) i := by
    rw [Bool.eq_iff_iff, behW_iff hI hM hi hi]
    unfold wayB
    rw [e4]
    exact ⟨fun h => h.2, fun h => ⟨by omega, h⟩⟩
  unfold cycB lpB
  rw [met_rch hI hM h hi, e5]
theorem Good.boE {k : Nat} {rs : Array Value} {fs : List SFr} {m : SMem} (h : Good Try.prog (boE true k rs) 1 fs m) : Good Try.prog (fun s m' => s = .tup [.c (.f (.slice 1 (.l 0) (.o k) .any)), .c (.f (.int .i64 (.l 0)))] ∧ m' = ⟨2, Tr.nil.set 1 (some ⟨.pop rs, 4, true⟩), []⟩) 1 fs m := by
  refine Good.retX (Good.mono h ?_)
  intro s m h
  unfold Go.Proofs.Ytebkbihhnoellaa.boE at h
  split at h
  · cases h.1
  · exact ⟨_, h.2⟩
  · exact h.elim
noncomputable section
def slE (k : Nat) (j : Nat) : SV := .tup [.c (.f (.slice j (.l 0) (.o k) .any)), .c (.f (.int .i64 (.l 0)))]
def nilE : SV := .tup [.c (.f (.lit (.slice none 0 0))), .c (.f (.int .i64 (.l 3)))]
def eachT (f : Array Value → Nat → Nat → Nat → Bool) (m : SMem) : List SV → Option Tree
  | [.s (.c (.f (.slice i o n _)))] => match rawI m i with
    | some cs => some (needs [InsOk cs o.den n.den] (.br (mayV cs o.den n.den) (.ret (slE (n.den + 1) m.next) (m.new (.pop (boL (f cs o.den n.den) (n.den + 1))) 4)) (.ret nilE m)))
    | none => none
  | _ => none
def conE (g : FuncId) (l : List SV) (m : SMem) : Option Tree := match g, l with
  | 12, l => eachT metB m l
  | 15, l => eachT cycB m l
  | g, l => conD g l m
end
theorem fn12 : E0.fn 12 = some Try.f12 := by kernel_rfl
theorem body12 : Try.f12.body = some (Try.f12.body.getD .skip) := by kernel_rfl
theorem fn15 : E0.fn 15 = some Try.f15 := by kernel_rfl
theorem body15 : Try.f15.body = some (Try.f15.body.getD .skip) := by kernel_rfl
theorem nilE_ok {k : Nat} {rs : Array Value} {s : SV} {m' : SMem} {R R' : Ren} {v : Value} (h : boE false k rs s m') (hv : s.ok R' v) : nilE.ok R v := by
  unfold boE at h
  split at h
  · rename_i e
    obtain ⟨vs, rfl, hv⟩ := hv
    refine ⟨vs, rfl, ?_⟩
    revert hv
    generalize vs.toList = l
    intro hv
    match l, hv with
    | [x, y], ⟨h1, h2, _⟩ =>
      refine ⟨h1, ?_, trivial⟩
      have h2 : y = .int .i64 e.den := h2
      rw [h2, h.2]; rfl
  · cases h.1
  · exact h.elim
theorem eachT_ok {f : Array Value → Nat → Nat → Nat → Bool} {g : FuncId} {fn : Func} {c : Code} (h1 : E0.fn g = some fn) (h2 : fn.body = some c)
    (hy : ∀ off num cs ty, InsOk cs off num → mayV cs off num = true → Good Try.prog (boE true (num + 1) (boL (f cs off num) (num + 1))) 1 [callFr g fn.ntmps [prS off num] c] (rawM cs ty))
    (hno : ∀ off num cs ty, InsOk cs off num → mayV cs off num = false → Good Try.prog (boE false 0 #[]) 1 [callFr g fn.ntmps [prS off num] c] (rawM cs ty))
    {m : SMem} {l : List SV} {t : Tree} (h : eachT f m l = some t) : Con E0 g l m t := by
  unfold eachT at h
  split at h
  · rename_i i o n cap
    split at h
    · rename_i cs e
      cases h
      obtain ⟨ty, wr, hb⟩ := rawI_of e
      refine Con.br (fun hm => ?_) (fun hm => ?_)
      · exact Con.made (v := true) (S := slE (n.den + 1)) (l := []) (l' := []) h1 h2 hb nil_args (fun hq => Good.boE (hy o.den n.den cs ty (hq _ (by simp)) hm)) (fun f => rfl)
      · exact Con.rawN h1 h2 e (l := []) (l' := []) (A := boE false 0 #[]) nil_args (fun ty hq => hno o.den n.den cs ty (hq _ (by simp)) hm) (fun _ _ _ _ _ h hv => nilE_ok h hv)
    · cases h
  · cases h
theorem conE_ok (g : FuncId) (l : List SV) (m : SMem) (t : Tree) (h : conE g l m = some t) : Con E0 g l m t := by
  unfold conE at h
  split at h
  · exact eachT_ok fn12 body12 (fun off num cs ty hI hM => reach_yes off num cs ty hI hM) (fun off num cs ty hI hM => reach_no off num cs ty hI hM) h
  · exact eachT_ok fn15 body15 (fun off num cs ty hI hM => cyc_yes off num cs ty hI hM) (fun off num cs ty hI hM => cyc_no off num cs ty hI hM) h
  · exact conD_ok _ _ _ _ h
end Go.Proofs.Ytebkbihhnoellaa
/- Of flow: the law's row: its states. No condition. -/
namespace Go.Proofs.Ytebkbihhnoellaa
set_option linter.unusedVariables false
noncomputable def roS (i : Nat) (n : Nat) : SV := .s (.c (.f (.slice i (.l 0) (.o n) .any)))
noncomputable def EQ : Env := ⟨Try.prog, fnOf, conE, haltAt [13004]⟩
noncomputable def qA_d0 : List SIt := sekF Try.f13 4
noncomputable def qA_F (n : Nat) (k : Nat) (rs : Array Value) (qs : Array Value) (ta : TypeId) (tb : TypeId) (r : Bool) (i : Int) : List SFr := [frOf 13 Try.f13 [(0, roS 0 n), (1, roS 1 k), (5, i64 (.o i))] qA_d0]
noncomputable def qA_M (n : Nat) (k : Nat) (rs : Array Value) (qs : Array Value) (ta : TypeId) (tb : TypeId) (r : Bool) (i : Int) : SMem := mkM 2 [(0, ⟨.pop rs, ta, false⟩), (1, ⟨.pop qs, tb, false⟩)]
noncomputable def qA_n (n : Nat) (k : Nat) (rs : Array Value) (qs : Array Value) (ta : TypeId) (tb : TypeId) (r : Bool) (Q : Int → Prop) (fs : List SFr) (m : SMem) : Prop := (match frNth fs 0 with | some f0 => (match rdI f0 5 with | some i => Q i ∧ subOk 2 [] (qA_F n k rs qs ta tb r i) (qA_M n k rs qs ta tb r i) fs m | none => False) | none => False)
noncomputable def sQ_t (n : Nat) (k : Nat) (rs : Array Value) (qs : Array Value) (ta : TypeId) (tb : TypeId) (r : Bool) : Tree := run EQ 8000 2 [callFr 13 Try.f13.ntmps [roS 0 n, roS 1 k] (Try.f13.body.getD .skip)] (mkM 2 [(0, ⟨.pop rs, ta, false⟩), (1, ⟨.pop qs, tb, false⟩)])
noncomputable def sQ_x (n : Nat) (k : Nat) (rs : Array Value) (qs : Array Value) (ta : TypeId) (tb : TypeId) (r : Bool) (QqA : Int → Prop) (fs : List SFr) (m : SMem) : Prop := qA_n n k rs qs ta tb r QqA fs m
noncomputable def zA_t (n : Nat) (k : Nat) (rs : Array Value) (qs : Array Value) (ta : TypeId) (tb : TypeId) (r : Bool) (i : Int) : Tree := stepT EQ.go (run EQ 1000) 2 (qA_F n k rs qs ta tb r i) (qA_M n k rs qs ta tb r i)
noncomputable def zA_x (n : Nat) (k : Nat) (rs : Array Value) (qs : Array Value) (ta : TypeId) (tb : TypeId) (r : Bool) (i : Int) (QqA : Int → Prop) (fs : List SFr) (m : SMem) : Prop := qA_n n k rs qs ta tb r QqA fs m
theorem qA_d0_ok (r : Nat → Option Nat) : TodoOk r qA_d0 qA_d0 := TodoOk.it (by kernel_rfl)
theorem qA_good {A : SV → SMem → Prop} {n : Nat} {k : Nat} {rs : Array Value} {qs : Array Value} {ta : TypeId} {tb : TypeId} {r : Bool} {Q : Int → Prop} {fs : List SFr} {m : SMem} (H : ∀ i, Q i → Good Try.prog A 2 (qA_F n k rs qs ta tb r i) (qA_M n k rs qs ta tb r i)) (hb : qA_n n k rs qs ta tb r Q fs m) : Good Try.prog A 2 fs m := by
  unfold qA_n at hb
  split at hb
  rotate_left
  · exact hb.elim
  split at hb
  rotate_left
  · exact hb.elim
  exact Good.of_sub hb.2 (H _ hb.1)
theorem sQ_go {A : SV → SMem → Prop} {n : Nat} {k : Nat} {rs : Array Value} {qs : Array Value} {ta : TypeId} {tb : TypeId} {r : Bool} {QqA : Int → Prop} {fs : List SFr} {m : SMem} (hqA : ∀ i', QqA i' → Good Try.prog A 2 (qA_F n k rs qs ta tb r i') (qA_M n k rs qs ta tb r i')) (hb : sQ_x n k rs qs ta tb r QqA fs m) : Good Try.prog A 2 fs m := by
  unfold sQ_x at hb
  exact qA_good hqA hb
theorem zA_go {A : SV → SMem → Prop} {n : Nat} {k : Nat} {rs : Array Value} {qs : Array Value} {ta : TypeId} {tb : TypeId} {r : Bool} {i : Int} {QqA : Int → Prop} {fs : List SFr} {m : SMem} (hqA : ∀ i', QqA i' → Good Try.prog A 2 (qA_F n k rs qs ta tb r i') (qA_M n k rs qs ta tb r i')) (hb : zA_x n k rs qs ta tb r i QqA fs m) : Good Try.prog A 2 fs m := by
  unfold zA_x at hb
  exact qA_good hqA hb
end Go.Proofs.Ytebkbihhnoellaa
/- Of flow: the law's row: its states. -/
namespace Go.Proofs.Ytebkbihhnoellaa
set_option maxRecDepth 100000
theorem sQ_vc (n : Nat) (k : Nat) (rs : Array Value) (qs : Array Value) (ta : TypeId) (tb : TypeId) (r : Bool) (QqA : Int → Prop) : (sQ_t n k rs qs ta tb r).vc ((boolR r)) (sQ_x n k rs qs ta tb r QqA) =
    ((((↑n : Int) != (↑k : Int)) = true → false = r) ∧ (((↑n : Int) != (↑k : Int)) = false → QqA (0 : Int) ∧ CallKind.normal = CallKind.normal ∧ TodoOk (ren 2 []) qA_d0 qA_d0 ∧ n = n ∧ k = k ∧ (0 : Int) = (0 : Int) ∧ ta = ta ∧ rs = rs ∧ tb = tb ∧ qs = qs ∧ True)) := by kernel_rfl
theorem zA_vc (n : Nat) (k : Nat) (rs : Array Value) (qs : Array Value) (ta : TypeId) (tb : TypeId) (r : Bool) (i : Int) (QqA : Int → Prop) : (zA_t n k rs qs ta tb r i).vc ((boolR r)) (zA_x n k rs qs ta tb r i QqA) =
    ((decide (i < (↑n : Int)) = true → (((0 : Int) ≤ i ∧ i < (↑n : Int)) ∧ True) ∧ (IsBool rs ((0 : Nat) + Int.toNat i * 1) ∧ True) ∧ (((0 : Int) ≤ i ∧ i < (↑k : Int)) ∧ True) ∧ (IsBool qs ((0 : Nat) + Int.toNat i * 1) ∧ True) ∧ ((!boolAt rs ((0 : Nat) + Int.toNat i * 1) == boolAt qs ((0 : Nat) + Int.toNat i * 1)) = true → false = r) ∧ ((!boolAt rs ((0 : Nat) + Int.toNat i * 1) == boolAt qs ((0 : Nat) + Int.toNat i * 1)) = false → QqA (ari BinOp.add IntKind.i64 i (1 : Int)) ∧ CallKind.normal = CallKind.normal ∧ TodoOk (ren 2 []) qA_d0 qA_d0 ∧ n = n ∧ k = k ∧ ari BinOp.add IntKind.i64 i (1 : Int) = ari BinOp.add IntKind.i64 i (1 : Int) ∧ ta = ta ∧ rs = rs ∧ tb = tb ∧ qs = qs ∧ True)) ∧ (decide (i < (↑n : Int)) = false → true = r)) := by kernel_rfl
end Go.Proofs.Ytebkbihhnoellaa
/- Of flow: the law's row, of two rows that are equal. No condition. -/
namespace Go.Proofs.Ytebkbihhnoellaa
set_option linter.unusedSectionVars false
set_option maxRecDepth 100000
theorem EQ_ok : EnvOk EQ := EnvOk.with E0_ok _ _ conE_ok
def LikeB (rs qs : Array Value) (n : Nat) : Prop := n < 1000 ∧ ∀ i, i < n → IsBool rs (0 + i * 1) ∧ qs[0 + i * 1]? = rs[0 + i * 1]?
theorem like_boL {f g : Nat → Bool} {n : Nat} (hn : n < 1000) (h : ∀ i, i < n → f i = g i) : LikeB (boL f n) (boL g n) n :=
  ⟨hn, fun i hi => ⟨isBo_of (boL_get f hi), by rw [boL_get g hi, boL_get f hi, h i hi]⟩⟩
theorem row_round {n : Nat} {rs qs : Array Value} (ta tb : TypeId) (h : LikeB rs qs n) : ∀ (K i : Nat), n - i < K → i ≤ n → Good Try.prog (boolR true) 2 (qA_F n n rs qs ta tb true i) (qA_M n n rs qs ta tb true i) := by
  intro K
  induction K with
  | zero => intro i h; omega
  | succ K ih =>
    intro i hK hi
    refine past_vc EQ_ok 1000 (zA_vc n n rs qs ta tb true i (fun i' => i' = (i + 1 : Nat) ∧ i < n)) ?_ (fun _ _ h => h) (fun fs m hb => zA_go (fun i' h => ?_) hb)
    · have hn := h.1
      rw [i64_add1 (show i < 1000 by omega), Int.toNat_natCast]
      refine ⟨fun d => ?_, fun d => rfl⟩
      have d : i < n := by have := of_decide_eq_true d; omega
      obtain ⟨b1, b2⟩ := h.2 i d
      have b3 : boolAt qs (0 + i * 1) = boolAt rs (0 + i * 1) := by unfold boolAt; rw [b2]
      have b4 : IsBool qs (0 + i * 1) := by unfold IsBool at b1 ⊢; rw [b2, b3]; exact b1
      have w1 : (0 : Int) ≤ (i : Int) ∧ (i : Int) < (n : Int) := by omega
      have e : (!boolAt rs (0 + i * 1) == boolAt qs (0 + i * 1)) = false := by rw [b3]; simp
      refine ⟨⟨w1, trivial⟩, ⟨b1, trivial⟩, ⟨w1, trivial⟩, ⟨b4, trivial⟩, fun hh => ?_, fun _ => ⟨⟨rfl, d⟩, rfl, qA_d0_ok _, rfl, rfl, rfl, rfl, rfl, rfl, rfl, trivial⟩⟩
      rw [e] at hh; cases hh
    · obtain ⟨rfl, d⟩ := h
      exact ih (i + 1) (by omega) (by omega)
theorem row_good {n : Nat} {rs qs : Array Value} (ta tb : TypeId) (h : LikeB rs qs n) : Good Try.prog (boolR true) 2 [callFr 13 Try.f13.ntmps [roS 0 n, roS 1 n] (Try.f13.body.getD .skip)] (mkM 2 [(0, ⟨.pop rs, ta, false⟩), (1, ⟨.pop qs, tb, false⟩)]) := by
  refine run_vc EQ_ok 8000 (sQ_vc n n rs qs ta tb true (fun i' => i' = (0 : Nat))) ?_ (fun _ _ h => h) (fun fs m hb => sQ_go (fun i' h' => ?_) hb)
  · refine ⟨fun hh => ?_, fun _ => ⟨rfl, rfl, qA_d0_ok _, rfl, rfl, rfl, rfl, rfl, rfl, rfl, trivial⟩⟩
    have e : ((n : Int) != (n : Int)) = false := by simp
    rw [e] at hh; cases hh
  · subst h'
    exact row_round ta tb h (n + 1) 0 (by omega) (by omega)
noncomputable section
def likeT (m : SMem) : List SV → Option Tree
  | [.s (.c (.f (.slice i (.l 0) n _))), .s (.c (.f (.slice j (.l 0) k _)))] => match rowR m i, rowR m j with
    | some rs, some qs => some (needs [n.den = k.den, LikeB rs qs n.den] (.ret (sB (.l true)) m))
    | _, _ => none
  | _ => none
end
theorem fn13 : E0.fn 13 = some Try.f13 := by kernel_rfl
theorem body13 : Try.f13.body = some (Try.f13.body.getD .skip) := by kernel_rfl
theorem qM_get {rs qs : Array Value} {ta tb : TypeId} {i : Nat} {b : SBlk} (h : getB (mkM 2 [(0, ⟨.pop rs, ta, false⟩), (1, ⟨.pop qs, tb, false⟩)]).bl i = some b) : (i = 0 ∧ b = ⟨.pop rs, ta, false⟩) ∨ (i = 1 ∧ b = ⟨.pop qs, tb, false⟩) := by
  have hk := Tr.mem_keys h
  have e : (mkM 2 [(0, ⟨.pop rs, ta, false⟩), (1, ⟨.pop qs, tb, false⟩)]).bl.keys = [0, 1] := by kernel_rfl
  rw [e] at hk
  simp only [List.mem_cons, List.not_mem_nil, or_false] at hk
  rcases hk with rfl | rfl
  · exact .inl ⟨rfl, (Option.some.inj h).symm⟩
  · exact .inr ⟨rfl, (Option.some.inj h).symm⟩
theorem likeT_ok {m : SMem} {l : List SV} {t : Tree} (h : likeT m l = some t) : Con E0 13 l m t := by
  unfold likeT at h
  split at h
  case h_2 => cases h
  rename_i i n c1 j k c2
  split at h
  case h_2 => cases h
  rename_i rs qs e1 e2
  cases h
  obtain ⟨ta, wa, ha⟩ := rowR_of e1
  obtain ⟨tb, wb, hb⟩ := rowR_of e2
  refine Con.ro E0_ok (l' := [roS 0 n.den, roS 1 k.den]) (ms := mkM 2 [(0, ⟨.pop rs, ta, false⟩), (1, ⟨.pop qs, tb, false⟩)]) (A := boolR true) fn13 body13 rfl (fun x => if x = 0 then i else j) ?_ ?_ (fun hq => by
    have e : n.den = k.den := hq _ (by simp)
    have hL : LikeB rs qs n.den := hq _ (by simp)
    rw [← e]
    exact row_good ta tb hL) (fun s m' R R' v h hv => ?_)
  · intro x b hx
    rcases qM_get hx with ⟨rfl, rfl⟩ | ⟨rfl, rfl⟩
    · exact ⟨show 0 < 2 by omega, rfl, _, ha, rfl, fun R cs' h => h⟩
    · exact ⟨show 1 < 2 by omega, rfl, _, hb, rfl, fun R cs' h => h⟩
  · intro R vs hv
    match vs, hv with
    | [x, y], hv =>
      obtain ⟨⟨g1, c1, a1, a2, a3, a4⟩, ⟨g2, c2, b1, b2, b3, b4⟩, _⟩ := hv
      exact ⟨⟨g1, c1, a1, a2, trivial, a4⟩, ⟨g2, c2, b1, b2, trivial, b4⟩, trivial⟩
  · exact bool_ok (R := R) h hv
end Go.Proofs.Ytebkbihhnoellaa
/- Of flow: what is answered of what is no program: its states. No condition. -/
namespace Go.Proofs.Ytebkbihhnoellaa
noncomputable section
def conF (g : FuncId) (l : List SV) (m : SMem) : Option Tree := match g, l with
  | 13, l => likeT m l
  | g, l => conE g l m
def EN : Env := ⟨Try.prog, fnOf, conF, fun _ _ x => isLoop x⟩
def noR (s0 s : SV) (_ : SMem) : Prop := match s0.same (fun _ => none) s with
  | some q => allP q
  | none => False
def i3 : S1 := .c (.f (.int .i64 (.l 3)))
def zero3 : SV := .tup [.c (.f (.int .i64 (.l 0))), i3]
def fals3 : SV := .tup [.c (.f (.bool (.l false))), i3]
def c16 (off n : Nat) : List SFr := [callFr 16 Try.f16.ntmps [prS off n] (Try.f16.body.getD .skip)]
def c20 (off n : Nat) : List SFr := [callFr 20 Try.f20.ntmps [prS off n] (Try.f20.body.getD .skip)]
def c10 (off n : Nat) (a : Int) : List SFr := [callFr 10 Try.f10.ntmps [prS off n, i64 (.o a)] (Try.f10.body.getD .skip)]
def c22 (off n : Nat) (a b : Int) : List SFr := [callFr 22 Try.f22.ntmps [prS off n, i64 (.o a), i64 (.o b)] (Try.f22.body.getD .skip)]
end
theorem conF_ok (g : FuncId) (l : List SV) (m : SMem) (t : Tree) (h : conF g l m = some t) : Con E0 g l m t := by
  unfold conF at h
  split at h
  · exact likeT_ok h
  · exact conE_ok _ _ _ _ h
theorem EN_ok : EnvOk EN := EnvOk.with E0_ok _ _ conF_ok
end Go.Proofs.Ytebkbihhnoellaa
/- Of flow: what is answered of what is no program, as propositions. No condition. -/
namespace Go.Proofs.Ytebkbihhnoellaa
set_option maxRecDepth 100000
theorem n10_vc (cs : Array Value) (ty : TypeId) (off n : Nat) (a : Int) : (run EN 4000 1 (c10 off n a) (rawM cs ty)).vc (noR nilE) (fun _ _ => False) =
    ((InsOk cs off n ∧ True) ∧ ((!mayV cs off n) = true → Value.slice none (0 : Nat) (0 : Nat) = Value.slice none (0 : Nat) (0 : Nat) ∧ True) ∧ ((!mayV cs off n) = false → ((decide (a < (0 : Int)) == false) = true → (decide (a ≥ (↑n : Int)) = true → False) ∧ (decide (a ≥ (↑n : Int)) = false → (((0 : Int) ≤ a ∧ a < (↑n : Int)) ∧ True) ∧ (IsInt IntKind.u16 cs (off + Int.toNat a * 5 + 4) ∧ True) ∧ (((0 : Int) ≤ a ∧ a < (↑n : Int)) ∧ True) ∧ (IsInt IntKind.u8 cs (off + Int.toNat a * 5) ∧ True) ∧ ((intAt cs (off + Int.toNat a * 5) == (0 : Int)) = true → False) ∧ ((intAt cs (off + Int.toNat a * 5) == (0 : Int)) = false → ((intAt cs (off + Int.toNat a * 5) == (5 : Int)) = true → False) ∧ ((intAt cs (off + Int.toNat a * 5) == (5 : Int)) = false → ((intAt cs (off + Int.toNat a * 5) == (6 : Int)) = true → False) ∧ ((intAt cs (off + Int.toNat a * 5) == (6 : Int)) = false → False))))) ∧ ((decide (a < (0 : Int)) == false) = false → False))) := by kernel_rfl
theorem n16_vc (cs : Array Value) (ty : TypeId) (off n : Nat) : (run EN 4000 1 (c16 off n) (rawM cs ty)).vc (noR zero3) (fun _ _ => False) =
    ((InsOk cs off n ∧ True) ∧ (mayV cs off n = true → False) ∧ (mayV cs off n = false → True)) := by kernel_rfl
theorem n20_vc (cs : Array Value) (ty : TypeId) (off n : Nat) : (run EN 4000 1 (c20 off n) (rawM cs ty)).vc (noR nilE) (fun _ _ => False) =
    ((InsOk cs off n ∧ True) ∧ (mayV cs off n = true → False) ∧ (mayV cs off n = false → Value.slice none (0 : Nat) (0 : Nat) = Value.slice none (0 : Nat) (0 : Nat) ∧ True)) := by kernel_rfl
theorem n22_vc (cs : Array Value) (ty : TypeId) (off n : Nat) (a b : Int) : (run EN 4000 1 (c22 off n a b) (rawM cs ty)).vc (noR fals3) (fun _ _ => False) =
    ((InsOk cs off n ∧ True) ∧ (mayV cs off n = true → ((decide (a < (0 : Int)) == false) = true → ((decide (a > (↑n : Int)) == false) = true → ((decide (b < (0 : Int)) == false) = true → ((decide (b > (↑n : Int)) == false) = true → (((0 : Int) ≤ a ∧ a < (↑(n + 1) : Int)) ∧ True) ∧ (IsBool (boL (metB cs off n) (n + 1)) ((0 : Nat) + Int.toNat a * 1) ∧ True) ∧ (((!boolAt (boL (metB cs off n) (n + 1)) ((0 : Nat) + Int.toNat a * 1)) == false) = true → (((0 : Int) ≤ b ∧ b < (↑(n + 1) : Int)) ∧ True) ∧ (IsBool (boL (metB cs off n) (n + 1)) ((0 : Nat) + Int.toNat b * 1) ∧ True) ∧ ((!boolAt (boL (metB cs off n) (n + 1)) ((0 : Nat) + Int.toNat b * 1)) = true → False) ∧ ((!boolAt (boL (metB cs off n) (n + 1)) ((0 : Nat) + Int.toNat b * 1)) = false → (InsOk cs off n ∧ mayV cs off n = true ∧ (0 : Int) ≤ (0 : Int) ∧ (0 : Int) ≤ (↑n : Int) ∧ True) ∧ (((0 : Int) ≤ ari BinOp.quo IntKind.i64 b (64 : Int) ∧ ari BinOp.quo IntKind.i64 b (64 : Int) < (2 : Int)) ∧ True) ∧ (IsInt IntKind.u64 (frW cs off n (0 : Int) a) ((0 : Nat) + Int.toNat (ari BinOp.quo IntKind.i64 b (64 : Int)) * 1) ∧ True) ∧ ((0 : Int) ≤ ari BinOp.rem IntKind.i64 b (64 : Int) ∧ True) ∧ False)) ∧ (((!boolAt (boL (metB cs off n) (n + 1)) ((0 : Nat) + Int.toNat a * 1)) == false) = false → False)) ∧ ((decide (b > (↑n : Int)) == false) = false → False)) ∧ ((decide (b < (0 : Int)) == false) = false → False)) ∧ ((decide (a > (↑n : Int)) == false) = false → False)) ∧ ((decide (a < (0 : Int)) == false) = false → False)) ∧ (mayV cs off n = false → True)) := by kernel_rfl
end Go.Proofs.Ytebkbihhnoellaa
/- Of flow: what is answered of what is no program, as contracts. No condition. -/
namespace Go.Proofs.Ytebkbihhnoellaa
set_option maxRecDepth 100000
theorem noR_ok {s0 s : SV} {m' : SMem} {R R' : Ren} {v : Value} (h : noR s0 s m') (hv : s.ok R' v) : s0.ok R v := by
  unfold noR at h
  split at h
  · rename_i q e
    exact SV.same_ok (fun i j h => by cases h) e (allP_iff h) hv
  · exact h.elim
section
variable {cs : Array Value} {off n : Nat} (ty : TypeId) (hI : InsOk cs off n) (hM : mayV cs off n = false)
include hI hM
theorem n16_good : Good Try.prog (noR zero3) 1 (c16 off n) (rawM cs ty) := by
  refine run_vc EN_ok 4000 (n16_vc cs ty off n) ?_ (fun _ _ h => h) (fun _ _ h => h.elim)
  simp only [hI, hM, Bool.false_eq_true, false_implies, true_implies, true_and, and_true]
theorem n20_good : Good Try.prog (noR nilE) 1 (c20 off n) (rawM cs ty) := by
  refine run_vc EN_ok 4000 (n20_vc cs ty off n) ?_ (fun _ _ h => h) (fun _ _ h => h.elim)
  simp only [hI, hM, Bool.false_eq_true, false_implies, true_implies, true_and, and_true]
theorem n22_good (a b : Int) : Good Try.prog (noR fals3) 1 (c22 off n a b) (rawM cs ty) := by
  refine run_vc EN_ok 4000 (n22_vc cs ty off n a b) ?_ (fun _ _ h => h) (fun _ _ h => h.elim)
  simp only [hI, hM, Bool.false_eq_true, false_implies, true_implies, true_and, and_true]
theorem n10_good (a : Int) : Good Try.prog (noR nilE) 1 (c10 off n a) (rawM cs ty) := by
  refine run_vc EN_ok 4000 (n10_vc cs ty off n a) ?_ (fun _ _ h => h) (fun _ _ h => h.elim)
  simp only [hI, hM, Bool.not_false, Bool.true_eq_false, Bool.false_eq_true, false_implies, true_implies, true_and, and_true]
end
noncomputable section
/-- What each answers of what is no program. -/
def noT (s0 : SV) (m : SMem) : List SV → Option Tree
  | .s (.c (.f (.slice i o n _))) :: _ => match rawI m i with
    | some cs => some (needs [InsOk cs o.den n.den, mayV cs o.den n.den = false] (.ret s0 m))
    | none => none
  | _ => none
def isI (x : SV) : Bool := match x with
  | .s (.c (.f (.int .i64 _))) => true
  | _ => false
def conG (g : FuncId) (l : List SV) (m : SMem) : Option Tree := match g, l with
  | 10, [x, y] => match isI y with
    | true => noT nilE m [x, y]
    | false => none
  | 16, [x] => noT zero3 m [x]
  | 20, [x] => noT nilE m [x]
  | 22, [x, y, z] => match isI y && isI z with
    | true => noT fals3 m [x, y, z]
    | false => none
  | g, l => conF g l m
end
theorem fn10 : E0.fn 10 = some Try.f10 := by kernel_rfl
theorem body10 : Try.f10.body = some (Try.f10.body.getD .skip) := by kernel_rfl
theorem fn16 : E0.fn 16 = some Try.f16 := by kernel_rfl
theorem body16 : Try.f16.body = some (Try.f16.body.getD .skip) := by kernel_rfl
theorem fn20 : E0.fn 20 = some Try.f20 := by kernel_rfl
theorem body20 : Try.f20.body = some (Try.f20.body.getD .skip) := by kernel_rfl
theorem fn22 : E0.fn 22 = some Try.f22 := by kernel_rfl
theorem body22 : Try.f22.body = some (Try.f22.body.getD .skip) := by kernel_rfl
theorem isI_ok {x : SV} (h : isI x = true) : ∃ a, x = i64 a := by
  unfold isI at h
  split at h
  · exact ⟨_, rfl⟩
  · cases h
theorem noT_ok {s0 : SV} {g : FuncId} {fn : Func} {c : Code} {x : SV} {r r' : List SV} (h1 : E0.fn g = some fn) (h2 : fn.body = some c) (hl : ∀ R R' vs, All2 (SV.ok R) r vs → All2 (SV.ok R') r' vs)
    (hg : ∀ off n cs ty, InsOk cs off n → mayV cs off n = false → Good Try.prog (noR s0) 1 [callFr g fn.ntmps (prS off n :: r') c] (rawM cs ty))
    {m : SMem} {t : Tree} (h : noT s0 m (x :: r) = some t) : Con E0 g (x :: r) m t := by
  unfold noT at h
  split at h
  · rename_i i o n cap _ e0
    obtain ⟨rfl, rfl⟩ := List.cons.inj e0
    split at h
    · rename_i cs e
      cases h
      exact Con.rawN h1 h2 e (l := r) (l' := r') (A := noR s0) hl (fun ty hq => hg o.den n.den cs ty (hq _ (by simp)) (hq _ (by simp))) (fun _ _ _ _ _ h hv => noR_ok h hv)
    · cases h
  · cases h
theorem conG_ok (g : FuncId) (l : List SV) (m : SMem) (t : Tree) (h : conG g l m = some t) : Con E0 g l m t := by
  unfold conG at h
  split at h
  · split at h
    · rename_i hi
      obtain ⟨a, rfl⟩ := isI_ok hi
      exact noT_ok fn10 body10 int_ok (fun off n cs ty hI hM => n10_good ty hI hM a.den) h
    · cases h
  · exact noT_ok fn16 body16 nil_args (fun off n cs ty hI hM => n16_good ty hI hM) h
  · exact noT_ok fn20 body20 nil_args (fun off n cs ty hI hM => n20_good ty hI hM) h
  · split at h
    · rename_i hi
      simp only [Bool.and_eq_true] at hi
      obtain ⟨a, rfl⟩ := isI_ok hi.1
      obtain ⟨b, rfl⟩ := isI_ok hi.2
      exact noT_ok fn22 body22 ints_ok (fun off n cs ty hI hM => n22_good ty hI hM a.den b.den) h
    · cases h
  · exact conF_ok _ _ _ _ h
end Go.Proofs.Ytebkbihhnoellaa
/- Of flow: bad: its states. No condition. -/
namespace Go.Proofs.Ytebkbihhnoellaa
noncomputable section
def EB : Env := ⟨Try.prog, fnOf, conG, fun _ _ x => isLoop x⟩
def c9 (off n : Nat) (a b : Int) : List SFr := [callFr 9 Try.f9.ntmps [prS off n, i64 (.o a), i64 (.o b)] (Try.f9.body.getD .skip)]
end
theorem EB_ok : EnvOk EB := EnvOk.with E0_ok _ _ conG_ok
end Go.Proofs.Ytebkbihhnoellaa
/- Of flow: bad, as a proposition. No condition. -/
namespace Go.Proofs.Ytebkbihhnoellaa
set_option maxRecDepth 100000
theorem bad_vc (cs : Array Value) (ty : TypeId) (off n : Nat) (a b : Int) (r : Bool) : (run EB 8000 1 (c9 off n a b) (rawM cs ty)).vc (boolR r) (fun _ _ => False) =
    ((InsOk cs off n ∧ mayV cs off n = false ∧ True) ∧ (InsOk cs off n ∧ True) ∧ (mayV cs off n = true → (InsOk cs off n ∧ True) ∧ (mayV cs off n = true → (InsOk cs off n ∧ mayV cs off n = false ∧ True) ∧ (InsOk cs off n ∧ mayV cs off n = false ∧ True) ∧ (InsOk cs off n ∧ mayV cs off n = false ∧ True) ∧ (((ari BinOp.add IntKind.i64 (ari BinOp.add IntKind.i64 (ari BinOp.add IntKind.i64 (ari BinOp.add IntKind.i64 (0 : Int) (↑(n + 1) : Int)) (↑(n + 1) : Int)) (0 : Int)) (0 : Int) == (0 : Int)) == true) = true → false = r) ∧ (((ari BinOp.add IntKind.i64 (ari BinOp.add IntKind.i64 (ari BinOp.add IntKind.i64 (ari BinOp.add IntKind.i64 (0 : Int) (↑(n + 1) : Int)) (↑(n + 1) : Int)) (0 : Int)) (0 : Int) == (0 : Int)) == true) = false → false = r)) ∧ (mayV cs off n = false → (InsOk cs off n ∧ mayV cs off n = false ∧ True) ∧ (InsOk cs off n ∧ mayV cs off n = false ∧ True) ∧ (InsOk cs off n ∧ mayV cs off n = false ∧ True) ∧ (((ari BinOp.add IntKind.i64 (ari BinOp.add IntKind.i64 (ari BinOp.add IntKind.i64 (ari BinOp.add IntKind.i64 (0 : Int) (↑(n + 1) : Int)) (0 : Int)) (0 : Int)) (0 : Int) == (0 : Int)) == true) = true → false = r) ∧ (((ari BinOp.add IntKind.i64 (ari BinOp.add IntKind.i64 (ari BinOp.add IntKind.i64 (ari BinOp.add IntKind.i64 (0 : Int) (↑(n + 1) : Int)) (0 : Int)) (0 : Int)) (0 : Int) == (0 : Int)) == true) = false → false = r))) ∧ (mayV cs off n = false → (InsOk cs off n ∧ True) ∧ (mayV cs off n = true → (InsOk cs off n ∧ mayV cs off n = false ∧ True) ∧ (InsOk cs off n ∧ mayV cs off n = false ∧ True) ∧ (InsOk cs off n ∧ mayV cs off n = false ∧ True) ∧ (((ari BinOp.add IntKind.i64 (ari BinOp.add IntKind.i64 (ari BinOp.add IntKind.i64 (0 : Int) (↑(n + 1) : Int)) (0 : Int)) (0 : Int) == (0 : Int)) == true) = true → false = r) ∧ (((ari BinOp.add IntKind.i64 (ari BinOp.add IntKind.i64 (ari BinOp.add IntKind.i64 (0 : Int) (↑(n + 1) : Int)) (0 : Int)) (0 : Int) == (0 : Int)) == true) = false → false = r)) ∧ (mayV cs off n = false → (InsOk cs off n ∧ mayV cs off n = false ∧ True) ∧ (InsOk cs off n ∧ mayV cs off n = false ∧ True) ∧ (InsOk cs off n ∧ mayV cs off n = false ∧ True) ∧ ((3 : Int) == (3 : Int)) = r))) := by kernel_rfl
end Go.Proofs.Ytebkbihhnoellaa
/- Of flow: bad, as a contract. No condition. -/
namespace Go.Proofs.Ytebkbihhnoellaa
set_option maxRecDepth 100000
theorem bad_good {cs : Array Value} {off n : Nat} (ty : TypeId) (hI : InsOk cs off n) (hM : mayV cs off n = false) (a b : Int) : Good Try.prog (boolR true) 1 (c9 off n a b) (rawM cs ty) := by
  refine run_vc EB_ok 8000 (bad_vc cs ty off n a b true) ?_ (fun _ _ h => h) (fun _ _ h => h.elim)
  have e : ari BinOp.add IntKind.i64 0 0 = 0 := rfl
  simp only [hI, hM, e, beqT, beqF, beq_self_eq_true, Bool.not_true, Bool.not_false, Bool.true_eq_false, Bool.false_eq_true, false_implies, true_implies, true_and, and_true]
noncomputable section
def badT (m : SMem) : List SV → Option Tree
  | [.s (.c (.f (.slice i o n _))), .s (.c (.f (.int .i64 _))), .s (.c (.f (.int .i64 _)))] => match rawI m i with
    | some cs => some (needs [InsOk cs o.den n.den, mayV cs o.den n.den = false] (.ret (sB (.l true)) m))
    | none => none
  | _ => none
def conH (g : FuncId) (l : List SV) (m : SMem) : Option Tree := match g, l with
  | 9, l => badT m l
  | g, l => conG g l m
end
theorem fn9b : E0.fn 9 = some Try.f9 := by kernel_rfl
theorem body9b : Try.f9.body = some (Try.f9.body.getD .skip) := by kernel_rfl
theorem badT_ok {m : SMem} {l : List SV} {t : Tree} (h : badT m l = some t) : Con E0 9 l m t := by
  unfold badT at h
  split at h
  · rename_i i o n cap a b
    split at h
    · rename_i cs e
      cases h
      exact Con.rawN fn9b body9b e (l' := [i64 (.o a.den), i64 (.o b.den)]) (A := boolR true) ints_ok (fun ty hq => bad_good ty (hq _ (by simp)) (hq _ (by simp)) a.den b.den) (fun s m' R R' v h hv => bool_ok (R := R) h hv)
    · cases h
  · cases h
theorem conH_ok (g : FuncId) (l : List SV) (m : SMem) (t : Tree) (h : conH g l m = some t) : Con E0 g l m t := by
  unfold conH at h
  split at h
  · exact badT_ok h
  · exact conG_ok _ _ _ _ h
end Go.Proofs.Ytebkbihhnoellaa
/- Of flow: FlowGoes: its environment. No condition. -/
namespace Go.Proofs.Ytebkbihhnoellaa
noncomputable section
/-- All but what Next, Longest, Trim and Rules answer of what is no program. -/
def conGo (g : FuncId) (l : List SV) (m : SMem) : Option Tree := match g, l with
  | 9, l => badT m l
  | g, l => conF g l m
end
theorem conGo_ok (g : FuncId) (l : List SV) (m : SMem) (t : Tree) (h : conGo g l m = some t) : Con E0 g l m t := by
  unfold conGo at h
  split at h
  · exact badT_ok h
  · exact conF_ok _ _ _ _ h
end Go.Proofs.Ytebkbihhnoellaa
/- Of flow: FlowGoes: its states. No condition. -/
namespace Go.Proofs.Ytebkbihhnoellaa
set_option linter.unusedVariables false
noncomputable def rfS (n : Nat) : SV := .s (.c (.f (.slice 1 (.l 0) (.o n) .any)))
noncomputable def toS (n : Nat) : SV := .s (.c (.f (.slice 2 (.l 0) (.o n) .any)))
noncomputable def EGo : Env := ⟨Try.prog, fnOf, conGo, haltAt [3009]⟩
noncomputable def hN_d0 : List SIt := sekF Try.f3 9
noncomputable def hN_F (off : Nat) (num : Nat) (cs : Array Value) (ty : TypeId) (a : Int) (k : Int) (i : Int) (n : Nat) (rs : Array Value) : List SFr := [frOf 3 Try.f3 [(0, prS off num), (1, i64 (.o a)), (7, rfS n), (8, nilV), (9, i64 (.l 0)), (10, i64 (.o k)), (11, i64 (.o i))] hN_d0]
noncomputable def hN_M (off : Nat) (num : Nat) (cs : Array Value) (ty : TypeId) (a : Int) (k : Int) (i : Int) (n : Nat) (rs : Array Value) : SMem := mkM 2 [(0, ⟨.raw cs, ty, false⟩), (1, ⟨.pop rs, 46, true⟩)]
noncomputable def hN_n (off : Nat) (num : Nat) (cs : Array Value) (ty : TypeId) (a : Int) (Q : Int → Int → Nat → Array Value → Prop) (fs : List SFr) (m : SMem) : Prop := (match frNth fs 0 with | some f0 => (match rdI f0 10 with | some k => (match rdI f0 11 with | some i => (match rdSI f0 7 with | some p1 => (match rdSN f0 7 with | some n => (match rdA m p1 with | some rs => Q k i n rs ∧ subOk 1 [(1, p1)] (hN_F off num cs ty a k i n rs) (hN_M off num cs ty a k i n rs) fs m | none => False) | none => False) | none => False) | none => False) | none => False) | none => False)
noncomputable def hR_d0 : List SIt := sekF Try.f3 9
noncomputable def hR_F (off : Nat) (num : Nat) (cs : Array Value) (ty : TypeId) (a : Int) (k : Int) (i : Int) (n : Nat) (t : Nat) (rs : Array Value) (ts : Array Value) : List SFr := [frOf 3 Try.f3 [(0, prS off num), (1, i64 (.o a)), (7, rfS n), (8, toS t), (9, i64 (.l 0)), (10, i64 (.o k)), (11, i64 (.o i))] hR_d0]
noncomputable def hR_M (off : Nat) (num : Nat) (cs : Array Value) (ty : TypeId) (a : Int) (k : Int) (i : Int) (n : Nat) (t : Nat) (rs : Array Value) (ts : Array Value) : SMem := mkM 3 [(0, ⟨.raw cs, ty, false⟩), (1, ⟨.pop rs, 46, true⟩), (2, ⟨.op ts, 3, true⟩)]
noncomputable def hR_n (off : Nat) (num : Nat) (cs : Array Value) (ty : TypeId) (a : Int) (Q : Int → Int → Nat → Nat → Array Value → Array Value → Prop) (fs : List SFr) (m : SMem) : Prop := (match frNth fs 0 with | some f0 => (match rdI f0 10 with | some k => (match rdI f0 11 with | some i => (match rdSI f0 7 with | some p1 => (match rdSN f0 7 with | some n => (match rdSI f0 8 with | some p2 => (match rdSN f0 8 with | some t => (match rdA m p1 with | some rs => (match rdA m p2 with | some ts => Q k i n t rs ts ∧ subOk 1 [(1, p1), (2, p2)] (hR_F off num cs ty a k i n t rs ts) (hR_M off num cs ty a k i n t rs ts) fs m | none => False) | none => False) | none => False) | none => False) | none => False) | none => False) | none => False) | none => False) | none => False)
noncomputable def sH_t (off : Nat) (num : Nat) (cs : Array Value) (ty : TypeId) (a : Int) (b : Int) : Tree := run EGo 8000 1 [callFr 3 Try.f3.ntmps [prS off num, i64 (.o a), i64 (.o b)] (Try.f3.body.getD .skip)] (rawM cs ty)
noncomputable def hasTo (fs : List SFr) : Bool := match fs with
  | f :: _ => (match rdSI f 8 with | some _ => true | none => false)
  | [] => false
noncomputable def sH_x (off : Nat) (num : Nat) (cs : Array Value) (ty : TypeId) (a : Int) (b : Int) (QhR : Int → Int → Nat → Nat → Array Value → Array Value → Prop) (QhN : Int → Int → Nat → Array Value → Prop) (fs : List SFr) (m : SMem) : Prop := (match hasTo fs with | true => hR_n off num cs ty a QhR fs m | false => hN_n off num cs ty a QhN fs m)
noncomputable def tN_t (off : Nat) (num : Nat) (cs : Array Value) (ty : TypeId) (a : Int) (k : Int) (i : Int) (n : Nat) (rs : Array Value) : Tree := stepT EGo.go (run EGo 1000) 1 (hN_F off num cs ty a k i n rs) (hN_M off num cs ty a k i n rs)
noncomputable def tN_x (off : Nat) (num : Nat) (cs : Array Value) (ty : TypeId) (a : Int) (k : Int) (i : Int) (n : Nat) (rs : Array Value) (QhN : Int → Int → Nat → Array Value → Prop) (fs : List SFr) (m : SMem) : Prop := hN_n off num cs ty a QhN fs m
noncomputable def tR_t (off : Nat) (num : Nat) (cs : Array Value) (ty : TypeId) (a : Int) (k : Int) (i : Int) (n : Nat) (t : Nat) (rs : Array Value) (ts : Array Value) : Tree := stepT EGo.go (run EGo 1000) 1 (hR_F off num cs ty a k i n t rs ts) (hR_M off num cs ty a k i n t rs ts)
noncomputable def tR_x (off : Nat) (num : Nat) (cs : Array Value) (ty : TypeId) (a : Int) (k : Int) (i : Int) (n : Nat) (t : Nat) (rs : Array Value) (ts : Array Value) (QhR : Int → Int → Nat → Nat → Array Value → Array Value → Prop) (fs : List SFr) (m : SMem) : Prop := hR_n off num cs ty a QhR fs m
theorem hN_d0_ok (r : Nat → Option Nat) : TodoOk r hN_d0 hN_d0 := TodoOk.it (by kernel_rfl)
theorem hR_d0_ok (r : Nat → Option Nat) : TodoOk r hR_d0 hR_d0 := TodoOk.it (by kernel_rfl)
theorem hN_good {A : SV → SMem → Prop} {off : Nat} {num : Nat} {cs : Array Value} {ty : TypeId} {a : Int} {Q : Int → Int → Nat → Array Value → Prop} {fs : List SFr} {m : SMem} (H : ∀ k i n rs, Q k i n rs → Good Try.prog A 1 (hN_F off num cs ty a k i n rs) (hN_M off num cs ty a k i n rs)) (hb : hN_n off num cs ty a Q fs m) : Good Try.prog A 1 fs m := by
  unfold hN_n at hb
  split at hb
  rotate_left
  · exact hb.elim
  split at hb
  rotate_left
  · exact hb.elim
  split at hb
  rotate_left
  · exact hb.elim
  split at hb
  rotate_left
  · exact hb.elim
  split at hb
  rotate_left
  · exact hb.elim
  split at hb
  rotate_left
  · exact hb.elim
  exact Good.of_sub hb.2 (H _ _ _ _ hb.1)
theorem hR_good {A : SV → SMem → Prop} {off : Nat} {num : Nat} {cs : Array Value} {ty : TypeId} {a : Int} {Q : Int → Int → Nat → Nat → Array Value → Array Value → Prop} {fs : List SFr} {m : SMem} (H : ∀ k i n t rs ts, Q k i n t rs ts → Good Try.prog A 1 (hR_F off num cs ty a k i n t rs ts) (hR_M off num cs ty a k i n t rs ts)) (hb : hR_n off num cs ty a Q fs m) : Good Try.prog A 1 fs m := by
  unfold hR_n at hb
  split at hb
  rotate_left
  · exact hb.elim
  split at hb
  rotate_left
  · exact hb.elim
  split at hb
  rotate_left
  · exact hb.elim
  split at hb
  rotate_left
  · exact hb.elim
  split at hb
  rotate_left
  · exact hb.elim
  split at hb
  rotate_left
  · exact hb.elim
  split at hb
  rotate_left
  · exact hb.elim
  split at hb
  rotate_left
  · exact hb.elim
  split at hb
  rotate_left
  · exact hb.elim
  exact Good.of_sub hb.2 (H _ _ _ _ _ _ hb.1)
theorem sH_go {A : SV → SMem → Prop} {off : Nat} {num : Nat} {cs : Array Value} {ty : TypeId} {a : Int} {b : Int} {QhR : Int → Int → Nat → Nat → Array Value → Array Value → Prop} {QhN : Int → Int → Nat → Array Value → Prop} {fs : List SFr} {m : SMem} (hhR : ∀ k' i' n' t' rs' ts', QhR k' i' n' t' rs' ts' → Good Try.prog A 1 (hR_F off num cs ty a k' i' n' t' rs' ts') (hR_M off num cs ty a k' i' n' t' rs' ts')) (hhN : ∀ k' i' n' rs', QhN k' i' n' rs' → Good Try.prog A 1 (hN_F off num cs ty a k' i' n' rs') (hN_M off num cs ty a k' i' n' rs')) (hb : sH_x off num cs ty a b QhR QhN fs m) : Good Try.prog A 1 fs m := by
  unfold sH_x at hb
  split at hb
  · exact hR_good hhR hb
  exact hN_good hhN hb
theorem tN_go {A : SV → SMem → Prop} {off : Nat} {num : Nat} {cs : Array Value} {ty : TypeId} {a : Int} {k : Int} {i : Int} {n : Nat} {rs : Array Value} {QhN : Int → Int → Nat → Array Value → Prop} {fs : List SFr} {m : SMem} (hhN : ∀ k' i' n' rs', QhN k' i' n' rs' → Good Try.prog A 1 (hN_F off num cs ty a k' i' n' rs') (hN_M off num cs ty a k' i' n' rs')) (hb : tN_x off num cs ty a k i n rs QhN fs m) : Good Try.prog A 1 fs m := by
  unfold tN_x at hb
  exact hN_good hhN hb
theorem tR_go {A : SV → SMem → Prop} {off : Nat} {num : Nat} {cs : Array Value} {ty : TypeId} {a : Int} {k : Int} {i : Int} {n : Nat} {t : Nat} {rs : Array Value} {ts : Array Value} {QhR : Int → Int → Nat → Nat → Array Value → Array Value → Prop} {fs : List SFr} {m : SMem} (hhR : ∀ k' i' n' t' rs' ts', QhR k' i' n' t' rs' ts' → Good Try.prog A 1 (hR_F off num cs ty a k' i' n' t' rs' ts') (hR_M off num cs ty a k' i' n' t' rs' ts')) (hb : tR_x off num cs ty a k i n t rs ts QhR fs m) : Good Try.prog A 1 fs m := by
  unfold tR_x at hb
  exact hR_good hhR hb
end Go.Proofs.Ytebkbihhnoellaa
