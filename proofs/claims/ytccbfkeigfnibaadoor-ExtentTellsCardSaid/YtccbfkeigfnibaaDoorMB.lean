/- Of extent: Same: extents that are alike. No condition. -/
import Derived.Test.YtccbfkeigfnibaaDoorMA
import Derived.Test.YtccbfkeigfnibaaDoorRows
import Derived.ProofKit
import Derived.JoinedOf
set_option linter.unusedVariables false
set_option linter.unusedSimpArgs false
namespace Go.Proofs.YtccbfkeigfnibaaDoor
set_option maxRecDepth 100000
/-- Two rows of pairs are alike. -/
def EqR (cs : Array Value) (off : Nat) (ds : Array Value) (off' n : Nat) : Prop := n ≤ 81 ∧ ∀ i, i < n →
  IsInt .i64 cs (off + i * 2) ∧ IsInt .i64 cs (off + i * 2 + 1) ∧ IsInt .i64 ds (off' + i * 2) ∧ IsInt .i64 ds (off' + i * 2 + 1) ∧ intAt cs (off + i * 2) = intAt ds (off' + i * 2) ∧ intAt cs (off + i * 2 + 1) = intAt ds (off' + i * 2 + 1)
theorem smT_ok : TodoOk (ren 2 [(2, 2), (3, 3)]) smT smT := TodoOk.same (by kernel_rfl)
theorem smH_ok : TodoOk (ren 2 [(2, 2), (3, 3)]) smH smH := TodoOk.same (by kernel_rfl)
section
variable {v : Bool} {off n : Nat} {L : Int} {off' n' : Nat} {L' : Int} {cs ds : Array Value} {ty tz : TypeId}
theorem sm_start_v (Q : Int → Prop) : (smR v off n L off' n' L' cs ds ty tz).vc (boolR true) (smN false v off n L off' n' L' cs ds ty tz Q) = (smR true off n L off' n' L' cs ds ty tz).vc (boolR true) (smN false true off n L off' n' L' cs ds ty tz Q) := by
  cases v with
  | true => rfl
  | false => exact (sm_start_p off n L off' n' L' cs ds ty tz Q).trans (sm_start_r off n L off' n' L' cs ds ty tz Q).symm
theorem sm_step_v (i : Int) (Q : Int → Prop) : (smS v off n L off' n' L' cs ds ty tz i).vc (boolR true) (smN true v off n L off' n' L' cs ds ty tz Q) = (smS true off n L off' n' L' cs ds ty tz i).vc (boolR true) (smN true true off n L off' n' L' cs ds ty tz Q) := by
  cases v with
  | true => rfl
  | false => exact (sm_step_p off n L off' n' L' cs ds ty tz i Q).trans (sm_step_r off n L off' n' L' cs ds ty tz i Q).symm
theorem smN_good {h : Bool} {A : SV → SMem → Prop} {Q : Int → Prop} {fs : List SFr} {m : SMem} (H : ∀ i, Q i → Good Tryd.prog A 2 (headF (smF i)) (smM v off n L off' n' L' cs ds ty tz)) (hb : smN h v off n L off' n' L' cs ds ty tz Q fs m) : Good Tryd.prog A 2 fs m := by
  unfold smN at hb
  split at hb
  · split at hb
    · exact hF_good hb.2 (H _ hb.1)
    · exact hb.elim
  · exact hb.elim
end
theorem next81 {i n : Nat} (h : i < n) (hn : n ≤ 81) : ari .add .i64 (i : Int) 1 = ((i + 1 : Nat) : Int) := by
  rw [ari_add, i64w (by omega)]
  omega
section
variable (v : Bool) {off n : Nat} (L : Int) {off' : Nat} {cs ds : Array Value} (ty tz : TypeId) (h : EqR cs off ds off' n)
include h
theorem sm_round : ∀ k i : Nat, i + k = n → Good Tryd.prog (boolR true) 2 (headF (smF i)) (smM v off n L off' n L cs ds ty tz) := by
  intro k
  induction k with
  | zero =>
    intro i hi
    obtain rfl : i = n := by omega
    refine past_vc EX_ok 1000 ((sm_step_v i (fun _ => False)).trans (sm_step_r off i L off' i L cs ds ty tz i _)) ?_ (fun _ _ h => h) (fun fs m hb => smN_good (fun _ h => h.elim) hb)
    refine ⟨fun hd => ?_, fun _ => rfl⟩
    have := of_decide_eq_true hd
    omega
  | succ k ih =>
    intro i hi
    have hi' : i < n := by omega
    obtain ⟨h1, h2, h3, h4, h5, h6⟩ := h.2 i hi'
    refine past_vc EX_ok 1000 ((sm_step_v i (fun i' => i' = ((i + 1 : Nat) : Int))).trans (sm_step_r off n L off' n L cs ds ty tz i _)) ?_ (fun _ _ h => h) (fun fs m hb => smN_good (fun i' e => by rw [e]; exact ih (i + 1) (by omega)) hb)
    have hN := next81 hi' h.1
    have hij : ((0 : Int) ≤ (i : Int) ∧ (i : Int) < (n : Int)) ∧ True := ⟨⟨by omega, by omega⟩, trivial⟩
    refine ⟨fun _ => ?_, fun hd => ?_⟩
    · simp only [Int.toNat_natCast, hN, h5, h6]
      have hTH := smH_ok
      refine ⟨hij, ⟨h1, trivial⟩, hij, ⟨h3, trivial⟩, fun _ => ⟨hij, ⟨h2, trivial⟩, hij, ⟨h4, trivial⟩, fun hd => ?_, fun _ => ?_⟩, fun hd => ?_⟩
      · simp at hd
      · repeat' first | exact hTH | exact trivial | exact rfl | apply And.intro
      · simp at hd
    · have := of_decide_eq_false hd
      omega
theorem sm_good : Good Tryd.prog (boolR true) 2 (smC off n L off' n L) (smM0 v cs ds ty tz) := by
  refine run_vc EX_ok 1000 ((sm_start_v (fun i => i = ((0 : Nat) : Int))).trans (sm_start_r off n L off' n L cs ds ty tz _)) ?_ (fun _ _ h => h)
    (fun fs m hb => smN_good (fun i e => by rw [e]; exact sm_round v L ty tz h n 0 (by omega)) hb)
  have hT := smT_ok
  refine ⟨fun _ => ⟨fun hd => ?_, fun _ => ?_⟩, fun hd => ?_⟩
  · simp at hd
  · repeat' first | exact hT | exact trivial | exact rfl | apply And.intro
  · simp at hd
end
theorem smM0_get {v : Bool} {cs ds : Array Value} {ty tz : TypeId} {i : Nat} {b : SBlk} (h : getB (smM0 v cs ds ty tz).bl i = some b) : (i = 0 ∧ b = ⟨.pop cs, ty, false⟩) ∨ (i = 1 ∧ b = ⟨rwA v ds, tz, false⟩) := by
  have h : (((Tr.nil : Tr SBlk).set 0 (some ⟨.pop cs, ty, false⟩)).set 1 (some ⟨rwA v ds, tz, false⟩)).get i = some b := h
  rw [Tr.get_set] at h
  split at h
  · rename_i e; cases h; exact .inr ⟨e, rfl⟩
  · rw [Tr.get_set] at h
    split at h
    · rename_i e; cases h; exact .inl ⟨e, rfl⟩
    · rw [Tr.get_nil] at h; cases h
theorem sm_con {m : SMem} {i j : Nat} {v : Bool} {o n o' n' : SN} {c c' : SK} {x y : SI} {cs ds : Array Value} (hr : rowV m i = some (false, cs)) (hr' : rowV m j = some (v, ds)) :
    Con E0 15 [.s (.agg (.ls [.f (.slice i o n c), .f (.int .i64 x)])), .s (.agg (.ls [.f (.slice j o' n' c'), .f (.int .i64 y)]))] m (needs [n'.den = n.den, y.den = x.den, EqR cs o.den ds o'.den n.den] (.ret (sB (.l true)) m)) := by
  obtain ⟨ty, wr, hb⟩ := rowV_of hr
  obtain ⟨tz, wr', hb'⟩ := rowV_of hr'
  refine Con.ro E0_ok (l' := [extS o.den n.den x.den, ex1S o'.den n'.den y.den]) (ms := smM0 v cs ds ty tz) (A := boolR true) (by kernel_rfl : E0.fn 15 = some Tryd.f15) (by kernel_rfl : Tryd.f15.body = some (Tryd.f15.body.getD .skip)) rfl (fun k => if k = 0 then i else j) ?_ ?_ (fun hq => ?_) ?_
  · intro k b hk
    rcases smM0_get hk with ⟨rfl, rfl⟩ | ⟨rfl, rfl⟩
    · exact ⟨(show (0 : Nat) < 2 by decide), rfl, _, hb, rfl, fun R cs' h => h⟩
    · refine ⟨(show (1 : Nat) < 2 by decide), rfl, _, hb', rfl, fun R cs' h => ?_⟩
      cases v <;> exact h
  · intro R vs ha
    match vs, ha with
    | [u, w], ha =>
      obtain ⟨⟨ds, e, hd⟩, ⟨es, e', hd'⟩, _⟩ := ha
      refine ⟨⟨ds, e, ?_⟩, ⟨es, e', ?_⟩, trivial⟩
      · have hd : All2 (SC.ok R) [.f (.slice i o n c), .f (.int .i64 x)] ds.toList := hd
        show All2 (SC.ok _) [.f (sl0 o.den n.den), .f (.int .i64 (.o x.den))] ds.toList
        generalize ds.toList = L at hd ⊢
        match L, hd with
        | [a, b], hd =>
          obtain ⟨⟨gl, cp, e1, e2, e3, e4⟩, hb2, _⟩ := hd
          exact ⟨⟨gl, cp, by unfold pull; exact e1, e2, trivial, e4⟩, hb2, trivial⟩
      · have hd' : All2 (SC.ok R) [.f (.slice j o' n' c'), .f (.int .i64 y)] es.toList := hd'
        show All2 (SC.ok _) [.f (sl1 o'.den n'.den), .f (.int .i64 (.o y.den))] es.toList
        generalize es.toList = L at hd' ⊢
        match L, hd' with
        | [a, b], hd' =>
          obtain ⟨⟨gl, cp, e1, e2, e3, e4⟩, hb2, _⟩ := hd'
          exact ⟨⟨gl, cp, by unfold pull; exact e1, e2, trivial, e4⟩, hb2, trivial⟩
  · have e1 : n'.den = n.den := hq _ (by simp)
    have e2 : y.den = x.den := hq _ (by simp)
    have e3 : EqR cs o.den ds o'.den n.den := hq _ (by simp)
    rw [e1, e2]
    exact sm_good v x.den ty tz e3
  · intro s m' R R' u h hv
    unfold boolR at h
    split at h
    · have hv : u = .bool _ := hv
      rw [hv, h]; rfl
    · exact h.elim
theorem pl_con {m : SMem} {i : Nat} {o n : SN} {cap : SK} {x y : SI} {cs : Array Value} (hr : rowV m i = some (false, cs)) :
    Con E0 17 [.s (.agg (.ls [.f (.slice i o n cap), .f (.int .i64 x)])), .s (.c (.f (.int .i64 y)))] m (needs [PrOk cs o.den n.den, tkOk cs o.den n.den = true, -9223372036854775808 ≤ y.den ∧ y.den ≤ 9223372036854775807]
      (.ret (.tup [.c (.f (.int .i64 (.o (plV cs o.den n.den y.den)))), .c (.f (.bool (.o (plB cs o.den n.den y.den))))]) m)) :=
  Con.ext (r' := [i64 (.o y.den)]) (by kernel_rfl : E0.fn 17 = some Tryd.f17) (by kernel_rfl : Tryd.f17.body = some (Tryd.f17.body.getD .skip)) hr (fun _ _ vs h => match vs, h with | [_], h => ⟨h.1, trivial⟩) (A := pairR (plV cs o.den n.den y.den) (plB cs o.den n.den y.den))
    (fun ty hq => by
      have hk : tkOk cs o.den n.den = true := hq _ (by simp)
      exact pl_good ty x.den y.den (hq _ (by simp)) (tkOk_small hk) (fun i hi => by have := takeOk_may (tkOk_one hk hi); omega) (hq _ (by simp))) (fun s m' R R' u h hv => by
    unfold pairR at h
    split at h
    · obtain ⟨e1, e2⟩ := h
      obtain ⟨vs, rfl, hl⟩ := hv
      refine ⟨vs, rfl, ?_⟩
      generalize vs.toList = T at hl ⊢
      match T, hl with
      | [a, b], hl =>
        obtain ⟨ha, hb, _⟩ := hl
        have ha : a = .int .i64 _ := ha
        have hb : b = .bool _ := hb
        rw [e1] at ha
        rw [e2] at hb
        exact ⟨ha, hb, trivial⟩
    · exact h.elim)
theorem ft_con {m : SMem} {i : Nat} {o n : SN} {cap : SK} {x y z : SI} {cs : Array Value} (hr : rowV m i = some (false, cs)) :
    Con E0 12 [.s (.agg (.ls [.f (.slice i o n cap), .f (.int .i64 x)])), .s (.c (.f (.int .i64 y))), .s (.c (.f (.int .i64 z)))] m (needs [PrOk cs o.den n.den, tkOk cs o.den n.den = true, 0 ≤ x.den, x.den ≤ 32 * sumN cs o.den n.den]
      (.ret (.tup [.c (.f (.int .i64 (.o (fitV x.den y.den z.den (32 * sumN cs o.den n.den))))), .c (.f (.bool (.o (fitOk x.den y.den z.den (32 * sumN cs o.den n.den)))))]) m)) :=
  Con.ext (r' := [i64 (.o y.den), i64 (.o z.den)]) (by kernel_rfl : E0.fn 12 = some Tryd.f12) (by kernel_rfl : Tryd.f12.body = some (Tryd.f12.body.getD .skip)) hr (fun _ _ vs h => match vs, h with | [_, _], h => ⟨h.1, h.2.1, trivial⟩)
    (A := pairR (fitV x.den y.den z.den (32 * sumN cs o.den n.den)) (fitOk x.den y.den z.den (32 * sumN cs o.den n.den)))
    (fun ty hq => ft_good ty x.den y.den z.den (hq _ (by simp)) (hq _ (by simp)) (hq _ (by simp)) (hq _ (by simp))) (fun s m' R R' u h hv => by
    unfold pairR at h
    split at h
    · obtain ⟨e1, e2⟩ := h
      obtain ⟨vs, rfl, hl⟩ := hv
      refine ⟨vs, rfl, ?_⟩
      generalize vs.toList = T at hl ⊢
      match T, hl with
      | [a, b], hl =>
        obtain ⟨ha, hb, _⟩ := hl
        have ha : a = .int .i64 _ := ha
        have hb : b = .bool _ := hb
        rw [e1] at ha
        rw [e2] at hb
        exact ⟨ha, hb, trivial⟩
    · exact h.elim)
theorem fr_con {m : SMem} {i : Nat} {o n : SN} {cap : SK} {x y z : SI} {cs : Array Value} (hr : rowV m i = some (true, cs)) :
    Con E0 13 [.s (.agg (.ls [.f (.slice i o n cap), .f (.int .i64 x)])), .s (.c (.f (.int .i64 y))), .s (.c (.f (.int .i64 z)))] m (needs [PrOk cs o.den n.den, tkOk cs o.den n.den = true, 0 ≤ x.den, x.den ≤ 32 * sumN cs o.den n.den, n.den ≠ 0]
      (.ret (i64 (.o (fitR x.den y.den z.den (32 * sumN cs o.den n.den)))) m)) :=
  Con.ext (r' := [i64 (.o y.den), i64 (.o z.den)]) (by kernel_rfl : E0.fn 13 = some Tryd.f13) (by kernel_rfl : Tryd.f13.body = some (Tryd.f13.body.getD .skip)) hr (fun _ _ vs h => match vs, h with | [_, _], h => ⟨h.1, h.2.1, trivial⟩)
    (A := intR (fitR x.den y.den z.den (32 * sumN cs o.den n.den)))
    (fun ty hq => fr_good ty x.den y.den z.den (hq _ (by simp)) (hq _ (by simp)) (hq _ (by simp)) (hq _ (by simp)) (hq _ (by simp))) (fun _ _ _ _ _ => intR_ok)
end Go.Proofs.YtccbfkeigfnibaaDoor
/- Of extent: Of: its loop's states. No condition. -/
namespace Go.Proofs.YtccbfkeigfnibaaDoor
noncomputable section
def ofC (off n : Nat) (L : Int) : List SFr := [callFr 6 Tryd.f6.ntmps [extS off n L] (Tryd.f6.body.getD .skip)]
def ofR (off n : Nat) (L : Int) (cs : Array Value) (ty : TypeId) : Tree := run EX 1000 1 (ofC off n L) (rwM true cs ty)
def prV (w : Bool) (l : Nat) : SF := cond w (.slice 4 (.l 0) (.o l) (.full 2)) (.lit (.slice none 0 0))
def ofF (i : Int) : List SFr := reTm [tmOf Tryd.f6.ntmps [(1, ptr 1 (.l 0)), (2, ptr 2 (.l 0)), (3, ptr 3 (.l 0)), (4, i64 (.o i))]] ((ofR 0 0 0 #[] 0).fsAt 3)
def ofM (w : Bool) (off n : Nat) (L : Int) (cs : Array Value) (ty : TypeId) (l : Nat) (bs : Array Value) : SMem :=
  ⟨5, setW w 4 ⟨.pop bs, 42, true⟩ (((((Tr.nil : Tr SBlk).set 0 (some ⟨.raw cs, ty, false⟩)).set 1 (some ⟨.ls [.f (sl0 off n), .f (.int .i64 (.o L))], 24, true⟩)).set 2 (some ⟨.ls [.f (.lit (.slice none 0 0)), .f (.int .i64 (.l 0))], 28, true⟩)).set 3 (some ⟨.ls [.f (prV w l), .f (.int .i64 (.o L))], 28, true⟩)), []⟩
def ofS (w : Bool) (off n : Nat) (L : Int) (cs : Array Value) (ty : TypeId) (l : Nat) (bs : Array Value) (i : Int) : Tree := stepT EX.go (run EX 1000) 1 (headF (ofF i)) (ofM w off n L cs ty l bs)
def rdO (m : SMem) (id : Nat) : Option (Option (Nat × Nat × Array Value)) := match getB m.bl id with
  | some ⟨.ls [.f (.lit (.slice none 0 0)), _], _, _⟩ => some none
  | some ⟨.ls [.f (.slice sid _ k _), _], _, _⟩ => match rdA m sid with
    | some cs => some (some (sid, k.den, cs))
    | none => none
  | _ => none
def ofN (h : Bool) (off n : Nat) (L : Int) (cs : Array Value) (ty : TypeId) (Q : Bool → Int → Nat → Array Value → Prop) (fs : List SFr) (m : SMem) : Prop := match fs with
  | f :: _ => match rdI f 4, rdP f 1, rdP f 2, rdP f 3 with
    | some i, some p, some q, some r => match rdO m r with
      | some none => Q false i 0 #[] ∧ subOk 1 [(1, p), (2, q), (3, r)] (hF h (ofF i)) (ofM false off n L cs ty 0 #[]) fs m
      | some (some (sid, l, bs)) => Q true i l bs ∧ subOk 1 [(1, p), (2, q), (3, r), (4, sid)] (hF h (ofF i)) (ofM true off n L cs ty l bs) fs m
      | none => False
    | _, _, _, _ => False
  | [] => False
def ofRet (l : Nat) (L : Int) (bs : Array Value) (s : SV) (m : SMem) : Prop := match s with
  | .s (.agg (.ls [.f (.slice sid _ _ _), _])) => retOk 1 [(1, sid)] (.s (.agg (.ls [.f (.slice 1 (.l 0) (.o l) .any), .f (.int .i64 (.o L))]))) ⟨2, Tr.nil.set 1 (some ⟨.pop bs, 42, true⟩), []⟩ s m
  | _ => False
def ofT : List SIt := headTd (ofF 0)
def ofH : List SIt := headTd (headF (ofF 0))
def ndsC (s a : Int) : List SFr := [callFr 7 Tryd.f7.ntmps [i64 (.o s), i64 (.o a)] (Tryd.f7.body.getD .skip)]
end
end Go.Proofs.YtccbfkeigfnibaaDoor
/- Of extent: Of: its loop's rounds; Needs; as propositions. No condition. -/
namespace Go.Proofs.YtccbfkeigfnibaaDoor
set_option maxRecDepth 100000
theorem of_start (off n : Nat) (L : Int) (cs : Array Value) (ty : TypeId) (rl : Nat) (rb : Array Value) (Q : Bool → Int → Nat → Array Value → Prop) : (ofR off n L cs ty).vc (ofRet rl L rb) (ofN false off n L cs ty Q) =
    (Q false (0 : Int) (0 : Nat) #[] ∧ CallKind.normal = CallKind.normal ∧ TodoOk (ren 1 [(1, 1), (2, 2), (3, 3)]) ofT ofT ∧ (0 : Int) = (0 : Int) ∧ ty = ty ∧ cs = cs ∧ (24 : TypeId) = (24 : Nat) ∧ off = off ∧ n = n ∧ L = L ∧ (28 : TypeId) = (28 : Nat) ∧ Value.slice none (0 : Nat) (0 : Nat) = Value.slice none (0 : Nat) (0 : Nat) ∧ L = L ∧ (28 : TypeId) = (28 : Nat) ∧ Value.slice none (0 : Nat) (0 : Nat) = Value.slice none (0 : Nat) (0 : Nat) ∧ True) := by kernel_rfl
theorem of_s0 (off n : Nat) (L : Int) (cs : Array Value) (ty : TypeId) (i : Int) (rl : Nat) (rb : Array Value) (Q : Bool → Int → Nat → Array Value → Prop) : (ofS false off n L cs ty 0 #[] i).vc (ofRet rl L rb) (ofN true off n L cs ty Q) =
    ((decide (i < (↑n : Int)) = true → (((0 : Int) ≤ i ∧ i < (↑n : Int)) ∧ True) ∧ (IsInt IntKind.i64 cs (off + Int.toNat i * 2) ∧ True) ∧ (((0 : Int) ≤ i ∧ i < (↑n : Int)) ∧ True) ∧ (IsInt IntKind.i64 cs (off + Int.toNat i * 2 + 1) ∧ True) ∧ Q true (ari BinOp.add IntKind.i64 i (1 : Int)) (1 : Nat) #[Value.int IntKind.i64 (intAt cs (off + Int.toNat i * 2)), Value.int IntKind.i64 (intAt cs (off + Int.toNat i * 2 + 1))] ∧ CallKind.normal = CallKind.normal ∧ TodoOk (ren 1 [(1, 1), (2, 2), (3, 3), (4, 6)]) ofH ofH ∧ ari BinOp.add IntKind.i64 i (1 : Int) = ari BinOp.add IntKind.i64 i (1 : Int) ∧ ty = ty ∧ cs = cs ∧ (24 : TypeId) = (24 : TypeId) ∧ off = off ∧ n = n ∧ L = L ∧ (28 : TypeId) = (28 : TypeId) ∧ (1 : Nat) = (1 : Nat) ∧ L = L ∧ (28 : TypeId) = (28 : TypeId) ∧ Value.slice none (0 : Nat) (0 : Nat) = Value.slice none (0 : Nat) (0 : Nat) ∧ (42 : TypeId) = (42 : Nat) ∧ #[Value.int IntKind.i64 (intAt cs (off + Int.toNat i * 2)), Value.int IntKind.i64 (intAt cs (off + Int.toNat i * 2 + 1))] = #[Value.int IntKind.i64 (intAt cs (off + Int.toNat i * 2)), Value.int IntKind.i64 (intAt cs (off + Int.toNat i * 2 + 1))] ∧ True) ∧ (decide (i < (↑n : Int)) = false → False)) := by kernel_rfl
theorem of_s1 (off n : Nat) (L : Int) (cs : Array Value) (ty : TypeId) (l : Nat) (bs : Array Value) (i : Int) (rl : Nat) (rb : Array Value) (Q : Bool → Int → Nat → Array Value → Prop) : (ofS true off n L cs ty l bs i).vc (ofRet rl L rb) (ofN true off n L cs ty Q) =
    ((decide (i < (↑n : Int)) = true → (((0 : Int) ≤ i ∧ i < (↑n : Int)) ∧ True) ∧ (IsInt IntKind.i64 cs (off + Int.toNat i * 2) ∧ True) ∧ (((0 : Int) ≤ i ∧ i < (↑n : Int)) ∧ True) ∧ (IsInt IntKind.i64 cs (off + Int.toNat i * 2 + 1) ∧ True) ∧ (((l + 1) * 16 ≤ (140737488355328 : Nat) ∧ l + 1 ≤ (140737488355328 : Nat)) ∧ l * 2 = Array.size bs ∧ True) ∧ Q true (ari BinOp.add IntKind.i64 i (1 : Int)) (l + 1) (bs ++ #[Value.int IntKind.i64 (intAt cs (off + Int.toNat i * 2)), Value.int IntKind.i64 (intAt cs (off + Int.toNat i * 2 + 1))]) ∧ CallKind.normal = CallKind.normal ∧ TodoOk (ren 1 [(1, 1), (2, 2), (3, 3), (4, 6)]) ofH ofH ∧ ari BinOp.add IntKind.i64 i (1 : Int) = ari BinOp.add IntKind.i64 i (1 : Int) ∧ ty = ty ∧ cs = cs ∧ (24 : TypeId) = (24 : TypeId) ∧ off = off ∧ n = n ∧ L = L ∧ (28 : TypeId) = (28 : TypeId) ∧ l + 1 = l + 1 ∧ L = L ∧ (28 : TypeId) = (28 : TypeId) ∧ Value.slice none (0 : Nat) (0 : Nat) = Value.slice none (0 : Nat) (0 : Nat) ∧ (42 : TypeId) = (42 : Nat) ∧ bs ++ #[Value.int IntKind.i64 (intAt cs (off + Int.toNat i * 2)), Value.int IntKind.i64 (intAt cs (off + Int.toNat i * 2 + 1))] = bs ++ #[Value.int IntKind.i64 (intAt cs (off + Int.toNat i * 2)), Value.int IntKind.i64 (intAt cs (off + Int.toNat i * 2 + 1))] ∧ True) ∧ (decide (i < (↑n : Int)) = false → rl = l ∧ L = L ∧ (42 : TypeId) = (42 : TypeId) ∧ rb = bs ∧ True)) := by kernel_rfl
theorem nds_run (s a : Int) (x : Int) (b : Bool) : (run EX 1000 0 (ndsC s a) ⟨0, .nil, []⟩).vc (pairR x b) (fun _ _ => False) =
    (((decide (s ≥ (1 : Int)) == true) = true → ((decide (s ≤ (128 : Int)) == true) = true → (((a == (1 : Int)) == false) = true → (((a == (2 : Int)) == false) = true → (((a == (4 : Int)) == false) = true → ((!a == (8 : Int)) = true → (0 : Int) = x ∧ false = b) ∧ ((!a == (8 : Int)) = false → ari BinOp.quo IntKind.i64 (ari BinOp.sub IntKind.i64 (ari BinOp.add IntKind.i64 s (32 : Int)) (1 : Int)) (32 : Int) = x ∧ true = b)) ∧ (((a == (4 : Int)) == false) = false → ari BinOp.quo IntKind.i64 (ari BinOp.sub IntKind.i64 (ari BinOp.add IntKind.i64 s (32 : Int)) (1 : Int)) (32 : Int) = x ∧ true = b)) ∧ (((a == (2 : Int)) == false) = false → ari BinOp.quo IntKind.i64 (ari BinOp.sub IntKind.i64 (ari BinOp.add IntKind.i64 s (32 : Int)) (1 : Int)) (32 : Int) = x ∧ true = b)) ∧ (((a == (1 : Int)) == false) = false → ari BinOp.quo IntKind.i64 (ari BinOp.sub IntKind.i64 (ari BinOp.add IntKind.i64 s (32 : Int)) (1 : Int)) (32 : Int) = x ∧ true = b)) ∧ ((decide (s ≤ (128 : Int)) == true) = false → (0 : Int) = x ∧ false = b)) ∧ ((decide (s ≥ (1 : Int)) == true) = false → (0 : Int) = x ∧ false = b)) := by kernel_rfl
end Go.Proofs.YtccbfkeigfnibaaDoor
/- Of extent: Of, and Needs: what they answer. No condition. -/
namespace Go.Proofs.YtccbfkeigfnibaaDoor
set_option maxRecDepth 100000
/-- The pairs, one behind the other. -/
def prsL (cs : Array Value) (off : Nat) : Nat → List Value
  | 0 => []
  | i + 1 => prsL cs off i ++ [.int .i64 (at0 cs off i), .int .i64 (nn0 cs off i)]
theorem prsL_len (cs : Array Value) (off : Nat) : ∀ n, (prsL cs off n).length = n * 2
  | 0 => rfl
  | n + 1 => by unfold prsL; rw [List.length_append, prsL_len cs off n]; simp; omega
theorem prsL_at (cs : Array Value) (off : Nat) : ∀ {n i : Nat}, i < n → (prsL cs off n)[i * 2]? = some (.int .i64 (at0 cs off i)) ∧ (prsL cs off n)[i * 2 + 1]? = some (.int .i64 (nn0 cs off i))
  | 0, i, h => by omega
  | n + 1, i, h => by
    have hl := prsL_len cs off n
    unfold prsL
    by_cases e : i = n
    · subst e
      rw [List.getElem?_append_right (by omega), List.getElem?_append_right (by omega), hl, show i * 2 - i * 2 = 0 by omega, show i * 2 + 1 - i * 2 = 1 by omega]
      exact ⟨rfl, rfl⟩
    · rw [List.getElem?_append_left (by omega), List.getElem?_append_left (by omega)]
      exact prsL_at cs off (by omega)
def prsA (cs : Array Value) (off n : Nat) : Array Value := (prsL cs off n).toArray
theorem is_of {cs : Array Value} {p : Nat} {k : IntKind} {n : Int} (h : cs[p]? = some (.int k n)) : intAt cs p = n ∧ IsInt k cs p := by
  have e : intAt cs p = n := by unfold intAt; rw [h]
  refine ⟨e, ?_⟩
  unfold IsInt
  rw [e]
  exact h
section
variable {cs : Array Value} {off n : Nat}
theorem prsA_at {i : Nat} (h : i < n) : at0 (prsA cs off n) 0 i = at0 cs off i ∧ nn0 (prsA cs off n) 0 i = nn0 cs off i ∧ IsInt .i64 (prsA cs off n) (0 + i * 2) ∧ IsInt .i64 (prsA cs off n) (0 + i * 2 + 1) := by
  obtain ⟨h1, h2⟩ := prsL_at cs off h
  have k1 : (prsA cs off n)[0 + i * 2]? = some (.int .i64 (at0 cs off i)) := by unfold prsA; rw [Nat.zero_add, List.getElem?_toArray]; exact h1
  have k2 : (prsA cs off n)[0 + i * 2 + 1]? = some (.int .i64 (nn0 cs off i)) := by unfold prsA; rw [Nat.zero_add, List.getElem?_toArray]; exact h2
  exact ⟨(is_of k1).1, (is_of k2).1, (is_of k1).2, (is_of k2).2⟩
theorem prsA_ok (hn : n ≤ 80) : PrOk (prsA cs off n) 0 n := ⟨by unfold prsA; rw [List.size_toArray, prsL_len]; omega, hn, fun i hi => (prsA_at hi).2.2.1, fun i hi => (prsA_at hi).2.2.2⟩
theorem prsA_sum : ∀ k, k ≤ n → sumN (prsA cs off n) 0 k = sumN cs off k
  | 0, _ => rfl
  | k + 1, h => by
    show sumN _ _ k + nn0 _ _ k = sumN cs off k + nn0 cs off k
    rw [prsA_sum k (by omega), (prsA_at (n := n) (show k < n by omega)).2.1]
theorem prsA_tkW : ∀ k, k ≤ n → tkW (prsA cs off n) 0 k = tkW cs off k
  | 0, _ => rfl
  | k + 1, h => by
    show takeW _ _ _ = takeW _ _ _
    rw [prsA_tkW k (by omega), (prsA_at (n := n) (show k < n by omega)).1, (prsA_at (n := n) (show k < n by omega)).2.1]
theorem prsA_tkOk : ∀ k, k ≤ n → tkOk (prsA cs off n) 0 k = tkOk cs off k
  | 0, _ => rfl
  | k + 1, h => by
    show (tkOk _ _ k && takeOk _ _ _) = (tkOk _ _ k && takeOk _ _ _)
    rw [prsA_tkOk k (by omega), prsA_tkW k (by omega), (prsA_at (n := n) (show k < n by omega)).1, (prsA_at (n := n) (show k < n by omega)).2.1]
theorem prsA_may (L : Int) : mayE (prsA cs off n) 0 n L = mayE cs off n L := by
  unfold mayE
  rw [prsA_tkOk n (Nat.le_refl _), prsA_sum n (Nat.le_refl _)]
theorem prsA_bytes : ∀ k, k ≤ n → bytesL (prsA cs off n) 0 k = bytesL cs off k
  | 0, _ => rfl
  | k + 1, h => by
    show bytesL _ _ k ++ _ = bytesL _ _ k ++ _
    rw [prsA_bytes k (by omega), (prsA_at (n := n) (show k < n by omega)).1, (prsA_at (n := n) (show k < n by omega)).2.1]
theorem prsA_plB (t : Int) : plB (prsA cs off n) 0 n t = plB cs off n t := by
  unfold plB
  rw [prsA_sum n (Nat.le_refl _)]
theorem prsA_plV (t : Int) : plV (prsA cs off n) 0 n t = plV cs off n t := by
  unfold plV
  rw [prsA_plB, prsA_bytes n (Nat.le_refl _)]
theorem prsA_eq (h : PrOk cs off n) : EqR (prsA cs off n) 0 cs off n := ⟨by have := h.le; omega, fun i hi => by
  obtain ⟨k1, k2, k3, k4⟩ := prsA_at (cs := cs) (off := off) hi
  exact ⟨k3, k4, h.a i hi, h.b i hi, k1, k2⟩⟩
end
theorem ofT_ok : TodoOk (ren 1 [(1, 1), (2, 2), (3, 3)]) ofT ofT := TodoOk.same (by kernel_rfl)
theorem ofH_ok : TodoOk (ren 1 [(1, 1), (2, 2), (3, 3), (4, 6)]) ofH ofH := TodoOk.same (by kernel_rfl)
theorem ofN_good {h : Bool} {off n : Nat} {L : Int} {cs : Array Value} {ty : TypeId} {A : SV → SMem → Prop} {Q : Bool → Int → Nat → Array Value → Prop} {fs : List SFr} {m : SMem} (H : ∀ w i l bs, Q w i l bs → Good Tryd.prog A 1 (headF (ofF i)) (ofM w off n L cs ty l bs)) (hb : ofN h off n L cs ty Q fs m) : Good Tryd.prog A 1 fs m := by
  unfold ofN at hb
  split at hb
  · split at hb
    · split at hb
      · exact hF_good hb.2 (H _ _ _ _ hb.1)
      · exact hF_good hb.2 (H _ _ _ _ hb.1)
      · exact hb.elim
    · exact hb.elim
  · exact hb.elim
section
variable {off n : Nat} {cs : Array Value} (ty : TypeId) (L : Int) (h : PrOk cs off n)
include h
theorem of_round : ∀ k i : Nat, i + k = n → 1 ≤ i → Good Tryd.prog (ofRet n L (prsA cs off n)) 1 (headF (ofF i)) (ofM true off n L cs ty i (prsA cs off i)) := by
  have hle := h.le
  intro k
  induction k with
  | zero =>
    intro i hi h1
    obtain rfl : i = n := by omega
    refine past_vc EX_ok 1000 (of_s1 off i L cs ty i (prsA cs off i) i i (prsA cs off i) (fun _ _ _ _ => False)) ?_ (fun _ _ h => h) (fun fs m hb => ofN_good (fun _ _ _ _ h => h.elim) hb)
    refine ⟨fun hd => ?_, fun _ => ⟨rfl, rfl, rfl, rfl, trivial⟩⟩
    have := of_decide_eq_true hd
    omega
  | succ k ih =>
    intro i hi h1
    have hi' : i < n := by omega
    have hN := next80 hi' hle
    have hmore : prsA cs off i ++ #[Value.int .i64 (intAt cs (off + i * 2)), Value.int .i64 (intAt cs (off + i * 2 + 1))] = prsA cs off (i + 1) := by
      unfold prsA
      show _ = (prsL cs off i ++ [Value.int .i64 (at0 cs off i), Value.int .i64 (nn0 cs off i)]).toArray
      rw [← List.append_toArray]
      rfl
    have hsz : i * 2 = (prsA cs off i).size := by unfold prsA; rw [List.size_toArray, prsL_len]
    refine past_vc EX_ok 1000 (of_s1 off n L cs ty i (prsA cs off i) i n (prsA cs off n) (fun w i' l bs => w = true ∧ i' = ((i + 1 : Nat) : Int) ∧ l = i + 1 ∧ bs = prsA cs off (i + 1))) ?_ (fun _ _ h => h)
      (fun fs m hb => ofN_good (fun w i' l bs ⟨e1, e2, e3, e4⟩ => by rw [e1, e2, e3, e4]; exact ih (i + 1) (by omega) (by omega)) hb)
    have hij : ((0 : Int) ≤ (i : Int) ∧ (i : Int) < (n : Int)) ∧ True := ⟨⟨by omega, by omega⟩, trivial⟩
    refine ⟨fun _ => ?_, fun hd => ?_⟩
    · simp only [Int.toNat_natCast, hN, hmore]
      have hTH := ofH_ok
      refine ⟨hij, ⟨h.a i hi', trivial⟩, hij, ⟨h.b i hi', trivial⟩, ⟨⟨by omega, by omega⟩, hsz, trivial⟩, ?_⟩
      repeat' first | exact hTH | exact trivial | exact rfl | apply And.intro
    · have := of_decide_eq_false hd
      omega
theorem of_good (hn : n ≠ 0) : Good Tryd.prog (fun s m' => s = .s (.agg (.ls [.f (.slice 1 (.l 0) (.o n) .any), .f (.int .i64 (.o L))])) ∧ m' = ⟨2, Tr.nil.set 1 (some ⟨.pop (prsA cs off n), 42, true⟩), []⟩) 1 (ofC off n L) (rwM true cs ty) := by
  have hle := h.le
  refine Good.retX (Good.mono (run_vc EX_ok 1000 (of_start off n L cs ty n (prsA cs off n) (fun w i l bs => w = false ∧ i = 0 ∧ l = 0 ∧ bs = #[])) ?_ (fun _ _ h => h)
    (fun fs m hb => ofN_good (fun w i l bs ⟨e1, e2, e3, e4⟩ => by
      rw [e1, e2, e3, e4]
      refine past_vc EX_ok 1000 (of_s0 off n L cs ty 0 n (prsA cs off n) (fun w i' l bs => w = true ∧ i' = ((1 : Nat) : Int) ∧ l = 1 ∧ bs = prsA cs off 1)) ?_ (fun _ _ h => h)
        (fun fs m hb => ofN_good (fun w i' l bs ⟨e1, e2, e3, e4⟩ => by rw [e1, e2, e3, e4]; exact of_round ty L h (n - 1) 1 (by omega) (by omega)) hb)
      have hTH := ofH_ok
      have a0 := h.a 0 (by omega)
      have b0 := h.b 0 (by omega)
      refine ⟨fun _ => ⟨⟨⟨by omega, by omega⟩, trivial⟩, ⟨a0, trivial⟩, ⟨⟨by omega, by omega⟩, trivial⟩, ⟨b0, trivial⟩, ⟨rfl, rfl, rfl, rfl⟩, rfl, hTH, ?_⟩, fun hd => ?_⟩
      · repeat' first | exact trivial | exact rfl | apply And.intro
      · have := of_decide_eq_false hd
        omega) hb)) ?_)
  · have hT := ofT_ok
    repeat' first | exact hT | exact trivial | exact rfl | apply And.intro
  · intro s m h
    unfold ofRet at h
    split at h
    · exact ⟨_, h⟩
    · exact h.elim
end
theorem ofx_con {m : SMem} {i : Nat} {o n : SN} {cap : SK} {x : SI} {cs : Array Value} (hr : rowV m i = some (true, cs)) :
    Con E0 6 [.s (.agg (.ls [.f (.slice i o n cap), .f (.int .i64 x)]))] m (needs [PrOk cs o.den n.den, n.den ≠ 0]
      (.ret (.s (.agg (.ls [.f (.slice m.next (.l 0) (.o n.den) .any), .f (.int .i64 (.o x.den))]))) (m.new (.pop (prsA cs o.den n.den)) 42))) := by
  obtain ⟨ty, wr, hb⟩ := rowV_of hr
  intro A hs
  obtain ⟨hq, hA⟩ := Tree.sat_needs hs
  refine ⟨Tryd.f6, (by kernel_rfl : E0.fn 6 = some Tryd.f6), by rw [(by kernel_rfl : Tryd.f6.body = some (Tryd.f6.body.getD .skip))]; rfl, fun n0 F w0 w R args ha hR => ?_⟩
  obtain ⟨gx, ds, fz, k1, _⟩ := hR.blk _ _ hb
  have hlt := hR.nx _ _ k1
  have hl' : All2 (SV.ok (pull (fun _ => i) 1 R)) [extS o.den n.den x.den] args.toList := by
    revert ha
    generalize args.toList = vs
    intro ha
    match vs, ha with
    | [u], ha =>
      obtain ⟨⟨ds, e, hd⟩, _⟩ := ha
      refine ⟨⟨ds, e, ?_⟩, trivial⟩
      have hd : All2 (SC.ok R) [.f (.slice i o n cap), .f (.int .i64 x)] ds.toList := hd
      show All2 (SC.ok _) [.f (sl0 o.den n.den), .f (.int .i64 (.o x.den))] ds.toList
      generalize ds.toList = L at hd ⊢
      match L, hd with
      | [a, b], hd =>
        obtain ⟨⟨gl, cp, e1, e2, e3, e4⟩, hb2, _⟩ := hd
        exact ⟨⟨gl, cp, by unfold pull; exact e1, e2, trivial, e4⟩, hb2, trivial⟩
  refine (frame (ms := rwM true cs ty) (ms' := ⟨2, Tr.nil.set 1 (some ⟨.pop (prsA cs o.den n.den), 42, true⟩), []⟩) (E0_ok.fns 6 _ (by kernel_rfl : E0.fn 6 = some Tryd.f6)).1 (by kernel_rfl : Tryd.f6.body = some (Tryd.f6.body.getD .skip)) (of_good ty x.den (hq _ (by simp)) (hq _ (by simp))) rfl (ι := fun _ => i) ?_ (fun _ _ => hlt) ?_ ?_ ?_ (show 1 ≤ 2 by decide) hl' hR).mono ?_
  · intro a b h1 h2 _
    have h1 : a < 1 := h1
    have h2 : b < 1 := h2
    omega
  · intro j b hj
    obtain ⟨rfl, rfl⟩ := rwM_get hj
    exact ⟨Nat.zero_lt_one, _, hb, rfl, fun h => (by cases h), fun R cs' h => h⟩
  · intro j b hj hw
    obtain ⟨rfl, rfl⟩ := rwM_get hj
    cases hw
  · intro j b hj h1
    have h1 : j < 1 := h1
    have e : j = 0 := by omega
    subst e
    have hj : (none : Option SBlk) = some b := hj
    cases hj
  · rintro u w' ⟨R', k1, k2, k3⟩
    exact ⟨_, _, R', hA, k1, k2, k3⟩
theorem nds_con (s a : SI) (m : SMem) : Con E0 7 [i64 s, i64 a] m (needs [] (.ret (.tup [.c (.f (.int .i64 (.o (needN s.den a.den)))), .c (.f (.bool (.o (objB s.den a.den))))]) m)) := by
  refine Con.ro E0_ok (l' := [i64 (.o s.den), i64 (.o a.den)]) (ms := ⟨0, .nil, []⟩) (m := m) (q := []) (A := pairR (needN s.den a.den) (objB s.den a.den)) (by kernel_rfl : E0.fn 7 = some Tryd.f7) (by kernel_rfl : Tryd.f7.body = some (Tryd.f7.body.getD .skip)) rfl (fun i => i) (fun i b hb => by
    have hb : (Tr.nil : Tr SBlk).get i = some b := hb
    rw [Tr.get_nil] at hb; cases hb) (fun R vs ha => ?_) (fun _ => ?_) (fun s m' R R' u h hv => ?_)
  · match vs, ha with
    | [x, y], ha => exact ⟨ha.1, ha.2.1, trivial⟩
  · generalize s.den = s
    generalize a.den = a
    refine run_vc EX_ok 1000 (nds_run s a (needN s a) (objB s a)) ?_ (fun _ _ h => h) (fun _ _ h => h.elim)
    have no : ¬ (1 ≤ s ∧ s ≤ 128 ∧ (a = 1 ∨ a = 2 ∨ a = 4 ∨ a = 8)) → 0 = needN s a ∧ false = objB s a := fun hn => by
      have hf : objB s a = false := by
        cases e : objB s a with
        | false => rfl
        | true => exact absurd (objB_iff.1 e) hn
      unfold needN
      rw [hf]
      exact ⟨rfl, rfl⟩
    have yes : 1 ≤ s → s ≤ 128 → (a = 1 ∨ a = 2 ∨ a = 4 ∨ a = 8) → ari .quo .i64 (ari .sub .i64 (ari .add .i64 s 32) 1) 32 = needN s a ∧ true = objB s a := fun k1 k2 k3 => by
      have hf : objB s a = true := objB_iff.2 ⟨k1, k2, k3⟩
      have e1 : ari .add .i64 s 32 = s + 32 := by rw [ari_add, i64w (by omega)]
      have e2 : ari .sub .i64 (s + 32) 1 = s + 31 := by rw [ari_sub, i64w (by omega)]; omega
      have e3 : ari .quo .i64 (s + 31) 32 = (s + 31) / 32 := by
        show IntKind.i64.wrap (Int.tdiv (s + 31) 32) = _
        rw [Int.tdiv_eq_ediv_of_nonneg (by omega)]
        exact i64w (by omega)
      unfold needN
      rw [e1, e2, e3, hf]
      exact ⟨rfl, rfl⟩
    generalize hX : (0 = needN s a ∧ false = objB s a) = X at *
    generalize hY : (ari .quo .i64 (ari .sub .i64 (ari .add .i64 s 32) 1) 32 = needN s a ∧ true = objB s a) = Y at *
    clear hX hY
    simp only [decide_eq_true_eq, beq_iff_eq, beq_eq_false_iff_ne, decide_eq_false_iff_not, ne_eq, beq_true, beq_false, Bool.not_eq_eq_eq_not, Bool.not_true, Bool.not_false]
    repeat' first | apply And.intro | (intro hh)
    all_goals first
      | exact no (by omega)
      | exact yes (by omega) (by omega) (by omega)
  · unfold pairR at h
    split at h
    · obtain ⟨e1, e2⟩ := h
      obtain ⟨vs, rfl, hl⟩ := hv
      refine ⟨vs, rfl, ?_⟩
      generalize vs.toList = T at hl ⊢
      match T, hl with
      | [a, b], hl =>
        obtain ⟨ha, hb, _⟩ := hl
        have ha : a = .int .i64 _ := ha
        have hb : b = .bool _ := hb
        rw [e1] at ha
        rw [e2] at hb
        exact ⟨ha, hb, trivial⟩
    · exact h.elim
end Go.Proofs.YtccbfkeigfnibaaDoor
/- Of extent: what the law asks of its functions: the environment. No condition. -/
namespace Go.Proofs.YtccbfkeigfnibaaDoor
set_option maxRecDepth 100000
noncomputable section
def prT (x : Int) (b : Bool) (m : SMem) : Tree := .ret (.tup [.c (.f (.int .i64 (.o x))), .c (.f (.bool (.o b)))]) m
def conT (g : FuncId) (l : List SV) (m : SMem) : Option Tree :=
  match g, l with
  | 5, [] => some (needs [] (.ret (sB (.l true)) m))
  | 6, [.s (.agg (.ls [.f (.slice i o n _), .f (.int .i64 x)]))] => match rowV m i with
    | some (true, cs) => some (needs [PrOk cs o.den n.den, n.den ≠ 0] (.ret (.s (.agg (.ls [.f (.slice m.next (.l 0) (.o n.den) .any), .f (.int .i64 (.o x.den))]))) (m.new (.pop (prsA cs o.den n.den)) 42)))
    | _ => none
  | 7, [.s (.c (.f (.int .i64 s))), .s (.c (.f (.int .i64 a)))] => some (needs [] (prT (needN s.den a.den) (objB s.den a.den) m))
  | 8, [.s (.c (.f (.int .i64 s))), .s (.c (.f (.int .i64 a)))] => some (needs [] (.ret (i64 (.o (needN s.den a.den))) m))
  | 9, [.s (.agg (.ls [.f (.slice i o n _), .f (.int .i64 x)]))] => match rowV m i with
    | some (false, cs) => some (needs [PrOk cs o.den n.den] (.ret (sB (.o (mayE cs o.den n.den x.den))) m))
    | _ => none
  | 10, [.s (.agg (.ls [.f (.slice i o n _), .f (.int .i64 x)]))] => match rowV m i with
    | some (true, cs) => some (needs [PrOk cs o.den n.den] (.ret (sB (.o (mayE cs o.den n.den x.den))) m))
    | _ => none
  | 11, [.s (.agg (.ls [.f (.slice i o n _), .f (.int .i64 _)]))] => byV m i o n
  | 12, [.s (.agg (.ls [.f (.slice i o n _), .f (.int .i64 x)])), .s (.c (.f (.int .i64 y))), .s (.c (.f (.int .i64 z)))] => match rowV m i with
    | some (false, cs) => some (needs [PrOk cs o.den n.den, tkOk cs o.den n.den = true, 0 ≤ x.den, x.den ≤ 32 * sumN cs o.den n.den] (prT (fitV x.den y.den z.den (32 * sumN cs o.den n.den)) (fitOk x.den y.den z.den (32 * sumN cs o.den n.den)) m))
    | _ => none
  | 13, [.s (.agg (.ls [.f (.slice i o n _), .f (.int .i64 x)])), .s (.c (.f (.int .i64 y))), .s (.c (.f (.int .i64 z)))] => match rowV m i with
    | some (true, cs) => some (needs [PrOk cs o.den n.den, tkOk cs o.den n.den = true, 0 ≤ x.den, x.den ≤ 32 * sumN cs o.den n.den, n.den ≠ 0] (.ret (i64 (.o (fitR x.den y.den z.den (32 * sumN cs o.den n.den)))) m))
    | _ => none
  | 15, [.s (.agg (.ls [.f (.slice i o n _), .f (.int .i64 x)])), .s (.agg (.ls [.f (.slice j o' n' _), .f (.int .i64 y)]))] => match rowV m i with
    | some (false, cs) => match rowV m j with
      | some (_, ds) => some (needs [n'.den = n.den, y.den = x.den, EqR cs o.den ds o'.den n.den] (.ret (sB (.l true)) m))
      | none => none
    | _ => none
  | 16, [.s (.agg (.ls [.f (.slice i o n _), .f (.int .i64 _)]))] => pgV m i o n
  | 17, [.s (.agg (.ls [.f (.slice i o n _), .f (.int .i64 _)])), .s (.c (.f (.int .i64 y)))] => match rowV m i with
    | some (false, cs) => some (needs [PrOk cs o.den n.den, tkOk cs o.den n.den = true, -9223372036854775808 ≤ y.den ∧ y.den ≤ 9223372036854775807] (prT (plV cs o.den n.den y.den) (plB cs o.den n.den y.den) m))
    | _ => none
  | _, _ => none
def ET : Env := ⟨Tryd.prog, fnOf, conT, fun _ _ x => isLoop x⟩
end
theorem conT_ok : ∀ g l m t, conT g l m = some t → Con E0 g l m t := by
  intro g l m t h
  unfold conT at h
  split at h
  · cases h; exact wakes_con m
  · split at h
    · rename_i e; cases h; exact ofx_con e
    · cases h
  · cases h; exact nds_con _ _ m
  · cases h
    refine Con.args (need_con _ _ m) fun R vs ha => ?_
    match vs, ha with
    | [x, y], ha => exact ⟨ha.1, ha.2.1, trivial⟩
  · split at h
    · rename_i e; cases h; exact my_con e
    · cases h
  · split at h
    · rename_i e; cases h; exact mr_con e
    · cases h
  · unfold byV at h
    split at h
    · rename_i e; cases h; exact by_con e
    · cases h
  · split at h
    · rename_i e; cases h; exact ft_con e
    · cases h
  · split at h
    · rename_i e; cases h; exact fr_con e
    · cases h
  · split at h
    · rename_i e
      split at h
      · rename_i e'; cases h; exact sm_con e e'
      · cases h
    · cases h
  · unfold pgV at h
    split at h
    · rename_i e; cases h; exact pg_con e
    · cases h
  · split at h
    · rename_i e; cases h; exact pl_con e
    · cases h
  · cases h
theorem ET_ok : EnvOk ET := EnvOk.with E0_ok _ _ conT_ok
noncomputable section
def tlC (x : SV) (s a t pg pn : Int) : List SFr := [callFr 3 Tryd.f3.ntmps [x, i64 (.o s), i64 (.o a), i64 (.o t), i64 (.o pg), i64 (.o pn)] (Tryd.f3.body.getD .skip)]
end
end Go.Proofs.YtccbfkeigfnibaaDoor
/- Of extent: the law's pieces: their states. No condition. -/
namespace Go.Proofs.YtccbfkeigfnibaaDoor
noncomputable section
def rgId : SIt → Nat
  | .it (.code (.region i _ _)) => i
  | _ => 1000
def cutE : Env := ⟨Tryd.prog, fnOf, conT, fun _ f x => isLoop x || (Nat.beq f 3 && memB [10, 17, 19, 23] (rgId x))⟩
/-- What a run stops at, at a region. -/
def Tree.fsRg (id : Nat) : Tree → List SFr
  | .stop (f :: cs) _ => match f.todo with
    | x :: _ => match Nat.beq (rgId x) id with
      | true => f :: cs
      | false => []
    | [] => []
  | .need _ t => t.fsRg id
  | .br _ t e => match t.fsRg id with
    | [] => e.fsRg id
    | l => l
  | _ => []
def exB (i : Nat) (off : SN) (n : Nat) (cap : SK) (L : Int) (ty : TypeId) : SBlk := ⟨.ls [.f (.slice i off (.o n) cap), .f (.int .i64 (.o L))], ty, true⟩
def rowB (cs : Array Value) (ty : TypeId) : SBlk := ⟨.pop cs, ty, true⟩
def bo (b : Bool) : SV := sB (.o b)
def io (x : Int) : SV := i64 (.o x)
/-- From the start. -/
def q0 (off n : Nat) (L s a t pg pn : Int) (cs : Array Value) (ty : TypeId) : Tree := run cutE 1000 1 (tlC (extS off n L) s a t pg pn) (rwM true cs ty)
def s10 (s a t pg pn : Int) : List SFr := reTm [tmOf Tryd.f3.ntmps [(1, io s), (2, io a), (3, io t), (4, io pg), (5, io pn), (6, ptr 1 (.l 0)), (13, ptr 2 (.l 0))]] ((q0 0 0 0 0 0 0 0 0 #[] 0).fsRg 10)
def m10 (off n : Nat) (L : Int) (cs : Array Value) (ty : TypeId) (es : Array Value) : SMem :=
  ⟨4, ((((Tr.nil : Tr SBlk).set 0 (some ⟨.raw cs, ty, false⟩)).set 1 (some (exB 0 (.o off) n .any L 24))).set 2 (some (exB 3 (.l 0) n .any L 28))).set 3 (some (rowB es 42)), []⟩
def q10 (off n : Nat) (L s a t pg pn : Int) (cs : Array Value) (ty : TypeId) (es : Array Value) : Tree := stepT cutE.go (run cutE 1000) 1 (s10 s a t pg pn) (m10 off n L cs ty es)
def allS (k : Nat) : SV := .s (.c (.f (.slice 4 (.l 0) (.o k) .any)))
def s17 (s a t pg pn : Int) (k : Nat) (av : Int) (isv : Bool) (want bv : Int) (putv : Bool) : List SFr :=
  reTm [tmOf Tryd.f3.ntmps [(1, io s), (2, io a), (3, io t), (4, io pg), (5, io pn), (6, ptr 1 (.l 0)), (13, ptr 2 (.l 0)), (17, allS k), (18, io av), (19, bo isv), (20, io want), (21, ptr 5 (.l 0)), (22, io bv), (23, bo putv), (24, ptr 7 (.l 0))]] ((q10 0 0 0 0 0 0 0 0 #[] 0 #[]).fsRg 17)
def m17 (off n : Nat) (L : Int) (cs : Array Value) (ty : TypeId) (es bs fs : Array Value) (fl yl : Int) : SMem :=
  ⟨8, ((((((((Tr.nil : Tr SBlk).set 0 (some ⟨.raw cs, ty, false⟩)).set 1 (some (exB 0 (.o off) n .any L 24))).set 2 (some (exB 3 (.l 0) n .any L 28))).set 3 (some (rowB es 42))).set 4 (some (rowB bs 3))).set 5 (some (exB 6 (.l 0) n (.full 2) fl 28))).set 6 (some (rowB fs 42))).set 7 (some (exB 0 (.o off) n .any yl 24)), []⟩
def q17 (off n : Nat) (L s a t pg pn : Int) (cs : Array Value) (ty : TypeId) (es bs fs : Array Value) (fl yl : Int) (k : Nat) (av : Int) (isv : Bool) (want bv : Int) (putv : Bool) : Tree :=
  stepT cutE.go (run cutE 1000) 1 (s17 s a t pg pn k av isv want bv putv) (m17 off n L cs ty es bs fs fl yl)
def m19 (off n : Nat) (L : Int) (cs : Array Value) (ty : TypeId) (es bs : Array Value) : SMem :=
  ⟨5, (((((Tr.nil : Tr SBlk).set 0 (some ⟨.raw cs, ty, false⟩)).set 1 (some (exB 0 (.o off) n .any L 24))).set 2 (some (exB 3 (.l 0) n .any L 28))).set 3 (some (rowB es 42))).set 4 (some (rowB bs 3)), []⟩
def s19 (t pg pn : Int) (k : Nat) : List SFr := reTm [tmOf Tryd.f3.ntmps [(3, io t), (4, io pg), (5, io pn), (6, ptr 1 (.l 0)), (13, ptr 2 (.l 0)), (17, allS k)]] ((q17 0 0 0 0 0 0 0 0 #[] 0 #[] #[] #[] 0 0 0 0 true 0 0 true).fsRg 19)
def q19 (off n : Nat) (L t pg pn : Int) (cs : Array Value) (ty : TypeId) (es bs : Array Value) (k : Nat) : Tree := stepT cutE.go (run cutE 1000) 1 (s19 t pg pn k) (m19 off n L cs ty es bs)
def s23 (pg pn : Int) (k : Nat) : List SFr := reTm [tmOf Tryd.f3.ntmps [(4, io pg), (5, io pn), (6, ptr 1 (.l 0)), (13, ptr 2 (.l 0)), (17, allS k)]] ((q19 0 0 0 0 0 0 #[] 0 #[] #[] 0).fsRg 23)
def q23 (off n : Nat) (L pg pn : Int) (cs : Array Value) (ty : TypeId) (es bs : Array Value) (k : Nat) : Tree := stepT cutE.go (run cutE 1000) 1 (s23 pg pn k) (m19 off n L cs ty es bs)
/-- An extent's block: where its row lies, and its length. -/
def rdE (m : SMem) (id : Nat) : Option (Nat × Int) := match getB m.bl id with
  | some ⟨.ls [.f (.slice s _ _ _), .f (.int .i64 x)], _, _⟩ => some (s, x.den)
  | _ => none
def rdB (f : SFr) (d : Nat) : Option Bool := match f.tm.get d with
  | some (.s (.c (.f (.bool x)))) => some x.den
  | _ => none
def n10 (off n : Nat) (L s a t pg pn : Int) (cs : Array Value) (ty : TypeId) (Q : Array Value → Prop) (fs : List SFr) (m : SMem) : Prop := match fs with
  | f :: _ => match rdP f 6, rdP f 13 with
    | some p1, some p2 => match rdE m p2 with
      | some (p3, _) => match rdA m p3 with
        | some es => Q es ∧ subOk 1 [(1, p1), (2, p2), (3, p3)] (s10 s a t pg pn) (m10 off n L cs ty es) fs m
        | none => False
      | none => False
    | _, _ => False
  | [] => False
structure V17 where
  k : Nat
  av : Int
  isv : Bool
  want : Int
  bv : Int
  putv : Bool
  fl : Int
  yl : Int
def n17 (off n : Nat) (L s a t pg pn : Int) (cs : Array Value) (ty : TypeId) (es : Array Value) (Q : V17 → Array Value → Array Value → Prop) (fs : List SFr) (m : SMem) : Prop := match fs with
  | f :: _ => match rdP f 6, rdP f 13, rdP f 21, rdP f 24, rdS f 17 m with
    | some p1, some p2, some p5, some p7, some (some (p4, k, bs)) => match rdE m p2, rdE m p5, rdE m p7 with
      | some (p3, _), some (p6, fl), some (_, yl) => match rdA m p6 with
        | some gs => match rdI f 18, rdB f 19, rdI f 20, rdI f 22, rdB f 23 with
          | some av, some isv, some want, some bv, some putv => Q ⟨k, av, isv, want, bv, putv, fl, yl⟩ bs gs ∧
            subOk 1 [(1, p1), (2, p2), (3, p3), (4, p4), (5, p5), (6, p6), (7, p7)] (s17 s a t pg pn k av isv want bv putv) (m17 off n L cs ty es bs gs fl yl) fs m
          | _, _, _, _, _ => False
        | none => False
      | _, _, _ => False
    | _, _, _, _, _ => False
  | [] => False
def n19 (off n : Nat) (L t pg pn : Int) (cs : Array Value) (ty : TypeId) (es bs : Array Value) (k : Nat) (fs : List SFr) (m : SMem) : Prop := match fs with
  | f :: _ => match rdP f 6, rdP f 13, rdS f 17 m with
    | some p1, some p2, some (some (p4, _, _)) => match rdE m p2 with
      | some (p3, _) => subOk 1 [(1, p1), (2, p2), (3, p3), (4, p4)] (s19 t pg pn k) (m19 off n L cs ty es bs) fs m
      | none => False
    | _, _, _ => False
  | [] => False
def n23 (off n : Nat) (L pg pn : Int) (cs : Array Value) (ty : TypeId) (es bs : Array Value) (k : Nat) (fs : List SFr) (m : SMem) : Prop := match fs with
  | f :: _ => match rdP f 6, rdP f 13, rdS f 17 m with
    | some p1, some p2, some (some (p4, _, _)) => match rdE m p2 with
      | some (p3, _) => subOk 1 [(1, p1), (2, p2), (3, p3), (4, p4)] (s23 pg pn k) (m19 off n L cs ty es bs) fs m
      | none => False
    | _, _, _ => False
  | [] => False
def t10 : List SIt := headTd (s10 0 0 0 0 0)
def t17 : List SIt := headTd (s17 0 0 0 0 0 0 0 true 0 0 true)
def t19 : List SIt := headTd (s19 0 0 0 0)
def t23 : List SIt := headTd (s23 0 0 0)
end
theorem cutE_ok : EnvOk cutE := EnvOk.with E0_ok _ _ conT_ok
end Go.Proofs.YtccbfkeigfnibaaDoor
/- Of extent: the law's pieces, as propositions. No condition. -/
namespace Go.Proofs.YtccbfkeigfnibaaDoor
set_option maxRecDepth 100000
theorem tl_0 (off n : Nat) (L s a t pg pn : Int) (cs : Array Value) (ty : TypeId) (Q : Array Value → Prop) : (q0 off n L s a t pg pn cs ty).vc (boolR true) (n10 off n L s a t pg pn cs ty Q) =
    ((decide ((↑n : Int) > (80 : Int)) = true → true = true) ∧ (decide ((↑n : Int) > (80 : Int)) = false → (PrOk cs off n ∧ n ≠ (0 : Nat) ∧ True) ∧ (((needN s a != needN s a) == false) = true → (((!objB s a == decide (needN s a > (0 : Int))) == false) = true → (PrOk (prsA cs off n) (0 : Nat) n ∧ True) ∧ (PrOk cs off n ∧ True) ∧ ((!mayE (prsA cs off n) (0 : Nat) n L == mayE cs off n L) = true → false = true) ∧ ((!mayE (prsA cs off n) (0 : Nat) n L == mayE cs off n L) = false → (PrOk cs off n ∧ True) ∧ ((!mayE cs off n L) = true → true = true) ∧ ((!mayE cs off n L) = false → Q (prsA cs off n) ∧ CallKind.normal = CallKind.normal ∧ TodoOk (ren 1 [(1, 1), (2, 3), (3, 2)]) t10 t10 ∧ s = s ∧ t = t ∧ pn = pn ∧ a = a ∧ pg = pg ∧ ty = ty ∧ cs = cs ∧ SBlk.ty (exB (0 : Nat) (SN.o off) n SK.any L (24 : TypeId)) = (24 : Nat) ∧ off = off ∧ n = n ∧ L = L ∧ SBlk.ty (rowB (prsA cs off n) (42 : TypeId)) = (42 : TypeId) ∧ prsA cs off n = prsA cs off n ∧ SBlk.ty (exB (3 : Nat) (SN.l (0 : Nat)) n SK.any L (28 : TypeId)) = (28 : Nat) ∧ n = n ∧ L = L ∧ True))) ∧ (((!objB s a == decide (needN s a > (0 : Int))) == false) = false → false = true)) ∧ (((needN s a != needN s a) == false) = false → false = true))) := by kernel_rfl
theorem tl_10 (off n : Nat) (L s a t pg pn : Int) (cs : Array Value) (ty : TypeId) (es : Array Value) (Q : V17 → Array Value → Array Value → Prop) : (q10 off n L s a t pg pn cs ty es).vc (boolR true) (n17 off n L s a t pg pn cs ty es Q) =
    ((PrOk cs off n ∧ tkOk cs off n = true ∧ n ≠ (0 : Nat) ∧ True) ∧ (PrOk es (0 : Nat) n ∧ tkOk es (0 : Nat) n = true ∧ (0 : Int) ≤ L ∧ L ≤ (32 : Int) * sumN es (0 : Nat) n ∧ True) ∧ (PrOk cs off n ∧ tkOk cs off n = true ∧ (0 : Int) ≤ L ∧ L ≤ (32 : Int) * sumN cs off n ∧ n ≠ (0 : Nat) ∧ True) ∧ ((0 : Nat) + n * 2 ≤ Array.size es ∧ (((0 : Nat) + n) * 16 ≤ (140737488355328 : Nat) ∧ (0 : Nat) + n ≤ (140737488355328 : Nat)) ∧ True) ∧ (PrOk es (0 : Nat) n ∧ tkOk es (0 : Nat) n = true ∧ (0 : Int) ≤ L ∧ L ≤ (32 : Int) * sumN es (0 : Nat) n ∧ True) ∧ ((!fitOk L s a ((32 : Int) * sumN es (0 : Nat) n)) = true → (decide (fitR L s a ((32 : Int) * sumN cs off n) ≥ (0 : Int)) = true → Q (V17.mk (List.length (bytesL cs off n)) (fitV L s a ((32 : Int) * sumN es (0 : Nat) n)) (fitOk L s a ((32 : Int) * sumN es (0 : Nat) n)) (fitR L s a ((32 : Int) * sumN cs off n)) (0 : Int) false L (ari BinOp.add IntKind.i64 (fitR L s a ((32 : Int) * sumN cs off n)) s)) (List.toArray (bytesL cs off n)) (Array.extract es (0 : Nat) ((0 : Nat) + n * 2)) ∧ CallKind.normal = CallKind.normal ∧ TodoOk (ren 1 [(1, 1), (2, 2), (3, 3), (4, 4), (5, 10), (6, 8), (7, 11)]) t17 t17 ∧ s = s ∧ t = t ∧ false = false ∧ fitOk L s a ((32 : Int) * sumN es (0 : Nat) n) = fitOk L s a ((32 : Int) * sumN es (0 : Nat) n) ∧ pn = pn ∧ List.length (bytesL cs off n) = List.length (bytesL cs off n) ∧ a = a ∧ pg = pg ∧ fitR L s a ((32 : Int) * sumN cs off n) = fitR L s a ((32 : Int) * sumN cs off n) ∧ fitV L s a ((32 : Int) * sumN es (0 : Nat) n) = fitV L s a ((32 : Int) * sumN es (0 : Nat) n) ∧ (0 : Int) = (0 : Int) ∧ ty = ty ∧ cs = cs ∧ SBlk.ty (exB (0 : Nat) (SN.o off) n SK.any L (24 : TypeId)) = SBlk.ty (exB (0 : Nat) (SN.o off) n SK.any L (24 : TypeId)) ∧ off = off ∧ n = n ∧ L = L ∧ SBlk.ty (rowB es (42 : TypeId)) = SBlk.ty (rowB es (42 : TypeId)) ∧ es = es ∧ SBlk.ty (exB (0 : Nat) (SN.o off) n SK.any (ari BinOp.add IntKind.i64 (fitR L s a ((32 : Int) * sumN cs off n)) s) (24 : TypeId)) = (24 : Nat) ∧ off = off ∧ n = n ∧ ari BinOp.add IntKind.i64 (fitR L s a ((32 : Int) * sumN cs off n)) s = ari BinOp.add IntKind.i64 (fitR L s a ((32 : Int) * sumN cs off n)) s ∧ SBlk.ty (exB (6 : Nat) (SN.l (0 : Nat)) n (SK.full (2 : Nat)) L (28 : TypeId)) = (28 : Nat) ∧ n = (0 : Nat) + n ∧ L = L ∧ SBlk.ty (exB (3 : Nat) (SN.l (0 : Nat)) n SK.any L (28 : TypeId)) = SBlk.ty (exB (3 : Nat) (SN.l (0 : Nat)) n SK.any L (28 : TypeId)) ∧ n = n ∧ L = L ∧ SBlk.ty (rowB (List.toArray (bytesL cs off n)) (3 : TypeId)) = (3 : TypeId) ∧ List.toArray (bytesL cs off n) = List.toArray (bytesL cs off n) ∧ SBlk.ty (rowB (Array.extract es (0 : Nat) ((0 : Nat) + n * 2)) (42 : TypeId)) = (42 : Nat) ∧ Array.extract es (0 : Nat) ((0 : Nat) + n * 2) = Array.extract es (0 : Nat) ((0 : Nat) + n * 2) ∧ True) ∧ (decide (fitR L s a ((32 : Int) * sumN cs off n) ≥ (0 : Int)) = false → Q (V17.mk (List.length (bytesL cs off n)) (fitV L s a ((32 : Int) * sumN es (0 : Nat) n)) (fitOk L s a ((32 : Int) * sumN es (0 : Nat) n)) (fitR L s a ((32 : Int) * sumN cs off n)) (0 : Int) false L L) (List.toArray (bytesL cs off n)) (Array.extract es (0 : Nat) ((0 : Nat) + n * 2)) ∧ CallKind.normal = CallKind.normal ∧ TodoOk (ren 1 [(1, 1), (2, 2), (3, 3), (4, 4), (5, 10), (6, 8), (7, 11)]) t17 t17 ∧ s = s ∧ t = t ∧ false = false ∧ fitOk L s a ((32 : Int) * sumN es (0 : Nat) n) = fitOk L s a ((32 : Int) * sumN es (0 : Nat) n) ∧ pn = pn ∧ List.length (bytesL cs off n) = List.length (bytesL cs off n) ∧ a = a ∧ pg = pg ∧ fitR L s a ((32 : Int) * sumN cs off n) = fitR L s a ((32 : Int) * sumN cs off n) ∧ fitV L s a ((32 : Int) * sumN es (0 : Nat) n) = fitV L s a ((32 : Int) * sumN es (0 : Nat) n) ∧ (0 : Int) = (0 : Int) ∧ ty = ty ∧ cs = cs ∧ SBlk.ty (exB (0 : Nat) (SN.o off) n SK.any L (24 : TypeId)) = SBlk.ty (exB (0 : Nat) (SN.o off) n SK.any L (24 : TypeId)) ∧ off = off ∧ n = n ∧ L = L ∧ SBlk.ty (rowB es (42 : TypeId)) = SBlk.ty (rowB es (42 : TypeId)) ∧ es = es ∧ SBlk.ty (exB (0 : Nat) (SN.o off) n SK.any L (24 : TypeId)) = (24 : Nat) ∧ off = off ∧ n = n ∧ L = L ∧ SBlk.ty (exB (6 : Nat) (SN.l (0 : Nat)) n (SK.full (2 : Nat)) L (28 : TypeId)) = (28 : Nat) ∧ n = (0 : Nat) + n ∧ L = L ∧ SBlk.ty (exB (3 : Nat) (SN.l (0 : Nat)) n SK.any L (28 : TypeId)) = SBlk.ty (exB (3 : Nat) (SN.l (0 : Nat)) n SK.any L (28 : TypeId)) ∧ n = n ∧ L = L ∧ SBlk.ty (rowB (List.toArray (bytesL cs off n)) (3 : TypeId)) = (3 : TypeId) ∧ List.toArray (bytesL cs off n) = List.toArray (bytesL cs off n) ∧ SBlk.ty (rowB (Array.extract es (0 : Nat) ((0 : Nat) + n * 2)) (42 : TypeId)) = (42 : Nat) ∧ Array.extract es (0 : Nat) ((0 : Nat) + n * 2) = Array.extract es (0 : Nat) ((0 : Nat) + n * 2) ∧ True)) ∧ ((!fitOk L s a ((32 : Int) * sumN es (0 : Nat) n)) = false → (decide (fitR L s a ((32 : Int) * sumN cs off n) ≥ (0 : Int)) = true → Q (V17.mk (List.length (bytesL cs off n)) (fitV L s a ((32 : Int) * sumN es (0 : Nat) n)) (fitOk L s a ((32 : Int) * sumN es (0 : Nat) n)) (fitR L s a ((32 : Int) * sumN cs off n)) (fitV L s a ((32 : Int) * sumN es (0 : Nat) n)) true (ari BinOp.add IntKind.i64 (fitV L s a ((32 : Int) * sumN es (0 : Nat) n)) s) (ari BinOp.add IntKind.i64 (fitR L s a ((32 : Int) * sumN cs off n)) s)) (List.toArray (bytesL cs off n)) (Array.extract es (0 : Nat) ((0 : Nat) + n * 2)) ∧ CallKind.normal = CallKind.normal ∧ TodoOk (ren 1 [(1, 1), (2, 2), (3, 3), (4, 4), (5, 10), (6, 8), (7, 11)]) t17 t17 ∧ s = s ∧ t = t ∧ true = true ∧ fitOk L s a ((32 : Int) * sumN es (0 : Nat) n) = fitOk L s a ((32 : Int) * sumN es (0 : Nat) n) ∧ pn = pn ∧ List.length (bytesL cs off n) = List.length (bytesL cs off n) ∧ a = a ∧ pg = pg ∧ fitR L s a ((32 : Int) * sumN cs off n) = fitR L s a ((32 : Int) * sumN cs off n) ∧ fitV L s a ((32 : Int) * sumN es (0 : Nat) n) = fitV L s a ((32 : Int) * sumN es (0 : Nat) n) ∧ fitV L s a ((32 : Int) * sumN es (0 : Nat) n) = fitV L s a ((32 : Int) * sumN es (0 : Nat) n) ∧ ty = ty ∧ cs = cs ∧ SBlk.ty (exB (0 : Nat) (SN.o off) n SK.any L (24 : TypeId)) = SBlk.ty (exB (0 : Nat) (SN.o off) n SK.any L (24 : TypeId)) ∧ off = off ∧ n = n ∧ L = L ∧ SBlk.ty (rowB es (42 : TypeId)) = SBlk.ty (rowB es (42 : TypeId)) ∧ es = es ∧ SBlk.ty (exB (0 : Nat) (SN.o off) n SK.any (ari BinOp.add IntKind.i64 (fitR L s a ((32 : Int) * sumN cs off n)) s) (24 : TypeId)) = (24 : Nat) ∧ off = off ∧ n = n ∧ ari BinOp.add IntKind.i64 (fitR L s a ((32 : Int) * sumN cs off n)) s = ari BinOp.add IntKind.i64 (fitR L s a ((32 : Int) * sumN cs off n)) s ∧ SBlk.ty (exB (6 : Nat) (SN.l (0 : Nat)) n (SK.full (2 : Nat)) (ari BinOp.add IntKind.i64 (fitV L s a ((32 : Int) * sumN es (0 : Nat) n)) s) (28 : TypeId)) = (28 : Nat) ∧ n = (0 : Nat) + n ∧ ari BinOp.add IntKind.i64 (fitV L s a ((32 : Int) * sumN es (0 : Nat) n)) s = ari BinOp.add IntKind.i64 (fitV L s a ((32 : Int) * sumN es (0 : Nat) n)) s ∧ SBlk.ty (exB (3 : Nat) (SN.l (0 : Nat)) n SK.any L (28 : TypeId)) = SBlk.ty (exB (3 : Nat) (SN.l (0 : Nat)) n SK.any L (28 : TypeId)) ∧ n = n ∧ L = L ∧ SBlk.ty (rowB (List.toArray (bytesL cs off n)) (3 : TypeId)) = (3 : TypeId) ∧ List.toArray (bytesL cs off n) = List.toArray (bytesL cs off n) ∧ SBlk.ty (rowB (Array.extract es (0 : Nat) ((0 : Nat) + n * 2)) (42 : TypeId)) = (42 : Nat) ∧ Array.extract es (0 : Nat) ((0 : Nat) + n * 2) = Array.extract es (0 : Nat) ((0 : Nat) + n * 2) ∧ True) ∧ (decide (fitR L s a ((32 : Int) * sumN cs off n) ≥ (0 : Int)) = false → Q (V17.mk (List.length (bytesL cs off n)) (fitV L s a ((32 : Int) * sumN es (0 : Nat) n)) (fitOk L s a ((32 : Int) * sumN es (0 : Nat) n)) (fitR L s a ((32 : Int) * sumN cs off n)) (fitV L s a ((32 : Int) * sumN es (0 : Nat) n)) true (ari BinOp.add IntKind.i64 (fitV L s a ((32 : Int) * sumN es (0 : Nat) n)) s) L) (List.toArray (bytesL cs off n)) (Array.extract es (0 : Nat) ((0 : Nat) + n * 2)) ∧ CallKind.normal = CallKind.normal ∧ TodoOk (ren 1 [(1, 1), (2, 2), (3, 3), (4, 4), (5, 10), (6, 8), (7, 11)]) t17 t17 ∧ s = s ∧ t = t ∧ true = true ∧ fitOk L s a ((32 : Int) * sumN es (0 : Nat) n) = fitOk L s a ((32 : Int) * sumN es (0 : Nat) n) ∧ pn = pn ∧ List.length (bytesL cs off n) = List.length (bytesL cs off n) ∧ a = a ∧ pg = pg ∧ fitR L s a ((32 : Int) * sumN cs off n) = fitR L s a ((32 : Int) * sumN cs off n) ∧ fitV L s a ((32 : Int) * sumN es (0 : Nat) n) = fitV L s a ((32 : Int) * sumN es (0 : Nat) n) ∧ fitV L s a ((32 : Int) * sumN es (0 : Nat) n) = fitV L s a ((32 : Int) * sumN es (0 : Nat) n) ∧ ty = ty ∧ cs = cs ∧ SBlk.ty (exB (0 : Nat) (SN.o off) n SK.any L (24 : TypeId)) = SBlk.ty (exB (0 : Nat) (SN.o off) n SK.any L (24 : TypeId)) ∧ off = off ∧ n = n ∧ L = L ∧ SBlk.ty (rowB es (42 : TypeId)) = SBlk.ty (rowB es (42 : TypeId)) ∧ es = es ∧ SBlk.ty (exB (0 : Nat) (SN.o off) n SK.any L (24 : TypeId)) = (24 : Nat) ∧ off = off ∧ n = n ∧ L = L ∧ SBlk.ty (exB (6 : Nat) (SN.l (0 : Nat)) n (SK.full (2 : Nat)) (ari BinOp.add IntKind.i64 (fitV L s a ((32 : Int) * sumN es (0 : Nat) n)) s) (28 : TypeId)) = (28 : Nat) ∧ n = (0 : Nat) + n ∧ ari BinOp.add IntKind.i64 (fitV L s a ((32 : Int) * sumN es (0 : Nat) n)) s = ari BinOp.add IntKind.i64 (fitV L s a ((32 : Int) * sumN es (0 : Nat) n)) s ∧ SBlk.ty (exB (3 : Nat) (SN.l (0 : Nat)) n SK.any L (28 : TypeId)) = SBlk.ty (exB (3 : Nat) (SN.l (0 : Nat)) n SK.any L (28 : TypeId)) ∧ n = n ∧ L = L ∧ SBlk.ty (rowB (List.toArray (bytesL cs off n)) (3 : TypeId)) = (3 : TypeId) ∧ List.toArray (bytesL cs off n) = List.toArray (bytesL cs off n) ∧ SBlk.ty (rowB (Array.extract es (0 : Nat) ((0 : Nat) + n * 2)) (42 : TypeId)) = (42 : Nat) ∧ Array.extract es (0 : Nat) ((0 : Nat) + n * 2) = Array.extract es (0 : Nat) ((0 : Nat) + n * 2) ∧ True))) := by kernel_rfl
theorem tl_17 (off n : Nat) (L s a t pg pn : Int) (cs : Array Value) (ty : TypeId) (es bs fs : Array Value) (fl yl : Int) (k : Nat) (av : Int) (isv : Bool) (want bv : Int) (putv : Bool) : (q17 off n L s a t pg pn cs ty es bs fs fl yl k av isv want bv putv).vc (boolR true) (n19 off n L t pg pn cs ty es bs k) =
    ((((!isv == decide (want ≥ (0 : Int))) == false) = true → (((!putv == isv) == false) = true → (((av != bv) == false) = true → ((isv == true) = true → (((av != want) == false) = true → (((!isv) == true) = true → (((av != (0 : Int)) == false) = true → (n = n ∧ yl = fl ∧ EqR fs (0 : Nat) cs off n ∧ True) ∧ (PrOk es (0 : Nat) n ∧ Small es (0 : Nat) n ∧ True) ∧ ((sumN es (0 : Nat) n != ari BinOp.quo IntKind.i64 (↑k : Int) (32 : Int)) = true → false = true) ∧ ((sumN es (0 : Nat) n != ari BinOp.quo IntKind.i64 (↑k : Int) (32 : Int)) = false → CallKind.normal = CallKind.normal ∧ TodoOk (ren 1 [(1, 1), (2, 2), (3, 3), (4, 4)]) t19 t19 ∧ t = t ∧ pn = pn ∧ k = k ∧ pg = pg ∧ ty = ty ∧ cs = cs ∧ SBlk.ty (exB (0 : Nat) (SN.o off) n SK.any L (24 : TypeId)) = SBlk.ty (exB (0 : Nat) (SN.o off) n SK.any L (24 : TypeId)) ∧ off = off ∧ n = n ∧ L = L ∧ SBlk.ty (rowB es (42 : TypeId)) = SBlk.ty (rowB es (42 : TypeId)) ∧ es = es ∧ SBlk.ty (exB (3 : Nat) (SN.l (0 : Nat)) n SK.any L (28 : TypeId)) = SBlk.ty (exB (3 : Nat) (SN.l (0 : Nat)) n SK.any L (28 : TypeId)) ∧ n = n ∧ L = L ∧ SBlk.ty (rowB bs (3 : TypeId)) = SBlk.ty (rowB bs (3 : TypeId)) ∧ bs = bs ∧ True)) ∧ (((av != (0 : Int)) == false) = false → false = true)) ∧ (((!isv) == true) = false → (n = n ∧ yl = fl ∧ EqR fs (0 : Nat) cs off n ∧ True) ∧ (PrOk es (0 : Nat) n ∧ Small es (0 : Nat) n ∧ True) ∧ ((sumN es (0 : Nat) n != ari BinOp.quo IntKind.i64 (↑k : Int) (32 : Int)) = true → false = true) ∧ ((sumN es (0 : Nat) n != ari BinOp.quo IntKind.i64 (↑k : Int) (32 : Int)) = false → CallKind.normal = CallKind.normal ∧ TodoOk (ren 1 [(1, 1), (2, 2), (3, 3), (4, 4)]) t19 t19 ∧ t = t ∧ pn = pn ∧ k = k ∧ pg = pg ∧ ty = ty ∧ cs = cs ∧ SBlk.ty (exB (0 : Nat) (SN.o off) n SK.any L (24 : TypeId)) = SBlk.ty (exB (0 : Nat) (SN.o off) n SK.any L (24 : TypeId)) ∧ off = off ∧ n = n ∧ L = L ∧ SBlk.ty (rowB es (42 : TypeId)) = SBlk.ty (rowB es (42 : TypeId)) ∧ es = es ∧ SBlk.ty (exB (3 : Nat) (SN.l (0 : Nat)) n SK.any L (28 : TypeId)) = SBlk.ty (exB (3 : Nat) (SN.l (0 : Nat)) n SK.any L (28 : TypeId)) ∧ n = n ∧ L = L ∧ SBlk.ty (rowB bs (3 : TypeId)) = SBlk.ty (rowB bs (3 : TypeId)) ∧ bs = bs ∧ True))) ∧ (((av != want) == false) = false → false = true)) ∧ ((isv == true) = false → (((!isv) == true) = true → (((av != (0 : Int)) == false) = true → (n = n ∧ yl = fl ∧ EqR fs (0 : Nat) cs off n ∧ True) ∧ (PrOk es (0 : Nat) n ∧ Small es (0 : Nat) n ∧ True) ∧ ((sumN es (0 : Nat) n != ari BinOp.quo IntKind.i64 (↑k : Int) (32 : Int)) = true → false = true) ∧ ((sumN es (0 : Nat) n != ari BinOp.quo IntKind.i64 (↑k : Int) (32 : Int)) = false → CallKind.normal = CallKind.normal ∧ TodoOk (ren 1 [(1, 1), (2, 2), (3, 3), (4, 4)]) t19 t19 ∧ t = t ∧ pn = pn ∧ k = k ∧ pg = pg ∧ ty = ty ∧ cs = cs ∧ SBlk.ty (exB (0 : Nat) (SN.o off) n SK.any L (24 : TypeId)) = SBlk.ty (exB (0 : Nat) (SN.o off) n SK.any L (24 : TypeId)) ∧ off = off ∧ n = n ∧ L = L ∧ SBlk.ty (rowB es (42 : TypeId)) = SBlk.ty (rowB es (42 : TypeId)) ∧ es = es ∧ SBlk.ty (exB (3 : Nat) (SN.l (0 : Nat)) n SK.any L (28 : TypeId)) = SBlk.ty (exB (3 : Nat) (SN.l (0 : Nat)) n SK.any L (28 : TypeId)) ∧ n = n ∧ L = L ∧ SBlk.ty (rowB bs (3 : TypeId)) = SBlk.ty (rowB bs (3 : TypeId)) ∧ bs = bs ∧ True)) ∧ (((av != (0 : Int)) == false) = false → false = true)) ∧ (((!isv) == true) = false → (n = n ∧ yl = fl ∧ EqR fs (0 : Nat) cs off n ∧ True) ∧ (PrOk es (0 : Nat) n ∧ Small es (0 : Nat) n ∧ True) ∧ ((sumN es (0 : Nat) n != ari BinOp.quo IntKind.i64 (↑k : Int) (32 : Int)) = true → false = true) ∧ ((sumN es (0 : Nat) n != ari BinOp.quo IntKind.i64 (↑k : Int) (32 : Int)) = false → CallKind.normal = CallKind.normal ∧ TodoOk (ren 1 [(1, 1), (2, 2), (3, 3), (4, 4)]) t19 t19 ∧ t = t ∧ pn = pn ∧ k = k ∧ pg = pg ∧ ty = ty ∧ cs = cs ∧ SBlk.ty (exB (0 : Nat) (SN.o off) n SK.any L (24 : TypeId)) = SBlk.ty (exB (0 : Nat) (SN.o off) n SK.any L (24 : TypeId)) ∧ off = off ∧ n = n ∧ L = L ∧ SBlk.ty (rowB es (42 : TypeId)) = SBlk.ty (rowB es (42 : TypeId)) ∧ es = es ∧ SBlk.ty (exB (3 : Nat) (SN.l (0 : Nat)) n SK.any L (28 : TypeId)) = SBlk.ty (exB (3 : Nat) (SN.l (0 : Nat)) n SK.any L (28 : TypeId)) ∧ n = n ∧ L = L ∧ SBlk.ty (rowB bs (3 : TypeId)) = SBlk.ty (rowB bs (3 : TypeId)) ∧ bs = bs ∧ True)))) ∧ (((av != bv) == false) = false → false = true)) ∧ (((!putv == isv) == false) = false → false = true)) ∧ (((!isv == decide (want ≥ (0 : Int))) == false) = false → false = true)) := by kernel_rfl
theorem tl_19 (off n : Nat) (L t pg pn : Int) (cs : Array Value) (ty : TypeId) (es bs : Array Value) (k : Nat) : (q19 off n L t pg pn cs ty es bs k).vc (boolR true) (n23 off n L pg pn cs ty es bs k) =
    ((PrOk es (0 : Nat) n ∧ tkOk es (0 : Nat) n = true ∧ ((-9223372036854775808 : Int) ≤ t ∧ t ≤ (9223372036854775807 : Int)) ∧ True) ∧ ((decide (t ≥ (0 : Int)) == true) = true → (((!plB es (0 : Nat) n t == decide (t < (↑k : Int))) == false) = true → ((decide (t < (↑k : Int)) == true) = true → (((0 : Int) ≤ t ∧ t < (↑k : Int)) ∧ True) ∧ (IsInt IntKind.i64 bs ((0 : Nat) + Int.toNat t * 1) ∧ True) ∧ (((plV es (0 : Nat) n t != intAt bs ((0 : Nat) + Int.toNat t * 1)) == false) = true → (((!decide (t < (↑k : Int))) == true) = true → ((plV es (0 : Nat) n t != (0 : Int)) = true → false = true) ∧ ((plV es (0 : Nat) n t != (0 : Int)) = false → CallKind.normal = CallKind.normal ∧ TodoOk (ren 1 [(1, 1), (2, 2), (3, 3), (4, 4)]) t23 t23 ∧ pn = pn ∧ k = k ∧ pg = pg ∧ ty = ty ∧ cs = cs ∧ SBlk.ty (exB (0 : Nat) (SN.o off) n SK.any L (24 : TypeId)) = SBlk.ty (exB (0 : Nat) (SN.o off) n SK.any L (24 : TypeId)) ∧ off = off ∧ n = n ∧ L = L ∧ SBlk.ty (rowB es (42 : TypeId)) = SBlk.ty (rowB es (42 : TypeId)) ∧ es = es ∧ SBlk.ty (exB (3 : Nat) (SN.l (0 : Nat)) n SK.any L (28 : TypeId)) = SBlk.ty (exB (3 : Nat) (SN.l (0 : Nat)) n SK.any L (28 : TypeId)) ∧ n = n ∧ L = L ∧ SBlk.ty (rowB bs (3 : TypeId)) = SBlk.ty (rowB bs (3 : TypeId)) ∧ bs = bs ∧ True)) ∧ (((!decide (t < (↑k : Int))) == true) = false → CallKind.normal = CallKind.normal ∧ TodoOk (ren 1 [(1, 1), (2, 2), (3, 3), (4, 4)]) t23 t23 ∧ pn = pn ∧ k = k ∧ pg = pg ∧ ty = ty ∧ cs = cs ∧ SBlk.ty (exB (0 : Nat) (SN.o off) n SK.any L (24 : TypeId)) = SBlk.ty (exB (0 : Nat) (SN.o off) n SK.any L (24 : TypeId)) ∧ off = off ∧ n = n ∧ L = L ∧ SBlk.ty (rowB es (42 : TypeId)) = SBlk.ty (rowB es (42 : TypeId)) ∧ es = es ∧ SBlk.ty (exB (3 : Nat) (SN.l (0 : Nat)) n SK.any L (28 : TypeId)) = SBlk.ty (exB (3 : Nat) (SN.l (0 : Nat)) n SK.any L (28 : TypeId)) ∧ n = n ∧ L = L ∧ SBlk.ty (rowB bs (3 : TypeId)) = SBlk.ty (rowB bs (3 : TypeId)) ∧ bs = bs ∧ True)) ∧ (((plV es (0 : Nat) n t != intAt bs ((0 : Nat) + Int.toNat t * 1)) == false) = false → false = true)) ∧ ((decide (t < (↑k : Int)) == true) = false → (((!decide (t < (↑k : Int))) == true) = true → ((plV es (0 : Nat) n t != (0 : Int)) = true → false = true) ∧ ((plV es (0 : Nat) n t != (0 : Int)) = false → CallKind.normal = CallKind.normal ∧ TodoOk (ren 1 [(1, 1), (2, 2), (3, 3), (4, 4)]) t23 t23 ∧ pn = pn ∧ k = k ∧ pg = pg ∧ ty = ty ∧ cs = cs ∧ SBlk.ty (exB (0 : Nat) (SN.o off) n SK.any L (24 : TypeId)) = SBlk.ty (exB (0 : Nat) (SN.o off) n SK.any L (24 : TypeId)) ∧ off = off ∧ n = n ∧ L = L ∧ SBlk.ty (rowB es (42 : TypeId)) = SBlk.ty (rowB es (42 : TypeId)) ∧ es = es ∧ SBlk.ty (exB (3 : Nat) (SN.l (0 : Nat)) n SK.any L (28 : TypeId)) = SBlk.ty (exB (3 : Nat) (SN.l (0 : Nat)) n SK.any L (28 : TypeId)) ∧ n = n ∧ L = L ∧ SBlk.ty (rowB bs (3 : TypeId)) = SBlk.ty (rowB bs (3 : TypeId)) ∧ bs = bs ∧ True)) ∧ (((!decide (t < (↑k : Int))) == true) = false → CallKind.normal = CallKind.normal ∧ TodoOk (ren 1 [(1, 1), (2, 2), (3, 3), (4, 4)]) t23 t23 ∧ pn = pn ∧ k = k ∧ pg = pg ∧ ty = ty ∧ cs = cs ∧ SBlk.ty (exB (0 : Nat) (SN.o off) n SK.any L (24 : TypeId)) = SBlk.ty (exB (0 : Nat) (SN.o off) n SK.any L (24 : TypeId)) ∧ off = off ∧ n = n ∧ L = L ∧ SBlk.ty (rowB es (42 : TypeId)) = SBlk.ty (rowB es (42 : TypeId)) ∧ es = es ∧ SBlk.ty (exB (3 : Nat) (SN.l (0 : Nat)) n SK.any L (28 : TypeId)) = SBlk.ty (exB (3 : Nat) (SN.l (0 : Nat)) n SK.any L (28 : TypeId)) ∧ n = n ∧ L = L ∧ SBlk.ty (rowB bs (3 : TypeId)) = SBlk.ty (rowB bs (3 : TypeId)) ∧ bs = bs ∧ True))) ∧ (((!plB es (0 : Nat) n t == decide (t < (↑k : Int))) == false) = false → false = true)) ∧ ((decide (t ≥ (0 : Int)) == true) = false → (((!plB es (0 : Nat) n t == false) == false) = true → ((plV es (0 : Nat) n t != (0 : Int)) = true → false = true) ∧ ((plV es (0 : Nat) n t != (0 : Int)) = false → CallKind.normal = CallKind.normal ∧ TodoOk (ren 1 [(1, 1), (2, 2), (3, 3), (4, 4)]) t23 t23 ∧ pn = pn ∧ k = k ∧ pg = pg ∧ ty = ty ∧ cs = cs ∧ SBlk.ty (exB (0 : Nat) (SN.o off) n SK.any L (24 : TypeId)) = SBlk.ty (exB (0 : Nat) (SN.o off) n SK.any L (24 : TypeId)) ∧ off = off ∧ n = n ∧ L = L ∧ SBlk.ty (rowB es (42 : TypeId)) = SBlk.ty (rowB es (42 : TypeId)) ∧ es = es ∧ SBlk.ty (exB (3 : Nat) (SN.l (0 : Nat)) n SK.any L (28 : TypeId)) = SBlk.ty (exB (3 : Nat) (SN.l (0 : Nat)) n SK.any L (28 : TypeId)) ∧ n = n ∧ L = L ∧ SBlk.ty (rowB bs (3 : TypeId)) = SBlk.ty (rowB bs (3 : TypeId)) ∧ bs = bs ∧ True)) ∧ (((!plB es (0 : Nat) n t == false) == false) = false → false = true))) := by kernel_rfl
theorem tl_23 (off n : Nat) (L pg pn : Int) (cs : Array Value) (ty : TypeId) (es bs : Array Value) (k : Nat) : (q23 off n L pg pn cs ty es bs k).vc (boolR true) (fun _ _ => False) =
    (((0 : Nat) + n * 2 ≤ Array.size es ∧ (((0 : Nat) + n) * 16 ≤ (140737488355328 : Nat) ∧ (0 : Nat) + n ≤ (140737488355328 : Nat)) ∧ True) ∧ ((((0 : Nat) + n + 1) * 16 ≤ (140737488355328 : Nat) ∧ (0 : Nat) + n + 1 ≤ (140737488355328 : Nat)) ∧ ((0 : Nat) + n) * 2 = Array.size (Array.extract es (0 : Nat) ((0 : Nat) + n * 2)) ∧ True) ∧ (PrOk es (0 : Nat) n ∧ Small es (0 : Nat) n ∧ True) ∧ (decide (n = (0 : Nat)) = true → ((((↑((0 : Nat) + n + 1) : Int) != (1 : Int)) == false) = true → ((ari BinOp.mul IntKind.i64 (sumN es (0 : Nat) n) (32 : Int) != (↑k : Int)) = true → false = true) ∧ ((ari BinOp.mul IntKind.i64 (sumN es (0 : Nat) n) (32 : Int) != (↑k : Int)) = false → False)) ∧ ((((↑((0 : Nat) + n + 1) : Int) != (1 : Int)) == false) = false → false = true)) ∧ (decide (n = (0 : Nat)) = false → (off + n * 2 ≤ Array.size cs ∧ (∀ (v : Value), List.Mem v (Array.toList (Array.extract cs off (off + n * 2))) → Value.oneCell' v = true) ∧ (0 : Nat) < n ∧ (((0 : Nat) + n) * 16 ≤ (140737488355328 : Nat) ∧ (0 : Nat) + n ≤ (140737488355328 : Nat)) ∧ True) ∧ (((n + 1) * 16 ≤ (140737488355328 : Nat) ∧ n + 1 ≤ (140737488355328 : Nat)) ∧ n * 2 = Array.size (Array.extract cs off (off + n * 2)) ∧ True) ∧ (n + 1 = (0 : Nat) + n + 1 ∧ (↑k : Int) = ari BinOp.mul IntKind.i64 (sumN es (0 : Nat) n) (32 : Int) ∧ EqR (Array.extract es (0 : Nat) ((0 : Nat) + n * 2) ++ #[Value.int IntKind.i64 pg, Value.int IntKind.i64 pn]) (0 : Nat) (Array.extract cs off (off + n * 2) ++ #[Value.int IntKind.i64 pg, Value.int IntKind.i64 pn]) (0 : Nat) ((0 : Nat) + n + 1) ∧ True) ∧ (n = n ∧ L = L ∧ EqR es (0 : Nat) cs off n ∧ True) ∧ true = true)) := by kernel_rfl
end Go.Proofs.YtccbfkeigfnibaaDoor
/- Of extent: ExtentTells' runs, when there are chunks, end with true. No condition. -/
namespace Go.Proofs.YtccbfkeigfnibaaDoor
set_option maxRecDepth 100000
theorem is_eq {cs ms : Array Value} {p q : Nat} {k : IntKind} (h : IsInt k cs p) (e : ms[q]? = cs[p]?) : IsInt k ms q ∧ intAt ms q = intAt cs p := by
  have h' : ms[q]? = some (.int k (intAt cs p)) := e.trans h
  exact ⟨(is_of h').2, (is_of h').1⟩
/-- A row's piece, and more behind it. -/
theorem ext_at {ds xs : Array Value} {off n j : Nat} (h : off + n * 2 ≤ ds.size) (hj : j < n * 2) : (Array.extract ds off (off + n * 2) ++ xs)[j]? = ds[off + j]? := by
  have hs : (Array.extract ds off (off + n * 2)).size = n * 2 := by rw [Array.size_extract]; omega
  rw [Array.getElem?_append_left (by omega), Array.getElem?_extract, if_pos (by omega)]
theorem ext_end {ds xs : Array Value} {off n c : Nat} (h : off + n * 2 ≤ ds.size) : (Array.extract ds off (off + n * 2) ++ xs)[n * 2 + c]? = xs[c]? := by
  have hs : (Array.extract ds off (off + n * 2)).size = n * 2 := by rw [Array.size_extract]; omega
  rw [Array.getElem?_append_right (by omega), hs, show n * 2 + c - n * 2 = c by omega]
theorem eqR_more {cs ds : Array Value} {off off' n : Nat} (h : EqR cs off ds off' n) (hn : n ≤ 80) (h1 : off + n * 2 ≤ cs.size) (h2 : off' + n * 2 ≤ ds.size) (x y : Int) :
    EqR (Array.extract cs off (off + n * 2) ++ #[.int .i64 x, .int .i64 y]) 0 (Array.extract ds off' (off' + n * 2) ++ #[.int .i64 x, .int .i64 y]) 0 (0 + n + 1) := by
  refine ⟨by omega, fun i hi => ?_⟩
  by_cases e : i = n
  · subst e
    have a1 := ext_end (xs := #[Value.int .i64 x, Value.int .i64 y]) (c := 0) h1
    have a2 := ext_end (xs := #[Value.int .i64 x, Value.int .i64 y]) (c := 1) h1
    have b1 := ext_end (xs := #[Value.int .i64 x, Value.int .i64 y]) (c := 0) h2
    have b2 := ext_end (xs := #[Value.int .i64 x, Value.int .i64 y]) (c := 1) h2
    rw [Nat.zero_add]
    obtain ⟨p1, p2⟩ := is_of (show (Array.extract cs off (off + i * 2) ++ #[Value.int .i64 x, Value.int .i64 y])[i * 2]? = some (.int .i64 x) from a1)
    obtain ⟨q1, q2⟩ := is_of (show (Array.extract cs off (off + i * 2) ++ #[Value.int .i64 x, Value.int .i64 y])[i * 2 + 1]? = some (.int .i64 y) from a2)
    obtain ⟨r1, r2⟩ := is_of (show (Array.extract ds off' (off' + i * 2) ++ #[Value.int .i64 x, Value.int .i64 y])[i * 2]? = some (.int .i64 x) from b1)
    obtain ⟨s1, s2⟩ := is_of (show (Array.extract ds off' (off' + i * 2) ++ #[Value.int .i64 x, Value.int .i64 y])[i * 2 + 1]? = some (.int .i64 y) from b2)
    exact ⟨p2, q2, r2, s2, p1.trans r1.symm, q1.trans s1.symm⟩
  · have hi' : i < n := by omega
    obtain ⟨k1, k2, k3, k4, k5, k6⟩ := h.2 i hi'
    rw [Nat.zero_add]
    obtain ⟨p1, p2⟩ := is_eq k1 (ext_at (xs := #[Value.int .i64 x, Value.int .i64 y]) (j := i * 2) h1 (by omega))
    obtain ⟨q1, q2⟩ := is_eq k2 (ext_at (xs := #[Value.int .i64 x, Value.int .i64 y]) (j := i * 2 + 1) h1 (by omega))
    obtain ⟨r1, r2⟩ := is_eq k3 (ext_at (xs := #[Value.int .i64 x, Value.int .i64 y]) (j := i * 2) h2 (by omega))
    obtain ⟨s1, s2⟩ := is_eq k4 (ext_at (xs := #[Value.int .i64 x, Value.int .i64 y]) (j := i * 2 + 1) h2 (by omega))
    exact ⟨p1, q1, r1, s1, p2.trans (k5.trans r2.symm), q2.trans (k6.trans s2.symm)⟩
theorem pr_one {cs : Array Value} {off n : Nat} (h : PrOk cs off n) : ∀ v : Value, List.Mem v (Array.toList (Array.extract cs off (off + n * 2))) → v.oneCell' = true := by
  intro v hv
  have hv : v ∈ (Array.extract cs off (off + n * 2)).toList := hv
  obtain ⟨k, hk⟩ := List.getElem?_of_mem hv
  rw [Array.getElem?_toList, Array.getElem?_extract] at hk
  have hsz := h.sz
  split at hk
  · have hi : IsInt .i64 cs (off + k) := by
      rcases Nat.mod_two_eq_zero_or_one k with e | e
      · have := h.a (k / 2) (by omega)
        rwa [show off + k / 2 * 2 = off + k by omega] at this
      · have := h.b (k / 2) (by omega)
        rwa [show off + k / 2 * 2 + 1 = off + k by omega] at this
    unfold IsInt at hi
    rw [hi] at hk
    cases hk
    rfl
  · cases hk
theorem bytesL_int {cs : Array Value} {off : Nat} : ∀ {n q : Nat}, q < (bytesL cs off n).length → ∃ x, (bytesL cs off n)[q]? = some (.int .i64 x)
  | 0, q, h => by simp [bytesL] at h
  | n + 1, q, h => by
    unfold bytesL at h ⊢
    by_cases e : q < (bytesL cs off n).length
    · rw [List.getElem?_append_left e]
      exact bytesL_int e
    · rw [List.getElem?_append_right (by omega)]
      rw [List.length_append, pcs_len] at h
      exact ⟨_, pcs_at _ (by omega)⟩
theorem prsA_size (cs : Array Value) (off n : Nat) : (prsA cs off n).size = n * 2 := by unfold prsA; rw [List.size_toArray, prsL_len]
theorem prsA_whole (cs : Array Value) (off n : Nat) : Array.extract (prsA cs off n) 0 (0 + n * 2) = prsA cs off n := by
  rw [Nat.zero_add, ← prsA_size cs off n]
  exact Array.extract_size
theorem need_dec (s a : Int) : decide (needN s a > 0) = objB s a := by
  cases e : objB s a with
  | false => unfold needN; rw [e]; rfl
  | true =>
    have := objB_iff.1 e
    unfold needN
    rw [e]
    simp only [if_true]
    exact decide_eq_true (by omega)
theorem t10_ok : TodoOk (ren 1 [(1, 1), (2, 3), (3, 2)]) t10 t10 := TodoOk.same (by kernel_rfl)
theorem t17_ok : TodoOk (ren 1 [(1, 1), (2, 2), (3, 3), (4, 4), (5, 10), (6, 8), (7, 11)]) t17 t17 := TodoOk.same (by kernel_rfl)
theorem t19_ok : TodoOk (ren 1 [(1, 1), (2, 2), (3, 3), (4, 4)]) t19 t19 := TodoOk.same (by kernel_rfl)
theorem t23_ok : TodoOk (ren 1 [(1, 1), (2, 2), (3, 3), (4, 4)]) t23 t23 := TodoOk.same (by kernel_rfl)
section
variable {off n : Nat} {L s a t pg pn : Int} {cs : Array Value} {ty : TypeId} {A : SV → SMem → Prop} {fs : List SFr} {m : SMem}
theorem n10_good {Q : Array Value → Prop} (H : ∀ es, Q es → Good Tryd.prog A 1 (s10 s a t pg pn) (m10 off n L cs ty es)) (hb : n10 off n L s a t pg pn cs ty Q fs m) : Good Tryd.prog A 1 fs m := by
  unfold n10 at hb
  split at hb
  · split at hb
    · split at hb
      · split at hb
        · exact Good.of_sub hb.2 (H _ hb.1)
        · exact hb.elim
      · exact hb.elim
    · exact hb.elim
  · exact hb.elim
theorem n17_good {es : Array Value} {Q : V17 → Array Value → Array Value → Prop} (H : ∀ v bs gs, Q v bs gs → Good Tryd.prog A 1 (s17 s a t pg pn v.k v.av v.isv v.want v.bv v.putv) (m17 off n L cs ty es bs gs v.fl v.yl)) (hb : n17 off n L s a t pg pn cs ty es Q fs m) : Good Tryd.prog A 1 fs m := by
  unfold n17 at hb
  split at hb
  · split at hb
    · split at hb
      · split at hb
        · split at hb
          · exact Good.of_sub hb.2 (H _ _ _ hb.1)
          · exact hb.elim
        · exact hb.elim
      · exact hb.elim
    · exact hb.elim
  · exact hb.elim
theorem n19_good {es bs : Array Value} {k : Nat} (H : Good Tryd.prog A 1 (s19 t pg pn k) (m19 off n L cs ty es bs)) (hb : n19 off n L t pg pn cs ty es bs k fs m) : Good Tryd.prog A 1 fs m := by
  unfold n19 at hb
  split at hb
  · split at hb
    · split at hb
      · exact Good.of_sub hb H
      · exact hb.elim
    · exact hb.elim
  · exact hb.elim
theorem n23_good {es bs : Array Value} {k : Nat} (H : Good Tryd.prog A 1 (s23 pg pn k) (m19 off n L cs ty es bs)) (hb : n23 off n L pg pn cs ty es bs k fs m) : Good Tryd.prog A 1 fs m := by
  unfold n23 at hb
  split at hb
  · split at hb
    · split at hb
      · exact Good.of_sub hb H
      · exact hb.elim
    · exact hb.elim
  · exact hb.elim
end
section
variable {off n : Nat} {cs : Array Value} (ty : TypeId) (L s a t pg pn : Int) (h : PrOk cs off n) (hn : n ≠ 0) (hk : tkOk cs off n = true)
include h hn hk
theorem g23 : Good Tryd.prog (boolR true) 1 (s23 pg pn (bytesL cs off n).length) (m19 off n L cs ty (prsA cs off n) (bytesL cs off n).toArray) := by
  have hs := tkOk_small hk
  have hsum := sumN_le hs n (Nat.le_refl _)
  have hlen := bytesL_len hs n (Nat.le_refl _)
  have hle := h.le
  have hsz := h.sz
  have he := prsA_ok (cs := cs) (off := off) hle
  have hk' : tkOk (prsA cs off n) 0 n = true := (prsA_tkOk n (Nat.le_refl _)).trans hk
  have hs' := tkOk_small hk'
  have hz := prsA_size cs off n
  have heq := prsA_eq h
  have eM : ari .mul .i64 (sumN (prsA cs off n) 0 n) 32 = ((bytesL cs off n).length : Int) := by
    rw [prsA_sum n (Nat.le_refl _), ari_mul, i64w (by omega), hlen]
    omega
  have hmore := eqR_more heq hle (by omega) hsz pg pn
  refine past_vc cutE_ok 1000 (tl_23 off n L pg pn cs ty (prsA cs off n) (bytesL cs off n).toArray (bytesL cs off n).length) ?_ (fun _ _ h => h) (fun _ _ h => h.elim)
  refine ⟨⟨by omega, ⟨by omega, by omega⟩, trivial⟩, ⟨⟨by omega, by omega⟩, by rw [prsA_whole]; omega, trivial⟩, ⟨he, hs', trivial⟩, fun h0 => absurd (of_decide_eq_true h0) hn, fun _ => ⟨⟨hsz, pr_one h, by omega, ⟨by omega, by omega⟩, trivial⟩, ⟨⟨by omega, by omega⟩, ?_, trivial⟩, ⟨by omega, eM.symm, hmore, trivial⟩, ⟨rfl, rfl, heq, trivial⟩, rfl⟩⟩
  rw [Array.size_extract]
  omega
theorem g19 (ht : -9223372036854775808 ≤ t ∧ t ≤ 9223372036854775807) : Good Tryd.prog (boolR true) 1 (s19 t pg pn (bytesL cs off n).length) (m19 off n L cs ty (prsA cs off n) (bytesL cs off n).toArray) := by
  have hs := tkOk_small hk
  have hsum := sumN_le hs n (Nat.le_refl _)
  have hlen := bytesL_len hs n (Nat.le_refl _)
  have hle := h.le
  have he := prsA_ok (cs := cs) (off := off) hle
  have hk' : tkOk (prsA cs off n) 0 n = true := (prsA_tkOk n (Nat.le_refl _)).trans hk
  refine past_vc cutE_ok 1000 (tl_19 off n L t pg pn cs ty (prsA cs off n) (bytesL cs off n).toArray (bytesL cs off n).length) ?_ (fun _ _ h => h) (fun _ _ hb => n23_good (g23 ty L pg pn h hn hk) hb)
  rw [prsA_plB, prsA_plV, hlen]
  have hB : plB cs off n t = decide (0 ≤ t ∧ t < 32 * sumN cs off n) := rfl
  have hT := t23_ok
  by_cases c1 : 0 ≤ t
  · by_cases c2 : t < 32 * sumN cs off n
    · have hb : plB cs off n t = true := by rw [hB]; exact decide_eq_true ⟨c1, c2⟩
      have hv : plV cs off n t = intAt (bytesL cs off n).toArray t.toNat := by unfold plV; rw [if_pos hb]
      obtain ⟨x, hx⟩ := bytesL_int (cs := cs) (off := off) (n := n) (q := t.toNat) (by omega)
      have hI : IsInt .i64 (bytesL cs off n).toArray t.toNat := (is_of (by rw [List.getElem?_toArray]; exact hx)).2
      rw [hb, hv]
      simp only [Nat.zero_add, Nat.mul_one, decide_eq_true c2, decide_eq_true c1, ge_iff_le]
      refine ⟨⟨he, hk', ht, trivial⟩, fun _ => ⟨fun _ => ⟨fun _ => ⟨⟨⟨c1, c2⟩, trivial⟩, ⟨hI, trivial⟩, fun _ => ⟨fun hh => ?_, fun _ => ?_⟩, fun hh => ?_⟩, fun hh => ?_⟩, fun hh => ?_⟩, fun hh => ?_⟩
      all_goals first
        | (simp at hh; done)
        | (repeat' first | exact hT | exact trivial | exact rfl | apply And.intro)
    · have hb : plB cs off n t = false := by rw [hB]; exact decide_eq_false (by omega)
      have hv : plV cs off n t = 0 := by unfold plV; rw [hb]; rfl
      rw [hb, hv]
      simp only [decide_eq_false c2, decide_eq_true c1, ge_iff_le]
      refine ⟨⟨he, hk', ht, trivial⟩, fun _ => ⟨fun _ => ⟨fun hh => ?_, fun _ => ⟨fun _ => ⟨fun hh => ?_, fun _ => ?_⟩, fun hh => ?_⟩⟩, fun hh => ?_⟩, fun hh => ?_⟩
      all_goals first
        | (simp at hh; done)
        | (repeat' first | exact hT | exact trivial | exact rfl | apply And.intro)
  · have hb : plB cs off n t = false := by rw [hB]; exact decide_eq_false (by omega)
    have hv : plV cs off n t = 0 := by unfold plV; rw [hb]; rfl
    rw [hb, hv]
    simp only [decide_eq_false c1, ge_iff_le]
    refine ⟨⟨he, hk', ht, trivial⟩, fun hh => ?_, fun _ => ⟨fun _ => ⟨fun hh => ?_, fun _ => ?_⟩, fun hh => ?_⟩⟩
    all_goals first
      | (simp at hh; done)
      | (repeat' first | exact hT | exact trivial | exact rfl | apply And.intro)
end
end Go.Proofs.YtccbfkeigfnibaaDoor
/- Of extent: ExtentTells' runs, when there are chunks, from the start. No condition. -/
namespace Go.Proofs.YtccbfkeigfnibaaDoor
set_option maxRecDepth 100000
/-- What the document's answer and the program's say of one another. -/
structure R17 (v : V17) : Prop where
  i : v.isv = decide (v.want ≥ 0)
  p : v.putv = v.isv
  b : v.av = v.bv
  w : v.isv = true → v.av = v.want
  z : v.isv = false → v.av = 0
  l : v.yl = v.fl
section
variable {off n : Nat} {cs : Array Value} (ty : TypeId) (L s a t pg pn : Int) (h : PrOk cs off n) (hn : n ≠ 0) (ht : -9223372036854775808 ≤ t ∧ t ≤ 9223372036854775807)
include h hn ht
theorem g17 (hk : tkOk cs off n = true) (v : V17) (hv : R17 v) (hkk : v.k = (bytesL cs off n).length) : Good Tryd.prog (boolR true) 1 (s17 s a t pg pn v.k v.av v.isv v.want v.bv v.putv) (m17 off n L cs ty (prsA cs off n) (bytesL cs off n).toArray (prsA cs off n) v.fl v.yl) := by
  have hs := tkOk_small hk
  have hsum := sumN_le hs n (Nat.le_refl _)
  have hlen := bytesL_len hs n (Nat.le_refl _)
  have hle := h.le
  have he := prsA_ok (cs := cs) (off := off) hle
  have hk' : tkOk (prsA cs off n) 0 n = true := (prsA_tkOk n (Nat.le_refl _)).trans hk
  have hs' := tkOk_small hk'
  have heq := prsA_eq h
  obtain ⟨k, av, isv, want, bv, putv, fl, yl⟩ := v
  obtain ⟨e1, e2, e3, e4, e5, e6⟩ := hv
  simp only at e1 e2 e3 e4 e5 e6 hkk ⊢
  subst e2 e3 e6 hkk
  have eQ : ari .quo .i64 ((bytesL cs off n).length : Int) 32 = sumN (prsA cs off n) 0 n := by
    rw [prsA_sum n (Nat.le_refl _), hlen]
    show IntKind.i64.wrap (Int.tdiv (32 * sumN cs off n) 32) = _
    rw [Int.tdiv_eq_ediv_of_nonneg (by omega), Int.mul_ediv_cancel_left _ (by decide)]
    exact i64w (by omega)
  refine past_vc cutE_ok 1000 (tl_17 off n L s a t pg pn cs ty (prsA cs off n) (bytesL cs off n).toArray (prsA cs off n) yl yl (bytesL cs off n).length av putv want av putv) ?_ (fun _ _ h => h) (fun _ _ hb => n19_good (g19 ty L t pg pn h hn hk ht) hb)
  rw [eQ, ← e1]
  have hT := t19_ok
  cases putv with
  | true =>
    have e4 := e4 rfl
    subst e4
    refine ⟨fun _ => ⟨fun _ => ⟨fun _ => ⟨fun _ => ⟨fun _ => ⟨fun hh => ?_, fun _ => ⟨⟨rfl, rfl, heq, trivial⟩, ⟨he, hs', trivial⟩, fun hh => ?_, fun _ => ?_⟩⟩, fun hh => ?_⟩, fun hh => ?_⟩, fun hh => ?_⟩, fun hh => ?_⟩, fun hh => ?_⟩
    all_goals first
      | (simp at hh; done)
      | (repeat' first | exact hT | exact trivial | exact rfl | apply And.intro)
  | false =>
    have e5 := e5 rfl
    subst e5
    refine ⟨fun _ => ⟨fun _ => ⟨fun _ => ⟨fun hh => ?_, fun _ => ⟨fun _ => ⟨fun _ => ⟨⟨rfl, rfl, heq, trivial⟩, ⟨he, hs', trivial⟩, fun hh => ?_, fun _ => ?_⟩, fun hh => ?_⟩, fun hh => ?_⟩⟩, fun hh => ?_⟩, fun hh => ?_⟩, fun hh => ?_⟩
    all_goals first
      | (simp at hh; done)
      | (repeat' first | exact hT | exact trivial | exact rfl | apply And.intro)
theorem g10 (hm : mayE cs off n L = true) : Good Tryd.prog (boolR true) 1 (s10 s a t pg pn) (m10 off n L cs ty (prsA cs off n)) := by
  obtain ⟨hk, h0, hL⟩ := mayE_iff.1 hm
  have hs := tkOk_small hk
  have hsum := sumN_le hs n (Nat.le_refl _)
  have hle := h.le
  have he := prsA_ok (cs := cs) (off := off) hle
  have hk' : tkOk (prsA cs off n) 0 n = true := (prsA_tkOk n (Nat.le_refl _)).trans hk
  have hz := prsA_size cs off n
  refine past_vc cutE_ok 1000 (tl_10 off n L s a t pg pn cs ty (prsA cs off n) (fun v bs gs => R17 v ∧ v.k = (bytesL cs off n).length ∧ bs = (bytesL cs off n).toArray ∧ gs = prsA cs off n)) ?_ (fun _ _ h => h)
    (fun _ _ hb => n17_good (fun v bs gs ⟨h1, h2, h3, h4⟩ => by rw [h3, h4]; exact g17 ty L s a t pg pn h hn ht hk v h1 h2) hb)
  rw [prsA_sum n (Nat.le_refl _), prsA_whole]
  have hT := t17_ok
  have hneed1 : PrOk cs off n ∧ tkOk cs off n = true ∧ n ≠ 0 ∧ True := ⟨h, hk, hn, trivial⟩
  have hneed2 : PrOk (prsA cs off n) 0 n ∧ tkOk (prsA cs off n) 0 n = true ∧ 0 ≤ L ∧ L ≤ 32 * sumN cs off n ∧ True := ⟨he, hk', h0, hL, trivial⟩
  have hneed3 : PrOk cs off n ∧ tkOk cs off n = true ∧ 0 ≤ L ∧ L ≤ 32 * sumN cs off n ∧ n ≠ 0 ∧ True := ⟨h, hk, h0, hL, hn, trivial⟩
  have hneed4 : 0 + n * 2 ≤ (prsA cs off n).size ∧ ((0 + n) * 16 ≤ 140737488355328 ∧ 0 + n ≤ 140737488355328) ∧ True := ⟨by omega, ⟨by omega, by omega⟩, trivial⟩
  refine ⟨hneed1, hneed2, hneed3, hneed4, hneed2, fun hf => ?_, fun hf => ?_⟩
  · have hf : fitOk L s a (32 * sumN cs off n) = false := by simpa using hf
    have eR : fitR L s a (32 * sumN cs off n) = -1 := by unfold fitR; rw [hf]; rfl
    have eV : fitV L s a (32 * sumN cs off n) = 0 := by unfold fitV; rw [hf]; rfl
    rw [eR, eV, hf]
    refine ⟨fun hh => ?_, fun _ => ?_⟩
    · simp at hh
    · refine ⟨⟨⟨rfl, rfl, rfl, (fun e => by cases e), fun _ => rfl, rfl⟩, rfl, rfl, rfl⟩, rfl, hT, ?_⟩
      repeat' first | exact trivial | exact rfl | omega | apply And.intro
  · have hf : fitOk L s a (32 * sumN cs off n) = true := by simpa using hf
    have ho := (fitOk_iff.1 hf).1
    obtain ⟨u1, u2, _, _⟩ := upN_at h0 ho.2.2
    have eR : fitR L s a (32 * sumN cs off n) = upN L a := by unfold fitR; rw [if_pos hf]
    have eV : fitV L s a (32 * sumN cs off n) = upN L a := by unfold fitV; rw [if_pos hf]
    rw [eR, eV, hf]
    refine ⟨fun _ => ?_, fun hh => ?_⟩
    · refine ⟨⟨⟨(decide_eq_true (show upN L a ≥ 0 by omega)).symm, rfl, rfl, (fun _ => rfl), (fun e => by cases e), rfl⟩, rfl, rfl, rfl⟩, rfl, hT, ?_⟩
      repeat' first | exact trivial | exact rfl | omega | apply And.intro
    · have := of_decide_eq_false hh
      omega
theorem g0 : Good Tryd.prog (boolR true) 1 (tlC (extS off n L) s a t pg pn) (rwM true cs ty) := by
  have hle := h.le
  have he := prsA_ok (cs := cs) (off := off) hle
  refine run_vc cutE_ok 1000 (tl_0 off n L s a t pg pn cs ty (fun es => es = prsA cs off n ∧ mayE cs off n L = true)) ?_ (fun _ _ h => h)
    (fun _ _ hb => n10_good (fun es ⟨e1, e2⟩ => by rw [e1]; exact g10 ty L s a t pg pn h hn ht e2) hb)
  rw [need_dec, prsA_may]
  have hT := t10_ok
  refine ⟨fun hh => rfl, fun _ => ⟨⟨h, hn, trivial⟩, fun _ => ⟨fun _ => ⟨⟨he, trivial⟩, ⟨h, trivial⟩, fun hh => ?_, fun _ => ⟨⟨h, trivial⟩, fun _ => rfl, fun hm => ?_⟩⟩, fun hh => ?_⟩, fun hh => ?_⟩⟩
  · simp at hh
  · have hm : mayE cs off n L = true := by simpa using hm
    refine ⟨⟨rfl, hm⟩, rfl, hT, ?_⟩
    repeat' first | exact trivial | exact rfl | apply And.intro
  · simp at hh
  · simp at hh
end
end Go.Proofs.YtccbfkeigfnibaaDoor
/- Of extent: no chunks: the functions' runs. No condition. -/
namespace Go.Proofs.YtccbfkeigfnibaaDoor
noncomputable section
def zF : SF := .lit (.slice none 0 0)
def ezS (x : SF) (L : SI) : SV := .s (.agg (.ls [.f x, .f (.int .i64 L)]))
def M00 : SMem := ⟨0, .nil, []⟩
def my0 (L : Int) : Tree := run E0 1000 0 [callFr 9 Tryd.f9.ntmps [ezS zF (.o L)] (Tryd.f9.body.getD .skip)] M00
def mr0 (L : Int) : Tree := run E0 1000 0 [callFr 10 Tryd.f10.ntmps [ezS .e0 (.o L)] (Tryd.f10.body.getD .skip)] M00
def ft0 (L s a : Int) : Tree := run E0 1000 0 [callFr 12 Tryd.f12.ntmps [ezS zF (.o L), i64 (.o s), i64 (.o a)] (Tryd.f12.body.getD .skip)] M00
def pl0 (L t : Int) : Tree := run E0 1000 0 [callFr 17 Tryd.f17.ntmps [ezS zF (.o L), i64 (.o t)] (Tryd.f17.body.getD .skip)] M00
def isF13 (x : SIt) : Bool := isLoop x
def E13 : Env := ⟨Tryd.prog, fnOf, fun _ _ _ => none, fun _ f x => Nat.beq f 13 && isLoop x⟩
def fr0 (L s a : Int) : Tree := run E13 1000 0 [callFr 13 Tryd.f13.ntmps [ezS .e0 (.o L), i64 (.o s), i64 (.o a)] (Tryd.f13.body.getD .skip)] M00
def fr0F (s a l t : Int) : List SFr := reTm [tmOf Tryd.f13.ntmps [(1, i64 (.o s)), (2, i64 (.o a)), (7, i64 (.o l)), (8, i64 (.o t))]] (fr0 0 0 0).fsE
def fr0N (s a : Int) (Q : Int → Int → Prop) (fs : List SFr) (m : SMem) : Prop := match fs with
  | f :: _ => match rdI f 7, rdI f 8 with
    | some l, some t => Q l t ∧ subOk 0 [] (fr0F s a l t) M00 fs m
    | _, _ => False
  | [] => False
def fr0S (s a l t : Int) : Tree := stepT E13.go (run E13 1000) 0 (headF (fr0F s a l t)) M00
def fr0T : List SIt := headTd (fr0F 0 0 0 0)
end
theorem E13_ok : EnvOk E13 := EnvOk.with E0_ok _ _ fun _ _ _ _ h => by cases h
end Go.Proofs.YtccbfkeigfnibaaDoor
/- Of extent: no chunks: the functions' runs, as propositions. No condition. -/
namespace Go.Proofs.YtccbfkeigfnibaaDoor
set_option maxRecDepth 100000
theorem my0_vc (L : Int) (r : Bool) : (my0 L).vc (boolR r) (fun _ _ => False) =
    (((decide (L ≥ (0 : Int)) == true) = true → decide (L ≤ (0 : Int)) = r) ∧ ((decide (L ≥ (0 : Int)) == true) = false → false = r)) := by kernel_rfl
theorem mr0_vc (L : Int) (r : Bool) : (mr0 L).vc (boolR r) (fun _ _ => False) =
    (((decide (L ≥ (0 : Int)) == true) = true → decide (L ≤ (0 : Int)) = r) ∧ ((decide (L ≥ (0 : Int)) == true) = false → false = r)) := by kernel_rfl
theorem ft0_vc (L s a : Int) (x : Int) (r : Bool) : (ft0 L s a).vc (pairR x r) (fun _ _ => False) =
    (((decide (s ≥ (1 : Int)) == true) = true → ((decide (s ≤ (128 : Int)) == true) = true → (((a == (1 : Int)) == false) = true → (((a == (2 : Int)) == false) = true → (((a == (4 : Int)) == false) = true → ((!a == (8 : Int)) = true → (0 : Int) = x ∧ false = r) ∧ ((!a == (8 : Int)) = false → (a ≠ (0 : Int) ∧ True) ∧ (decide (s > ari BinOp.sub IntKind.i64 (0 : Int) (ari BinOp.mul IntKind.i64 (ari BinOp.quo IntKind.i64 (ari BinOp.sub IntKind.i64 (ari BinOp.add IntKind.i64 L a) (1 : Int)) a) a)) = true → (0 : Int) = x ∧ false = r) ∧ (decide (s > ari BinOp.sub IntKind.i64 (0 : Int) (ari BinOp.mul IntKind.i64 (ari BinOp.quo IntKind.i64 (ari BinOp.sub IntKind.i64 (ari BinOp.add IntKind.i64 L a) (1 : Int)) a) a)) = false → ari BinOp.mul IntKind.i64 (ari BinOp.quo IntKind.i64 (ari BinOp.sub IntKind.i64 (ari BinOp.add IntKind.i64 L a) (1 : Int)) a) a = x ∧ true = r))) ∧ (((a == (4 : Int)) == false) = false → (a ≠ (0 : Int) ∧ True) ∧ (decide (s > ari BinOp.sub IntKind.i64 (0 : Int) (ari BinOp.mul IntKind.i64 (ari BinOp.quo IntKind.i64 (ari BinOp.sub IntKind.i64 (ari BinOp.add IntKind.i64 L a) (1 : Int)) a) a)) = true → (0 : Int) = x ∧ false = r) ∧ (decide (s > ari BinOp.sub IntKind.i64 (0 : Int) (ari BinOp.mul IntKind.i64 (ari BinOp.quo IntKind.i64 (ari BinOp.sub IntKind.i64 (ari BinOp.add IntKind.i64 L a) (1 : Int)) a) a)) = false → ari BinOp.mul IntKind.i64 (ari BinOp.quo IntKind.i64 (ari BinOp.sub IntKind.i64 (ari BinOp.add IntKind.i64 L a) (1 : Int)) a) a = x ∧ true = r))) ∧ (((a == (2 : Int)) == false) = false → (a ≠ (0 : Int) ∧ True) ∧ (decide (s > ari BinOp.sub IntKind.i64 (0 : Int) (ari BinOp.mul IntKind.i64 (ari BinOp.quo IntKind.i64 (ari BinOp.sub IntKind.i64 (ari BinOp.add IntKind.i64 L a) (1 : Int)) a) a)) = true → (0 : Int) = x ∧ false = r) ∧ (decide (s > ari BinOp.sub IntKind.i64 (0 : Int) (ari BinOp.mul IntKind.i64 (ari BinOp.quo IntKind.i64 (ari BinOp.sub IntKind.i64 (ari BinOp.add IntKind.i64 L a) (1 : Int)) a) a)) = false → ari BinOp.mul IntKind.i64 (ari BinOp.quo IntKind.i64 (ari BinOp.sub IntKind.i64 (ari BinOp.add IntKind.i64 L a) (1 : Int)) a) a = x ∧ true = r))) ∧ (((a == (1 : Int)) == false) = false → (a ≠ (0 : Int) ∧ True) ∧ (decide (s > ari BinOp.sub IntKind.i64 (0 : Int) (ari BinOp.mul IntKind.i64 (ari BinOp.quo IntKind.i64 (ari BinOp.sub IntKind.i64 (ari BinOp.add IntKind.i64 L a) (1 : Int)) a) a)) = true → (0 : Int) = x ∧ false = r) ∧ (decide (s > ari BinOp.sub IntKind.i64 (0 : Int) (ari BinOp.mul IntKind.i64 (ari BinOp.quo IntKind.i64 (ari BinOp.sub IntKind.i64 (ari BinOp.add IntKind.i64 L a) (1 : Int)) a) a)) = false → ari BinOp.mul IntKind.i64 (ari BinOp.quo IntKind.i64 (ari BinOp.sub IntKind.i64 (ari BinOp.add IntKind.i64 L a) (1 : Int)) a) a = x ∧ true = r))) ∧ ((decide (s ≤ (128 : Int)) == true) = false → (0 : Int) = x ∧ false = r)) ∧ ((decide (s ≥ (1 : Int)) == true) = false → (0 : Int) = x ∧ false = r)) := by kernel_rfl
theorem pl0_vc (L t : Int) (x : Int) (r : Bool) : (pl0 L t).vc (pairR x r) (fun _ _ => False) =
    ((0 : Int) = x ∧ false = r) := by kernel_rfl
theorem fr0_vc (L s a : Int) (r : Int) (Q : Int → Int → Prop) : (fr0 L s a).vc (intR r) (fr0N s a Q) =
    (Q (0 : Int) L ∧ CallKind.normal = CallKind.normal ∧ TodoOk (ren 0 []) fr0T fr0T ∧ s = s ∧ (0 : Int) = (0 : Int) ∧ a = a ∧ L = L ∧ True) := by kernel_rfl
theorem fr0s_vc (s a l t : Int) (r : Int) : (fr0S s a l t).vc (intR r) (fun _ _ => False) =
    (((decide (s ≥ (1 : Int)) == true) = true → ((decide (s ≤ (128 : Int)) == true) = true → (((a == (1 : Int)) == false) = true → (((a == (2 : Int)) == false) = true → (((a == (4 : Int)) == false) = true → (((a == (8 : Int)) == true) = true → (decide (ari BinOp.add IntKind.i64 t s ≤ l) = true → (a ≠ (0 : Int) ∧ True) ∧ ((ari BinOp.rem IntKind.i64 t a == (0 : Int)) = true → t = r) ∧ ((ari BinOp.rem IntKind.i64 t a == (0 : Int)) = false → False)) ∧ (decide (ari BinOp.add IntKind.i64 t s ≤ l) = false → (-1 : Int) = r)) ∧ (((a == (8 : Int)) == true) = false → (-1 : Int) = r)) ∧ (((a == (4 : Int)) == false) = false → (decide (ari BinOp.add IntKind.i64 t s ≤ l) = true → (a ≠ (0 : Int) ∧ True) ∧ ((ari BinOp.rem IntKind.i64 t a == (0 : Int)) = true → t = r) ∧ ((ari BinOp.rem IntKind.i64 t a == (0 : Int)) = false → False)) ∧ (decide (ari BinOp.add IntKind.i64 t s ≤ l) = false → (-1 : Int) = r))) ∧ (((a == (2 : Int)) == false) = false → (decide (ari BinOp.add IntKind.i64 t s ≤ l) = true → (a ≠ (0 : Int) ∧ True) ∧ ((ari BinOp.rem IntKind.i64 t a == (0 : Int)) = true → t = r) ∧ ((ari BinOp.rem IntKind.i64 t a == (0 : Int)) = false → False)) ∧ (decide (ari BinOp.add IntKind.i64 t s ≤ l) = false → (-1 : Int) = r))) ∧ (((a == (1 : Int)) == false) = false → (decide (ari BinOp.add IntKind.i64 t s ≤ l) = true → (a ≠ (0 : Int) ∧ True) ∧ ((ari BinOp.rem IntKind.i64 t a == (0 : Int)) = true → t = r) ∧ ((ari BinOp.rem IntKind.i64 t a == (0 : Int)) = false → False)) ∧ (decide (ari BinOp.add IntKind.i64 t s ≤ l) = false → (-1 : Int) = r))) ∧ ((decide (s ≤ (128 : Int)) == true) = false → (-1 : Int) = r)) ∧ ((decide (s ≥ (1 : Int)) == true) = false → (-1 : Int) = r)) := by kernel_rfl
end Go.Proofs.YtccbfkeigfnibaaDoor
/- Of extent: no chunks: the functions as contracts. No condition. -/
namespace Go.Proofs.YtccbfkeigfnibaaDoor
set_option maxRecDepth 100000
theorem Con.flat {g : FuncId} {fn : Func} {c : Code} {l l' : List SV} {m : SMem} {q : List Prop} {s0 : SV} {A : SV → SMem → Prop} (h1 : E0.fn g = some fn) (h2 : fn.body = some c) (hl : ∀ R R' vs, All2 (SV.ok R) l vs → All2 (SV.ok R') l' vs)
    (good : (∀ p ∈ q, p) → Good Tryd.prog A 0 [callFr g fn.ntmps l' c] M00) (hs : ∀ s m' R R' v, A s m' → s.ok R' v → s0.ok R v) : Con E0 g l m (needs q (.ret s0 m)) :=
  Con.ro E0_ok (l' := l') (ms := M00) (m := m) (q := q) h1 h2 rfl (fun i => i) (fun i b hb => by
    have hb : (Tr.nil : Tr SBlk).get i = some b := hb
    rw [Tr.get_nil] at hb; cases hb) (fun R vs ha => hl R _ vs ha) good hs
theorem ez_ok {x : SF} {L : SI} (hx : ∀ R R' v, x.ok R v → x.ok R' v) {R R' : Ren} {v : Value} (h : (ezS x L).ok R v) : (ezS x (.o L.den)).ok R' v := by
  obtain ⟨ds, e, hd⟩ := h
  refine ⟨ds, e, ?_⟩
  have hd : All2 (SC.ok R) [.f x, .f (.int .i64 L)] ds.toList := hd
  show All2 (SC.ok R') [.f x, .f (.int .i64 (.o L.den))] ds.toList
  generalize ds.toList = T at hd ⊢
  match T, hd with
  | [a, b], hd => exact ⟨hx _ _ _ hd.1, hd.2.1, trivial⟩
theorem pairR_ok {x : Int} {b : Bool} {s : SV} {m' : SMem} {R R' : Ren} {u : Value} (h : pairR x b s m') (hv : s.ok R' u) : (SV.tup [.c (.f (.int .i64 (.o x))), .c (.f (.bool (.o b)))]).ok R u := by
  unfold pairR at h
  split at h
  · obtain ⟨e1, e2⟩ := h
    obtain ⟨vs, rfl, hl⟩ := hv
    refine ⟨vs, rfl, ?_⟩
    generalize vs.toList = T at hl ⊢
    match T, hl with
    | [a, b], hl =>
      obtain ⟨ha, hb, _⟩ := hl
      have ha : a = .int .i64 _ := ha
      have hb : b = .bool _ := hb
      rw [e1] at ha
      rw [e2] at hb
      exact ⟨ha, hb, trivial⟩
  · exact h.elim
theorem zF_ok (R R' : Ren) (v : Value) (h : zF.ok R v) : zF.ok R' v := h
theorem e0_ok (R R' : Ren) (v : Value) (h : SF.e0.ok R v) : SF.e0.ok R' v := h
theorem my0_con (L : SI) (m : SMem) : Con E0 9 [ezS zF L] m (needs [] (.ret (sB (.o (decide (L.den = 0)))) m)) :=
  Con.flat (l' := [ezS zF (.o L.den)]) (A := boolR (decide (L.den = 0))) (by kernel_rfl : E0.fn 9 = some Tryd.f9) (by kernel_rfl : Tryd.f9.body = some (Tryd.f9.body.getD .skip)) (fun R R' vs h => match vs, h with | [_], h => ⟨ez_ok zF_ok h.1, trivial⟩)
    (fun _ => by
      generalize L.den = L
      refine run_vc E0_ok 1000 (my0_vc L (decide (L = 0))) ?_ (fun _ _ h => h) (fun _ _ h => h.elim)
      refine ⟨fun h => ?_, fun h => ?_⟩
      · have h : 0 ≤ L := by simpa using h
        exact decide_eq_decide.2 (by omega)
      · have h : ¬ 0 ≤ L := by simpa using h
        exact (decide_eq_false (by omega)).symm) (fun _ _ _ _ _ => boolR_ok)
theorem mr0_con (L : SI) (m : SMem) : Con E0 10 [ezS .e0 L] m (needs [] (.ret (sB (.o (decide (L.den = 0)))) m)) :=
  Con.flat (l' := [ezS .e0 (.o L.den)]) (A := boolR (decide (L.den = 0))) (by kernel_rfl : E0.fn 10 = some Tryd.f10) (by kernel_rfl : Tryd.f10.body = some (Tryd.f10.body.getD .skip)) (fun R R' vs h => match vs, h with | [_], h => ⟨ez_ok e0_ok h.1, trivial⟩)
    (fun _ => by
      generalize L.den = L
      refine run_vc E0_ok 1000 (mr0_vc L (decide (L = 0))) ?_ (fun _ _ h => h) (fun _ _ h => h.elim)
      refine ⟨fun h => ?_, fun h => ?_⟩
      · have h : 0 ≤ L := by simpa using h
        exact decide_eq_decide.2 (by omega)
      · have h : ¬ 0 ≤ L := by simpa using h
        exact (decide_eq_false (by omega)).symm) (fun _ _ _ _ _ => boolR_ok)
theorem pl0_con (L t : SI) (m : SMem) : Con E0 17 [ezS zF L, i64 t] m (needs [] (.ret (.tup [.c (.f (.int .i64 (.o 0))), .c (.f (.bool (.o false)))]) m)) :=
  Con.flat (l' := [ezS zF (.o L.den), i64 (.o t.den)]) (A := pairR 0 false) (by kernel_rfl : E0.fn 17 = some Tryd.f17) (by kernel_rfl : Tryd.f17.body = some (Tryd.f17.body.getD .skip)) (fun R R' vs h => match vs, h with | [_, _], h => ⟨ez_ok zF_ok h.1, h.2.1, trivial⟩)
    (fun _ => run_vc E0_ok 1000 (pl0_vc L.den t.den 0 false) ⟨rfl, rfl⟩ (fun _ _ h => h) (fun _ _ h => h.elim)) (fun _ _ _ _ _ => pairR_ok)
theorem ft0_con (L s a : SI) (m : SMem) : Con E0 12 [ezS zF L, i64 s, i64 a] m (needs [L.den = 0] (.ret (.tup [.c (.f (.int .i64 (.o 0))), .c (.f (.bool (.o false)))]) m)) :=
  Con.flat (l' := [ezS zF (.o L.den), i64 (.o s.den), i64 (.o a.den)]) (A := pairR 0 false) (by kernel_rfl : E0.fn 12 = some Tryd.f12) (by kernel_rfl : Tryd.f12.body = some (Tryd.f12.body.getD .skip)) (fun R R' vs h => match vs, h with | [_, _, _], h => ⟨ez_ok zF_ok h.1, h.2.1, h.2.2.1, trivial⟩)
    (fun hq => by
      have h0 : L.den = 0 := hq _ (by simp)
      rw [h0]
      generalize s.den = s
      generalize a.den = a
      refine run_vc E0_ok 1000 (ft0_vc 0 s a 0 false) ?_ (fun _ _ h => h) (fun _ _ h => h.elim)
      have eV : (a = 1 ∨ a = 2 ∨ a = 4 ∨ a = 8) → ari .sub .i64 0 (ari .mul .i64 (ari .quo .i64 (ari .sub .i64 (ari .add .i64 0 a) 1) a) a) = 0 := fun h => by
        rcases h with rfl | rfl | rfl | rfl <;> decide
      have no2 : 1 ≤ s → (a = 1 ∨ a = 2 ∨ a = 4 ∨ a = 8) → ¬ s > ari .sub .i64 0 (ari .mul .i64 (ari .quo .i64 (ari .sub .i64 (ari .add .i64 0 a) 1) a) a) → False := fun h1 h2 h3 => by
        rw [eV h2] at h3
        omega
      generalize ari .mul .i64 (ari .quo .i64 (ari .sub .i64 (ari .add .i64 0 a) 1) a) a = U at *
      generalize ari .sub .i64 0 U = V at *
      clear eV
      simp only [decide_eq_true_eq, beq_iff_eq, beq_eq_false_iff_ne, decide_eq_false_iff_not, ne_eq, beq_true, beq_false, Bool.not_eq_eq_eq_not, Bool.not_true, Bool.not_false]
      repeat' first | apply And.intro | (intro hh)
      all_goals first
        | exact trivial
        | exact rfl
        | omega
        | exact (no2 (by omega) (by omega) (by assumption)).elim) (fun _ _ _ _ _ => pairR_ok)
theorem fr0T_ok : TodoOk (ren 0 []) fr0T fr0T := TodoOk.same (by kernel_rfl)
theorem fr0_good (s a : Int) : Good Tryd.prog (intR (-1)) 0 [callFr 13 Tryd.f13.ntmps [ezS .e0 (.o 0), i64 (.o s), i64 (.o a)] (Tryd.f13.body.getD .skip)] M00 := by
  refine run_vc E13_ok 1000 (fr0_vc 0 s a (-1) (fun l t => l = 0 ∧ t = 0)) ?_ (fun _ _ h => h) (fun fs m hb => ?_)
  · have hT := fr0T_ok
    repeat' first | exact hT | exact trivial | exact rfl | apply And.intro
  · unfold fr0N at hb
    split at hb
    · split at hb
      · obtain ⟨⟨e1, e2⟩, hs⟩ := hb
        rw [e1, e2] at hs
        refine Good.of_sub hs (Good.head ?_)
        refine past_vc E13_ok 1000 (fr0s_vc s a 0 0 (-1)) ?_ (fun _ _ h => h) (fun _ _ h => h.elim)
        have no2 : 1 ≤ s → s ≤ 128 → ari .add .i64 0 s ≤ 0 → False := fun h1 h2 h3 => by
          rw [ari_add, i64w (by omega)] at h3
          omega
        simp only [decide_eq_true_eq, beq_iff_eq, beq_eq_false_iff_ne, decide_eq_false_iff_not, ne_eq, beq_true, beq_false, Bool.not_eq_eq_eq_not, Bool.not_true, Bool.not_false]
        repeat' first | apply And.intro | (intro hh)
        all_goals first
          | exact trivial
          | exact rfl
          | omega
          | exact (no2 (by omega) (by omega) (by assumption)).elim
      · exact hb.elim
    · exact hb.elim
theorem fr0_con (L s a : SI) (m : SMem) : Con E0 13 [ezS .e0 L, i64 s, i64 a] m (needs [L.den = 0] (.ret (i64 (.o (-1))) m)) :=
  Con.flat (l' := [ezS .e0 (.o L.den), i64 (.o s.den), i64 (.o a.den)]) (A := intR (-1)) (by kernel_rfl : E0.fn 13 = some Tryd.f13) (by kernel_rfl : Tryd.f13.body = some (Tryd.f13.body.getD .skip)) (fun R R' vs h => match vs, h with | [_, _, _], h => ⟨ez_ok e0_ok h.1, h.2.1, h.2.2.1, trivial⟩)
    (fun hq => by
      have h0 : L.den = 0 := hq _ (by simp)
      rw [h0]
      exact fr0_good s.den a.den) (fun _ _ _ _ _ => intR_ok)
noncomputable section
def conU (g : FuncId) (l : List SV) (m : SMem) : Option Tree := match g, l with
  | 5, [] => some (needs [] (.ret (sB (.l true)) m))
  | 7, [.s (.c (.f (.int .i64 s))), .s (.c (.f (.int .i64 a)))] => some (needs [] (prT (needN s.den a.den) (objB s.den a.den) m))
  | 8, [.s (.c (.f (.int .i64 s))), .s (.c (.f (.int .i64 a)))] => some (needs [] (.ret (i64 (.o (needN s.den a.den))) m))
  | 9, [.s (.agg (.ls [.f (.lit (.slice none 0 0)), .f (.int .i64 L)]))] => some (needs [] (.ret (sB (.o (decide (L.den = 0)))) m))
  | 10, [.s (.agg (.ls [.f .e0, .f (.int .i64 L)]))] => some (needs [] (.ret (sB (.o (decide (L.den = 0)))) m))
  | 12, [.s (.agg (.ls [.f (.lit (.slice none 0 0)), .f (.int .i64 L)])), .s (.c (.f (.int .i64 _))), .s (.c (.f (.int .i64 _)))] => some (needs [L.den = 0] (prT 0 false m))
  | 13, [.s (.agg (.ls [.f .e0, .f (.int .i64 L)])), .s (.c (.f (.int .i64 _))), .s (.c (.f (.int .i64 _)))] => some (needs [L.den = 0] (.ret (i64 (.o (-1))) m))
  | 17, [.s (.agg (.ls [.f (.lit (.slice none 0 0)), .f (.int .i64 _)])), .s (.c (.f (.int .i64 _)))] => some (needs [] (prT 0 false m))
  | _, _ => none
def EU : Env := ⟨Tryd.prog, fnOf, conU, fun _ _ _ => false⟩
def tl0 (L s a t pg pn : Int) : Tree := run EU 1000 1 (tlC (ezS .e0 (.o L)) s a t pg pn) ⟨1, .nil, []⟩
end
theorem conU_ok : ∀ g l m t, conU g l m = some t → Con E0 g l m t := by
  intro g l m t h
  unfold conU at h
  split at h
  · cases h; exact wakes_con m
  · cases h; exact nds_con _ _ m
  · cases h
    refine Con.args (need_con _ _ m) fun R vs ha => ?_
    match vs, ha with
    | [x, y], ha => exact ⟨ha.1, ha.2.1, trivial⟩
  · cases h; exact my0_con _ m
  · cases h; exact mr0_con _ m
  · cases h; exact ft0_con _ _ _ m
  · cases h; exact fr0_con _ _ _ m
  · cases h; exact pl0_con _ _ m
  · cases h
theorem EU_ok : EnvOk EU := EnvOk.with E0_ok _ _ conU_ok
end Go.Proofs.YtccbfkeigfnibaaDoor
/- Of extent: no chunks: the law, as a proposition. No condition. -/
namespace Go.Proofs.YtccbfkeigfnibaaDoor
set_option maxRecDepth 100000
theorem tl0_vc (L s a t pg pn : Int) : (tl0 L s a t pg pn).vc (boolR true) (fun _ _ => False) =
    ((((needN s a != needN s a) == false) = true → (((!objB s a == decide (needN s a > (0 : Int))) == false) = true → ((!decide (L = (0 : Int)) == decide (L = (0 : Int))) = true → false = true) ∧ ((!decide (L = (0 : Int)) == decide (L = (0 : Int))) = false → ((!decide (L = (0 : Int))) = true → true = true) ∧ ((!decide (L = (0 : Int))) = false → (L = (0 : Int) ∧ True) ∧ (L = (0 : Int) ∧ True) ∧ (L = (0 : Int) ∧ True) ∧ (true = true → (false = true → (true = true → (true = true → (true = true → (false = true → (false = true → (true = true → (true = true → ((L != ari BinOp.add IntKind.i64 (-1 : Int) s) = true → false = true) ∧ ((L != ari BinOp.add IntKind.i64 (-1 : Int) s) = false → ((decide (t ≥ (0 : Int)) == true) = true → (((!false == decide (t < (0 : Int))) == false) = true → ((decide (t < (0 : Int)) == true) = true → False) ∧ ((decide (t < (0 : Int)) == true) = false → (((!decide (t < (0 : Int))) == true) = true → (false = true → false = true) ∧ (false = false → (((pg != pg) == false) = true → ((pn != pn) = true → false = true) ∧ ((pn != pn) = false → ((L != L) = true → false = true) ∧ ((L != L) = false → true = true))) ∧ (((pg != pg) == false) = false → false = true))) ∧ (((!decide (t < (0 : Int))) == true) = false → (((pg != pg) == false) = true → ((pn != pn) = true → false = true) ∧ ((pn != pn) = false → ((L != L) = true → false = true) ∧ ((L != L) = false → true = true))) ∧ (((pg != pg) == false) = false → false = true)))) ∧ (((!false == decide (t < (0 : Int))) == false) = false → false = true)) ∧ ((decide (t ≥ (0 : Int)) == true) = false → (true = true → (false = true → false = true) ∧ (false = false → (((pg != pg) == false) = true → ((pn != pn) = true → false = true) ∧ ((pn != pn) = false → ((L != L) = true → false = true) ∧ ((L != L) = false → true = true))) ∧ (((pg != pg) == false) = false → false = true))) ∧ (true = false → false = true)))) ∧ (true = false → false = true)) ∧ (true = false → ((L != ari BinOp.add IntKind.i64 (-1 : Int) s) = true → false = true) ∧ ((L != ari BinOp.add IntKind.i64 (-1 : Int) s) = false → ((decide (t ≥ (0 : Int)) == true) = true → (((!false == decide (t < (0 : Int))) == false) = true → ((decide (t < (0 : Int)) == true) = true → False) ∧ ((decide (t < (0 : Int)) == true) = false → (((!decide (t < (0 : Int))) == true) = true → (false = true → false = true) ∧ (false = false → (((pg != pg) == false) = true → ((pn != pn) = true → false = true) ∧ ((pn != pn) = false → ((L != L) = true → false = true) ∧ ((L != L) = false → true = true))) ∧ (((pg != pg) == false) = false → false = true))) ∧ (((!decide (t < (0 : Int))) == true) = false → (((pg != pg) == false) = true → ((pn != pn) = true → false = true) ∧ ((pn != pn) = false → ((L != L) = true → false = true) ∧ ((L != L) = false → true = true))) ∧ (((pg != pg) == false) = false → false = true)))) ∧ (((!false == decide (t < (0 : Int))) == false) = false → false = true)) ∧ ((decide (t ≥ (0 : Int)) == true) = false → (true = true → (false = true → false = true) ∧ (false = false → (((pg != pg) == false) = true → ((pn != pn) = true → false = true) ∧ ((pn != pn) = false → ((L != L) = true → false = true) ∧ ((L != L) = false → true = true))) ∧ (((pg != pg) == false) = false → false = true))) ∧ (true = false → false = true))))) ∧ (false = false → false = true)) ∧ (false = false → (true = true → (true = true → ((L != ari BinOp.add IntKind.i64 (-1 : Int) s) = true → false = true) ∧ ((L != ari BinOp.add IntKind.i64 (-1 : Int) s) = false → ((decide (t ≥ (0 : Int)) == true) = true → (((!false == decide (t < (0 : Int))) == false) = true → ((decide (t < (0 : Int)) == true) = true → False) ∧ ((decide (t < (0 : Int)) == true) = false → (((!decide (t < (0 : Int))) == true) = true → (false = true → false = true) ∧ (false = false → (((pg != pg) == false) = true → ((pn != pn) = true → false = true) ∧ ((pn != pn) = false → ((L != L) = true → false = true) ∧ ((L != L) = false → true = true))) ∧ (((pg != pg) == false) = false → false = true))) ∧ (((!decide (t < (0 : Int))) == true) = false → (((pg != pg) == false) = true → ((pn != pn) = true → false = true) ∧ ((pn != pn) = false → ((L != L) = true → false = true) ∧ ((L != L) = false → true = true))) ∧ (((pg != pg) == false) = false → false = true)))) ∧ (((!false == decide (t < (0 : Int))) == false) = false → false = true)) ∧ ((decide (t ≥ (0 : Int)) == true) = false → (true = true → (false = true → false = true) ∧ (false = false → (((pg != pg) == false) = true → ((pn != pn) = true → false = true) ∧ ((pn != pn) = false → ((L != L) = true → false = true) ∧ ((L != L) = false → true = true))) ∧ (((pg != pg) == false) = false → false = true))) ∧ (true = false → false = true)))) ∧ (true = false → false = true)) ∧ (true = false → ((L != ari BinOp.add IntKind.i64 (-1 : Int) s) = true → false = true) ∧ ((L != ari BinOp.add IntKind.i64 (-1 : Int) s) = false → ((decide (t ≥ (0 : Int)) == true) = true → (((!false == decide (t < (0 : Int))) == false) = true → ((decide (t < (0 : Int)) == true) = true → False) ∧ ((decide (t < (0 : Int)) == true) = false → (((!decide (t < (0 : Int))) == true) = true → (false = true → false = true) ∧ (false = false → (((pg != pg) == false) = true → ((pn != pn) = true → false = true) ∧ ((pn != pn) = false → ((L != L) = true → false = true) ∧ ((L != L) = false → true = true))) ∧ (((pg != pg) == false) = false → false = true))) ∧ (((!decide (t < (0 : Int))) == true) = false → (((pg != pg) == false) = true → ((pn != pn) = true → false = true) ∧ ((pn != pn) = false → ((L != L) = true → false = true) ∧ ((L != L) = false → true = true))) ∧ (((pg != pg) == false) = false → false = true)))) ∧ (((!false == decide (t < (0 : Int))) == false) = false → false = true)) ∧ ((decide (t ≥ (0 : Int)) == true) = false → (true = true → (false = true → false = true) ∧ (false = false → (((pg != pg) == false) = true → ((pn != pn) = true → false = true) ∧ ((pn != pn) = false → ((L != L) = true → false = true) ∧ ((L != L) = false → true = true))) ∧ (((pg != pg) == false) = false → false = true))) ∧ (true = false → false = true)))))) ∧ (true = false → false = true)) ∧ (true = false → false = true)) ∧ (true = false → false = true)) ∧ (false = false → (true = true → (true = true → (true = true → (false = true → (false = true → (true = true → (true = true → ((L != L) = true → false = true) ∧ ((L != L) = false → ((decide (t ≥ (0 : Int)) == true) = true → (((!false == decide (t < (0 : Int))) == false) = true → ((decide (t < (0 : Int)) == true) = true → False) ∧ ((decide (t < (0 : Int)) == true) = false → (((!decide (t < (0 : Int))) == true) = true → (false = true → false = true) ∧ (false = false → (((pg != pg) == false) = true → ((pn != pn) = true → false = true) ∧ ((pn != pn) = false → ((L != L) = true → false = true) ∧ ((L != L) = false → true = true))) ∧ (((pg != pg) == false) = false → false = true))) ∧ (((!decide (t < (0 : Int))) == true) = false → (((pg != pg) == false) = true → ((pn != pn) = true → false = true) ∧ ((pn != pn) = false → ((L != L) = true → false = true) ∧ ((L != L) = false → true = true))) ∧ (((pg != pg) == false) = false → false = true)))) ∧ (((!false == decide (t < (0 : Int))) == false) = false → false = true)) ∧ ((decide (t ≥ (0 : Int)) == true) = false → (true = true → (false = true → false = true) ∧ (false = false → (((pg != pg) == false) = true → ((pn != pn) = true → false = true) ∧ ((pn != pn) = false → ((L != L) = true → false = true) ∧ ((L != L) = false → true = true))) ∧ (((pg != pg) == false) = false → false = true))) ∧ (true = false → false = true)))) ∧ (true = false → false = true)) ∧ (true = false → ((L != L) = true → false = true) ∧ ((L != L) = false → ((decide (t ≥ (0 : Int)) == true) = true → (((!false == decide (t < (0 : Int))) == false) = true → ((decide (t < (0 : Int)) == true) = true → False) ∧ ((decide (t < (0 : Int)) == true) = false → (((!decide (t < (0 : Int))) == true) = true → (false = true → false = true) ∧ (false = false → (((pg != pg) == false) = true → ((pn != pn) = true → false = true) ∧ ((pn != pn) = false → ((L != L) = true → false = true) ∧ ((L != L) = false → true = true))) ∧ (((pg != pg) == false) = false → false = true))) ∧ (((!decide (t < (0 : Int))) == true) = false → (((pg != pg) == false) = true → ((pn != pn) = true → false = true) ∧ ((pn != pn) = false → ((L != L) = true → false = true) ∧ ((L != L) = false → true = true))) ∧ (((pg != pg) == false) = false → false = true)))) ∧ (((!false == decide (t < (0 : Int))) == false) = false → false = true)) ∧ ((decide (t ≥ (0 : Int)) == true) = false → (true = true → (false = true → false = true) ∧ (false = false → (((pg != pg) == false) = true → ((pn != pn) = true → false = true) ∧ ((pn != pn) = false → ((L != L) = true → false = true) ∧ ((L != L) = false → true = true))) ∧ (((pg != pg) == false) = false → false = true))) ∧ (true = false → false = true))))) ∧ (false = false → false = true)) ∧ (false = false → (true = true → (true = true → ((L != L) = true → false = true) ∧ ((L != L) = false → ((decide (t ≥ (0 : Int)) == true) = true → (((!false == decide (t < (0 : Int))) == false) = true → ((decide (t < (0 : Int)) == true) = true → False) ∧ ((decide (t < (0 : Int)) == true) = false → (((!decide (t < (0 : Int))) == true) = true → (false = true → false = true) ∧ (false = false → (((pg != pg) == false) = true → ((pn != pn) = true → false = true) ∧ ((pn != pn) = false → ((L != L) = true → false = true) ∧ ((L != L) = false → true = true))) ∧ (((pg != pg) == false) = false → false = true))) ∧ (((!decide (t < (0 : Int))) == true) = false → (((pg != pg) == false) = true → ((pn != pn) = true → false = true) ∧ ((pn != pn) = false → ((L != L) = true → false = true) ∧ ((L != L) = false → true = true))) ∧ (((pg != pg) == false) = false → false = true)))) ∧ (((!false == decide (t < (0 : Int))) == false) = false → false = true)) ∧ ((decide (t ≥ (0 : Int)) == true) = false → (true = true → (false = true → false = true) ∧ (false = false → (((pg != pg) == false) = true → ((pn != pn) = true → false = true) ∧ ((pn != pn) = false → ((L != L) = true → false = true) ∧ ((L != L) = false → true = true))) ∧ (((pg != pg) == false) = false → false = true))) ∧ (true = false → false = true)))) ∧ (true = false → false = true)) ∧ (true = false → ((L != L) = true → false = true) ∧ ((L != L) = false → ((decide (t ≥ (0 : Int)) == true) = true → (((!false == decide (t < (0 : Int))) == false) = true → ((decide (t < (0 : Int)) == true) = true → False) ∧ ((decide (t < (0 : Int)) == true) = false → (((!decide (t < (0 : Int))) == true) = true → (false = true → false = true) ∧ (false = false → (((pg != pg) == false) = true → ((pn != pn) = true → false = true) ∧ ((pn != pn) = false → ((L != L) = true → false = true) ∧ ((L != L) = false → true = true))) ∧ (((pg != pg) == false) = false → false = true))) ∧ (((!decide (t < (0 : Int))) == true) = false → (((pg != pg) == false) = true → ((pn != pn) = true → false = true) ∧ ((pn != pn) = false → ((L != L) = true → false = true) ∧ ((L != L) = false → true = true))) ∧ (((pg != pg) == false) = false → false = true)))) ∧ (((!false == decide (t < (0 : Int))) == false) = false → false = true)) ∧ ((decide (t ≥ (0 : Int)) == true) = false → (true = true → (false = true → false = true) ∧ (false = false → (((pg != pg) == false) = true → ((pn != pn) = true → false = true) ∧ ((pn != pn) = false → ((L != L) = true → false = true) ∧ ((L != L) = false → true = true))) ∧ (((pg != pg) == false) = false → false = true))) ∧ (true = false → false = true)))))) ∧ (true = false → false = true)) ∧ (true = false → false = true)) ∧ (true = false → false = true))) ∧ (true = false → (false = true → (true = true → (false = true → (true = true → (false = true → (false = true → (true = true → (true = true → ((ari BinOp.add IntKind.i64 (0 : Int) s != ari BinOp.add IntKind.i64 (-1 : Int) s) = true → false = true) ∧ ((ari BinOp.add IntKind.i64 (0 : Int) s != ari BinOp.add IntKind.i64 (-1 : Int) s) = false → ((decide (t ≥ (0 : Int)) == true) = true → (((!false == decide (t < (0 : Int))) == false) = true → ((decide (t < (0 : Int)) == true) = true → False) ∧ ((decide (t < (0 : Int)) == true) = false → (((!decide (t < (0 : Int))) == true) = true → (false = true → false = true) ∧ (false = false → (((pg != pg) == false) = true → ((pn != pn) = true → false = true) ∧ ((pn != pn) = false → ((L != L) = true → false = true) ∧ ((L != L) = false → true = true))) ∧ (((pg != pg) == false) = false → false = true))) ∧ (((!decide (t < (0 : Int))) == true) = false → (((pg != pg) == false) = true → ((pn != pn) = true → false = true) ∧ ((pn != pn) = false → ((L != L) = true → false = true) ∧ ((L != L) = false → true = true))) ∧ (((pg != pg) == false) = false → false = true)))) ∧ (((!false == decide (t < (0 : Int))) == false) = false → false = true)) ∧ ((decide (t ≥ (0 : Int)) == true) = false → (true = true → (false = true → false = true) ∧ (false = false → (((pg != pg) == false) = true → ((pn != pn) = true → false = true) ∧ ((pn != pn) = false → ((L != L) = true → false = true) ∧ ((L != L) = false → true = true))) ∧ (((pg != pg) == false) = false → false = true))) ∧ (true = false → false = true)))) ∧ (true = false → false = true)) ∧ (true = false → ((ari BinOp.add IntKind.i64 (0 : Int) s != ari BinOp.add IntKind.i64 (-1 : Int) s) = true → false = true) ∧ ((ari BinOp.add IntKind.i64 (0 : Int) s != ari BinOp.add IntKind.i64 (-1 : Int) s) = false → ((decide (t ≥ (0 : Int)) == true) = true → (((!false == decide (t < (0 : Int))) == false) = true → ((decide (t < (0 : Int)) == true) = true → False) ∧ ((decide (t < (0 : Int)) == true) = false → (((!decide (t < (0 : Int))) == true) = true → (false = true → false = true) ∧ (false = false → (((pg != pg) == false) = true → ((pn != pn) = true → false = true) ∧ ((pn != pn) = false → ((L != L) = true → false = true) ∧ ((L != L) = false → true = true))) ∧ (((pg != pg) == false) = false → false = true))) ∧ (((!decide (t < (0 : Int))) == true) = false → (((pg != pg) == false) = true → ((pn != pn) = true → false = true) ∧ ((pn != pn) = false → ((L != L) = true → false = true) ∧ ((L != L) = false → true = true))) ∧ (((pg != pg) == false) = false → false = true)))) ∧ (((!false == decide (t < (0 : Int))) == false) = false → false = true)) ∧ ((decide (t ≥ (0 : Int)) == true) = false → (true = true → (false = true → false = true) ∧ (false = false → (((pg != pg) == false) = true → ((pn != pn) = true → false = true) ∧ ((pn != pn) = false → ((L != L) = true → false = true) ∧ ((L != L) = false → true = true))) ∧ (((pg != pg) == false) = false → false = true))) ∧ (true = false → false = true))))) ∧ (false = false → false = true)) ∧ (false = false → (true = true → (true = true → ((ari BinOp.add IntKind.i64 (0 : Int) s != ari BinOp.add IntKind.i64 (-1 : Int) s) = true → false = true) ∧ ((ari BinOp.add IntKind.i64 (0 : Int) s != ari BinOp.add IntKind.i64 (-1 : Int) s) = false → ((decide (t ≥ (0 : Int)) == true) = true → (((!false == decide (t < (0 : Int))) == false) = true → ((decide (t < (0 : Int)) == true) = true → False) ∧ ((decide (t < (0 : Int)) == true) = false → (((!decide (t < (0 : Int))) == true) = true → (false = true → false = true) ∧ (false = false → (((pg != pg) == false) = true → ((pn != pn) = true → false = true) ∧ ((pn != pn) = false → ((L != L) = true → false = true) ∧ ((L != L) = false → true = true))) ∧ (((pg != pg) == false) = false → false = true))) ∧ (((!decide (t < (0 : Int))) == true) = false → (((pg != pg) == false) = true → ((pn != pn) = true → false = true) ∧ ((pn != pn) = false → ((L != L) = true → false = true) ∧ ((L != L) = false → true = true))) ∧ (((pg != pg) == false) = false → false = true)))) ∧ (((!false == decide (t < (0 : Int))) == false) = false → false = true)) ∧ ((decide (t ≥ (0 : Int)) == true) = false → (true = true → (false = true → false = true) ∧ (false = false → (((pg != pg) == false) = true → ((pn != pn) = true → false = true) ∧ ((pn != pn) = false → ((L != L) = true → false = true) ∧ ((L != L) = false → true = true))) ∧ (((pg != pg) == false) = false → false = true))) ∧ (true = false → false = true)))) ∧ (true = false → false = true)) ∧ (true = false → ((ari BinOp.add IntKind.i64 (0 : Int) s != ari BinOp.add IntKind.i64 (-1 : Int) s) = true → false = true) ∧ ((ari BinOp.add IntKind.i64 (0 : Int) s != ari BinOp.add IntKind.i64 (-1 : Int) s) = false → ((decide (t ≥ (0 : Int)) == true) = true → (((!false == decide (t < (0 : Int))) == false) = true → ((decide (t < (0 : Int)) == true) = true → False) ∧ ((decide (t < (0 : Int)) == true) = false → (((!decide (t < (0 : Int))) == true) = true → (false = true → false = true) ∧ (false = false → (((pg != pg) == false) = true → ((pn != pn) = true → false = true) ∧ ((pn != pn) = false → ((L != L) = true → false = true) ∧ ((L != L) = false → true = true))) ∧ (((pg != pg) == false) = false → false = true))) ∧ (((!decide (t < (0 : Int))) == true) = false → (((pg != pg) == false) = true → ((pn != pn) = true → false = true) ∧ ((pn != pn) = false → ((L != L) = true → false = true) ∧ ((L != L) = false → true = true))) ∧ (((pg != pg) == false) = false → false = true)))) ∧ (((!false == decide (t < (0 : Int))) == false) = false → false = true)) ∧ ((decide (t ≥ (0 : Int)) == true) = false → (true = true → (false = true → false = true) ∧ (false = false → (((pg != pg) == false) = true → ((pn != pn) = true → false = true) ∧ ((pn != pn) = false → ((L != L) = true → false = true) ∧ ((L != L) = false → true = true))) ∧ (((pg != pg) == false) = false → false = true))) ∧ (true = false → false = true)))))) ∧ (true = false → false = true)) ∧ (false = false → false = true)) ∧ (true = false → false = true)) ∧ (false = false → (true = true → (false = true → (true = true → (false = true → (false = true → (true = true → (true = true → ((ari BinOp.add IntKind.i64 (0 : Int) s != L) = true → false = true) ∧ ((ari BinOp.add IntKind.i64 (0 : Int) s != L) = false → ((decide (t ≥ (0 : Int)) == true) = true → (((!false == decide (t < (0 : Int))) == false) = true → ((decide (t < (0 : Int)) == true) = true → False) ∧ ((decide (t < (0 : Int)) == true) = false → (((!decide (t < (0 : Int))) == true) = true → (false = true → false = true) ∧ (false = false → (((pg != pg) == false) = true → ((pn != pn) = true → false = true) ∧ ((pn != pn) = false → ((L != L) = true → false = true) ∧ ((L != L) = false → true = true))) ∧ (((pg != pg) == false) = false → false = true))) ∧ (((!decide (t < (0 : Int))) == true) = false → (((pg != pg) == false) = true → ((pn != pn) = true → false = true) ∧ ((pn != pn) = false → ((L != L) = true → false = true) ∧ ((L != L) = false → true = true))) ∧ (((pg != pg) == false) = false → false = true)))) ∧ (((!false == decide (t < (0 : Int))) == false) = false → false = true)) ∧ ((decide (t ≥ (0 : Int)) == true) = false → (true = true → (false = true → false = true) ∧ (false = false → (((pg != pg) == false) = true → ((pn != pn) = true → false = true) ∧ ((pn != pn) = false → ((L != L) = true → false = true) ∧ ((L != L) = false → true = true))) ∧ (((pg != pg) == false) = false → false = true))) ∧ (true = false → false = true)))) ∧ (true = false → false = true)) ∧ (true = false → ((ari BinOp.add IntKind.i64 (0 : Int) s != L) = true → false = true) ∧ ((ari BinOp.add IntKind.i64 (0 : Int) s != L) = false → ((decide (t ≥ (0 : Int)) == true) = true → (((!false == decide (t < (0 : Int))) == false) = true → ((decide (t < (0 : Int)) == true) = true → False) ∧ ((decide (t < (0 : Int)) == true) = false → (((!decide (t < (0 : Int))) == true) = true → (false = true → false = true) ∧ (false = false → (((pg != pg) == false) = true → ((pn != pn) = true → false = true) ∧ ((pn != pn) = false → ((L != L) = true → false = true) ∧ ((L != L) = false → true = true))) ∧ (((pg != pg) == false) = false → false = true))) ∧ (((!decide (t < (0 : Int))) == true) = false → (((pg != pg) == false) = true → ((pn != pn) = true → false = true) ∧ ((pn != pn) = false → ((L != L) = true → false = true) ∧ ((L != L) = false → true = true))) ∧ (((pg != pg) == false) = false → false = true)))) ∧ (((!false == decide (t < (0 : Int))) == false) = false → false = true)) ∧ ((decide (t ≥ (0 : Int)) == true) = false → (true = true → (false = true → false = true) ∧ (false = false → (((pg != pg) == false) = true → ((pn != pn) = true → false = true) ∧ ((pn != pn) = false → ((L != L) = true → false = true) ∧ ((L != L) = false → true = true))) ∧ (((pg != pg) == false) = false → false = true))) ∧ (true = false → false = true))))) ∧ (false = false → false = true)) ∧ (false = false → (true = true → (true = true → ((ari BinOp.add IntKind.i64 (0 : Int) s != L) = true → false = true) ∧ ((ari BinOp.add IntKind.i64 (0 : Int) s != L) = false → ((decide (t ≥ (0 : Int)) == true) = true → (((!false == decide (t < (0 : Int))) == false) = true → ((decide (t < (0 : Int)) == true) = true → False) ∧ ((decide (t < (0 : Int)) == true) = false → (((!decide (t < (0 : Int))) == true) = true → (false = true → false = true) ∧ (false = false → (((pg != pg) == false) = true → ((pn != pn) = true → false = true) ∧ ((pn != pn) = false → ((L != L) = true → false = true) ∧ ((L != L) = false → true = true))) ∧ (((pg != pg) == false) = false → false = true))) ∧ (((!decide (t < (0 : Int))) == true) = false → (((pg != pg) == false) = true → ((pn != pn) = true → false = true) ∧ ((pn != pn) = false → ((L != L) = true → false = true) ∧ ((L != L) = false → true = true))) ∧ (((pg != pg) == false) = false → false = true)))) ∧ (((!false == decide (t < (0 : Int))) == false) = false → false = true)) ∧ ((decide (t ≥ (0 : Int)) == true) = false → (true = true → (false = true → false = true) ∧ (false = false → (((pg != pg) == false) = true → ((pn != pn) = true → false = true) ∧ ((pn != pn) = false → ((L != L) = true → false = true) ∧ ((L != L) = false → true = true))) ∧ (((pg != pg) == false) = false → false = true))) ∧ (true = false → false = true)))) ∧ (true = false → false = true)) ∧ (true = false → ((ari BinOp.add IntKind.i64 (0 : Int) s != L) = true → false = true) ∧ ((ari BinOp.add IntKind.i64 (0 : Int) s != L) = false → ((decide (t ≥ (0 : Int)) == true) = true → (((!false == decide (t < (0 : Int))) == false) = true → ((decide (t < (0 : Int)) == true) = true → False) ∧ ((decide (t < (0 : Int)) == true) = false → (((!decide (t < (0 : Int))) == true) = true → (false = true → false = true) ∧ (false = false → (((pg != pg) == false) = true → ((pn != pn) = true → false = true) ∧ ((pn != pn) = false → ((L != L) = true → false = true) ∧ ((L != L) = false → true = true))) ∧ (((pg != pg) == false) = false → false = true))) ∧ (((!decide (t < (0 : Int))) == true) = false → (((pg != pg) == false) = true → ((pn != pn) = true → false = true) ∧ ((pn != pn) = false → ((L != L) = true → false = true) ∧ ((L != L) = false → true = true))) ∧ (((pg != pg) == false) = false → false = true)))) ∧ (((!false == decide (t < (0 : Int))) == false) = false → false = true)) ∧ ((decide (t ≥ (0 : Int)) == true) = false → (true = true → (false = true → false = true) ∧ (false = false → (((pg != pg) == false) = true → ((pn != pn) = true → false = true) ∧ ((pn != pn) = false → ((L != L) = true → false = true) ∧ ((L != L) = false → true = true))) ∧ (((pg != pg) == false) = false → false = true))) ∧ (true = false → false = true)))))) ∧ (true = false → false = true)) ∧ (false = false → false = true)) ∧ (true = false → false = true)))))) ∧ (((!objB s a == decide (needN s a > (0 : Int))) == false) = false → false = true)) ∧ (((needN s a != needN s a) == false) = false → false = true)) := by kernel_rfl
end Go.Proofs.YtccbfkeigfnibaaDoor
/- Of extent: ExtentTells' run without chunks ends with true. No condition. -/
namespace Go.Proofs.YtccbfkeigfnibaaDoor
set_option maxRecDepth 100000
theorem g00 (L s a t pg pn : Int) : Good Tryd.prog (boolR true) 1 (tlC (ezS .e0 (.o L)) s a t pg pn) ⟨1, .nil, []⟩ := by
  refine run_vc EU_ok 1000 (tl0_vc L s a t pg pn) ?_ (fun _ _ h => h) (fun _ _ h => h.elim)
  rw [need_dec]
  by_cases hL : L = 0
  · subst hL
    by_cases ht : 0 ≤ t
    · have ht' : ¬ t < 0 := by omega
      simp [ht, ht']
    · have ht' : t < 0 := by omega
      simp [ht, ht']
  · simp [hL]
end Go.Proofs.YtccbfkeigfnibaaDoor
/- The closed facts of a row, one by one. No condition. -/
namespace Go.Proofs.YtccbfkeigfnibaaDoor
theorem jf0 : (Rows.extentTellsRow.wf (OpenSpec.ofChange Rows.extentTellsSpec)) = true := by kernel_rfl
theorem jf1 : (laidOutB Tryd.prog) = true := by kernel_rfl
theorem jf2 : (mapsRowed Tryd.prog) = true := by kernel_rfl
theorem jf3 : (Tryd.f3.params.all (Tryd.prog.readableRec ·)) = true := by kernel_rfl
theorem jf4 : (namedTie Tryd.prog Rows.extentTellsRow.named Rows.extentTellsSpec.vars) = true := by kernel_rfl
theorem jf5 : (Rows.extentTellsRow.stops == []) = true := by kernel_rfl
theorem jf6 : (Tryd.prog.stops == []) = true := by kernel_rfl
theorem jf7 : (Rows.extentTellsRow.knobs == []) = true := by kernel_rfl
theorem jf8 : (Tryd.prog.stopKnobs == []) = true := by kernel_rfl
theorem jf9 : (Rows.extentTellsRow.inPlace == Tryd.prog.inPlace 3) = true := by kernel_rfl
theorem jf10 : (Rows.extentTellsRow.unfollowed == Tryd.prog.unfollowed 3) = true := by kernel_rfl
theorem jf11 : (Rows.extentTellsRow.recurses == Tryd.prog.recurses 3) = true := by kernel_rfl
theorem jf12 : (Rows.extentTellsRow.named == Tryd.prog.varsNamed 3) = true := by kernel_rfl
theorem jf13 : (Rows.extentTellsRow.maps == (Tryd.f3.params.toList ++ Rows.extentTellsSpec.plain.varTypes Tryd.prog).any (Tryd.prog.mapsRec ·)) = true := by kernel_rfl
theorem jf14 : (Rows.extentTellsRow.ifaces == (Tryd.f3.params.toList ++ Rows.extentTellsSpec.plain.varTypes Tryd.prog).any (Tryd.prog.ifacesRec ·)) = true := by kernel_rfl
theorem jf15 : (Rows.extentTellsRow.mapsOut == Tryd.prog.mapsAmong Tryd.f3.resultTypes.toList) = true := by kernel_rfl
theorem jf16 : (Rows.extentTellsRow.loops == (Tryd.f3.params.toList ++ Rows.extentTellsSpec.plain.varTypes Tryd.prog).any (Tryd.prog.loopsFrom ·)) = true := by kernel_rfl
theorem jf17 : (Rows.extentTellsRow.wideKeys == (Tryd.f3.params.toList ++ Rows.extentTellsSpec.plain.varTypes Tryd.prog ++ Tryd.f3.resultTypes.toList).any (Tryd.prog.wideKeysFrom ·)) = true := by kernel_rfl
theorem jf18 : (Rows.extentTellsSpec.vars.all (Tryd.prog.varReadable ·)) = true := by kernel_rfl
theorem jf19 : (Tryd.f3.resultTypes.all (fun t => Tryd.prog.readableRec t && decide (t < Tryd.prog.types.size))) = true := by kernel_rfl
theorem jf20 : (Rows.extentTellsRow.ifacesOut == Tryd.f3.resultTypes.toList.any (Tryd.prog.ifacesRec ·)) = true := by kernel_rfl
theorem jf21 : (Rows.extentTellsRow.loopsOut == Tryd.f3.resultTypes.toList.any (Tryd.prog.loopsFrom ·)) = true := by kernel_rfl
theorem jf22 : (Rows.extentTellsRow.plainKeys == Tryd.prog.plainKeys) = true := by kernel_rfl
theorem jf23 : (Rows.extentTellsRow.shortTexts.isNone) = true := by kernel_rfl
theorem jf24 : (Tryd.prog.stopsHeard) = true := by kernel_rfl
theorem jf25 : (Tryd.prog.mayEnter) = true := by kernel_rfl
theorem jf26 : (Rows.extentTellsRow.lifted == Tryd.prog.liftsFinal) = true := by kernel_rfl
theorem jf27 : (Tryd.prog.make == some Rows.extentTellsRow.make) = true := by kernel_rfl
theorem jf28 : (Rows.extentTellsRow.kinds == (if Rows.extentTellsRow.domain.isEmpty then [] else Tryd.f3.params.toList.map fun t => match Tryd.prog.underlying t with | some (.int k) => some k | _ => none)) = true := by kernel_rfl
theorem jf29 : (Rows.extentTellsRow.pinned == Rows.extentTellsRow.pinnedBy) = true := by kernel_rfl
theorem jf30 : (Rows.extentTellsRow.veiled == (Tryd.f3.params.toList ++ Rows.extentTellsSpec.plain.varTypes Tryd.prog ++ Tryd.f3.resultTypes.toList).any (Tryd.prog.veiledRec ·)) = true := by kernel_rfl
theorem jf31 : (Rows.extentTellsRow.veiledFits Tryd.prog Tryd.f3.params.toList (Tryd.f3.params.toList ++ Rows.extentTellsSpec.plain.varTypes Tryd.prog ++ Tryd.f3.resultTypes.toList)) = true := by kernel_rfl
end Go.Proofs.YtccbfkeigfnibaaDoor
/- The closed facts of a row, together. No condition. -/
namespace Go.Proofs.YtccbfkeigfnibaaDoor
set_option maxRecDepth 100000
theorem jf_all : joinedFacts Tryd.prog 3 Tryd.f3 Rows.extentTellsSpec Rows.extentTellsRow = true := by
  unfold joinedFacts
  exact (Bool.and_eq_true_iff.2 ⟨(Bool.and_eq_true_iff.2 ⟨(Bool.and_eq_true_iff.2 ⟨(Bool.and_eq_true_iff.2 ⟨(Bool.and_eq_true_iff.2 ⟨(Bool.and_eq_true_iff.2 ⟨(Bool.and_eq_true_iff.2 ⟨(Bool.and_eq_true_iff.2 ⟨(Bool.and_eq_true_iff.2 ⟨(Bool.and_eq_true_iff.2 ⟨(Bool.and_eq_true_iff.2 ⟨(Bool.and_eq_true_iff.2 ⟨(Bool.and_eq_true_iff.2 ⟨(Bool.and_eq_true_iff.2 ⟨(Bool.and_eq_true_iff.2 ⟨(Bool.and_eq_true_iff.2 ⟨(Bool.and_eq_true_iff.2 ⟨(Bool.and_eq_true_iff.2 ⟨(Bool.and_eq_true_iff.2 ⟨(Bool.and_eq_true_iff.2 ⟨(Bool.and_eq_true_iff.2 ⟨(Bool.and_eq_true_iff.2 ⟨(Bool.and_eq_true_iff.2 ⟨(Bool.and_eq_true_iff.2 ⟨(Bool.and_eq_true_iff.2 ⟨(Bool.and_eq_true_iff.2 ⟨(Bool.and_eq_true_iff.2 ⟨(Bool.and_eq_true_iff.2 ⟨(Bool.and_eq_true_iff.2 ⟨(Bool.and_eq_true_iff.2 ⟨(Bool.and_eq_true_iff.2 ⟨jf0, jf1⟩), jf2⟩), jf3⟩), jf4⟩), jf5⟩), jf6⟩), jf7⟩), jf8⟩), jf9⟩), jf10⟩), jf11⟩), jf12⟩), jf13⟩), jf14⟩), jf15⟩), jf16⟩), jf17⟩), jf18⟩), jf19⟩), jf20⟩), jf21⟩), jf22⟩), jf23⟩), jf24⟩), jf25⟩), jf26⟩), jf27⟩), jf28⟩), jf29⟩), jf30⟩), jf31⟩)
end Go.Proofs.YtccbfkeigfnibaaDoor
