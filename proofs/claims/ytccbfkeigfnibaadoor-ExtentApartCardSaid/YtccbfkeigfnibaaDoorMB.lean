/- Of extent: Same: extents that are alike. No condition. -/
import Derived.Test.YtccbfkeigfnibaaDoorMA
import Derived.Test.YtccbfkeigfnibaaDoorK23
import Derived.Test.YtccbfkeigfnibaaDoorK24
set_option linter.unusedVariables false
set_option linter.unusedSimpArgs false
namespace Go.Proofs.YtccbfkeigfnibaaDoor
set_option maxRecDepth 100000
/-- Two rows of pairs are alike. -/
def EqR (cs : Array Value) (off : Nat) (ds : Array Value) (off' n : Nat) : Prop := n ≤ 81 ∧ ∀ i, i < n →
  IsInt .i64 cs (off + i * 2) ∧ IsInt .i64 cs (off + i * 2 + 1) ∧ IsInt .i64 ds (off' + i * 2) ∧ IsInt .i64 ds (off' + i * 2 + 1) ∧ intAt cs (off + i * 2) = intAt ds (off' + i * 2) ∧ intAt cs (off + i * 2 + 1) = intAt ds (off' + i * 2 + 1)
theorem smT_ok : TodoOk (ren 2 [(2, 2), (3, 3)]) smT smT := TodoOk.same (by kernel_rfl)
theorem smH_ok : TodoOk (ren 2 [(2, 2), (3, 3)]) smH smH := TodoOk.same (by kernel_rfl)
section
variable {v : Bool} {off n : Nat} {L : Int} {off' n' : Nat} {L' : Int} {cs ds : Array Value} {ty tz : TypeId}
theorem sm_start_v (Q : Int → Prop) : (smR v off n L off' n' L' cs ds ty tz).vc (boolR true) (smN false v off n L off' n' L' cs ds ty tz Q) = (smR true off n L off' n' L' cs ds ty tz).vc (boolR true) (smN false true off n L off' n' L' cs ds ty tz Q) := by
  cases v with
  | true => rfl
  | false => exact (sm_start_p off n L off' n' L' cs ds ty tz Q).trans (sm_start_r off n L off' n' L' cs ds ty tz Q).symm
theorem sm_step_v (i : Int) (Q : Int → Prop) : (smS v off n L off' n' L' cs ds ty tz i).vc (boolR true) (smN true v off n L off' n' L' cs ds ty tz Q) = (smS true off n L off' n' L' cs ds ty tz i).vc (boolR true) (smN true true off n L off' n' L' cs ds ty tz Q) := by
  cases v with
  | true => rfl
  | false => exact (sm_step_p off n L off' n' L' cs ds ty tz i Q).trans (sm_step_r off n L off' n' L' cs ds ty tz i Q).symm
theorem smN_good {h : Bool} {A : SV → SMem → Prop} {Q : Int → Prop} {fs : List SFr} {m : SMem} (H : ∀ i, Q i → Good Tryd.prog A 2 (headF (smF i)) (smM v off n L off' n' L' cs ds ty tz)) (hb : smN h v off n L off' n' L' cs ds ty tz Q fs m) : Good Tryd.prog A 2 fs m := by
  unfold smN at hb
  split at hb
  · split at hb
    · exact hF_good hb.2 (H _ hb.1)
    · exact hb.elim
  · exact hb.elim
end
theorem next81 {i n : Nat} (h : i < n) (hn : n ≤ 81) : ari .add .i64 (i : Int) 1 = ((i + 1 : Nat) : Int) := by
  rw [ari_add, i64w (by omega)]
  omega
section
variable (v : Bool) {off n : Nat} (L : Int) {off' : Nat} {cs ds : Array Value} (ty tz : TypeId) (h : EqR cs off ds off' n)
include h
theorem sm_round : ∀ k i : Nat, i + k = n → Good Tryd.prog (boolR true) 2 (headF (smF i)) (smM v off n L off' n L cs ds ty tz) := by
  intro k
  induction k with
  | zero =>
    intro i hi
    obtain rfl : i = n := by omega
    refine past_vc EX_ok 1000 ((sm_step_v i (fun _ => False)).trans (sm_step_r off i L off' i L cs ds ty tz i _)) ?_ (fun _ _ h => h) (fun fs m hb => smN_good (fun _ h => h.elim) hb)
    refine ⟨fun hd => ?_, fun _ => rfl⟩
    have := of_decide_eq_true hd
    omega
  | succ k ih =>
    intro i hi
    have hi' : i < n := by omega
    obtain ⟨h1, h2, h3, h4, h5, h6⟩ := h.2 i hi'
    refine past_vc EX_ok 1000 ((sm_step_v i (fun i' => i' = ((i + 1 : Nat) : Int))).trans (sm_step_r off n L off' n L cs ds ty tz i _)) ?_ (fun _ _ h => h) (fun fs m hb => smN_good (fun i' e => by rw [e]; exact ih (i + 1) (by omega)) hb)
    have hN := next81 hi' h.1
    have hij : ((0 : Int) ≤ (i : Int) ∧ (i : Int) < (n : Int)) ∧ True := ⟨⟨by omega, by omega⟩, trivial⟩
    refine ⟨fun _ => ?_, fun hd => ?_⟩
    · simp only [Int.toNat_natCast, hN, h5, h6]
      have hTH := smH_ok
      refine ⟨hij, ⟨h1, trivial⟩, hij, ⟨h3, trivial⟩, fun _ => ⟨hij, ⟨h2, trivial⟩, hij, ⟨h4, trivial⟩, fun hd => ?_, fun _ => ?_⟩, fun hd => ?_⟩
      · simp at hd
      · repeat' first | exact hTH | exact trivial | exact rfl | apply And.intro
      · simp at hd
    · have := of_decide_eq_false hd
      omega
theorem sm_good : Good Tryd.prog (boolR true) 2 (smC off n L off' n L) (smM0 v cs ds ty tz) := by
  refine run_vc EX_ok 1000 ((sm_start_v (fun i => i = ((0 : Nat) : Int))).trans (sm_start_r off n L off' n L cs ds ty tz _)) ?_ (fun _ _ h => h)
    (fun fs m hb => smN_good (fun i e => by rw [e]; exact sm_round v L ty tz h n 0 (by omega)) hb)
  have hT := smT_ok
  refine ⟨fun _ => ⟨fun hd => ?_, fun _ => ?_⟩, fun hd => ?_⟩
  · simp at hd
  · repeat' first | exact hT | exact trivial | exact rfl | apply And.intro
  · simp at hd
end
theorem smM0_get {v : Bool} {cs ds : Array Value} {ty tz : TypeId} {i : Nat} {b : SBlk} (h : getB (smM0 v cs ds ty tz).bl i = some b) : (i = 0 ∧ b = ⟨.pop cs, ty, false⟩) ∨ (i = 1 ∧ b = ⟨rwA v ds, tz, false⟩) := by
  have h : (((Tr.nil : Tr SBlk).set 0 (some ⟨.pop cs, ty, false⟩)).set 1 (some ⟨rwA v ds, tz, false⟩)).get i = some b := h
  rw [Tr.get_set] at h
  split at h
  · rename_i e; cases h; exact .inr ⟨e, rfl⟩
  · rw [Tr.get_set] at h
    split at h
    · rename_i e; cases h; exact .inl ⟨e, rfl⟩
    · rw [Tr.get_nil] at h; cases h
theorem sm_con {m : SMem} {i j : Nat} {v : Bool} {o n o' n' : SN} {c c' : SK} {x y : SI} {cs ds : Array Value} (hr : rowV m i = some (false, cs)) (hr' : rowV m j = some (v, ds)) :
    Con E0 15 [.s (.agg (.ls [.f (.slice i o n c), .f (.int .i64 x)])), .s (.agg (.ls [.f (.slice j o' n' c'), .f (.int .i64 y)]))] m (needs [n'.den = n.den, y.den = x.den, EqR cs o.den ds o'.den n.den] (.ret (sB (.l true)) m)) := by
  obtain ⟨ty, wr, hb⟩ := rowV_of hr
  obtain ⟨tz, wr', hb'⟩ := rowV_of hr'
  refine Con.ro E0_ok (l' := [extS o.den n.den x.den, ex1S o'.den n'.den y.den]) (ms := smM0 v cs ds ty tz) (A := boolR true) (by kernel_rfl : E0.fn 15 = some Tryd.f15) (by kernel_rfl : Tryd.f15.body = some (Tryd.f15.body.getD .skip)) rfl (fun k => if k = 0 then i else j) ?_ ?_ (fun hq => ?_) ?_
  · intro k b hk
    rcases smM0_get hk with ⟨rfl, rfl⟩ | ⟨rfl, rfl⟩
    · exact ⟨(show (0 : Nat) < 2 by decide), rfl, _, hb, rfl, fun R cs' h => h⟩
    · refine ⟨(show (1 : Nat) < 2 by decide), rfl, _, hb', rfl, fun R cs' h => ?_⟩
      cases v <;> exact h
  · intro R vs ha
    match vs, ha with
    | [u, w], ha =>
      obtain ⟨⟨ds, e, hd⟩, ⟨es, e', hd'⟩, _⟩ := ha
      refine ⟨⟨ds, e, ?_⟩, ⟨es, e', ?_⟩, trivial⟩
      · have hd : All2 (SC.ok R) [.f (.slice i o n c), .f (.int .i64 x)] ds.toList := hd
        show All2 (SC.ok _) [.f (sl0 o.den n.den), .f (.int .i64 (.o x.den))] ds.toList
        generalize ds.toList = L at hd ⊢
        match L, hd with
        | [a, b], hd =>
          obtain ⟨⟨gl, cp, e1, e2, e3, e4⟩, hb2, _⟩ := hd
          exact ⟨⟨gl, cp, by unfold pull; exact e1, e2, trivial, e4⟩, hb2, trivial⟩
      · have hd' : All2 (SC.ok R) [.f (.slice j o' n' c'), .f (.int .i64 y)] es.toList := hd'
        show All2 (SC.ok _) [.f (sl1 o'.den n'.den), .f (.int .i64 (.o y.den))] es.toList
        generalize es.toList = L at hd' ⊢
        match L, hd' with
        | [a, b], hd' =>
          obtain ⟨⟨gl, cp, e1, e2, e3, e4⟩, hb2, _⟩ := hd'
          exact ⟨⟨gl, cp, by unfold pull; exact e1, e2, trivial, e4⟩, hb2, trivial⟩
  · have e1 : n'.den = n.den := hq _ (by simp)
    have e2 : y.den = x.den := hq _ (by simp)
    have e3 : EqR cs o.den ds o'.den n.den := hq _ (by simp)
    rw [e1, e2]
    exact sm_good v x.den ty tz e3
  · intro s m' R R' u h hv
    unfold boolR at h
    split at h
    · have hv : u = .bool _ := hv
      rw [hv, h]; rfl
    · exact h.elim
theorem pl_con {m : SMem} {i : Nat} {o n : SN} {cap : SK} {x y : SI} {cs : Array Value} (hr : rowV m i = some (false, cs)) :
    Con E0 17 [.s (.agg (.ls [.f (.slice i o n cap), .f (.int .i64 x)])), .s (.c (.f (.int .i64 y)))] m (needs [PrOk cs o.den n.den, tkOk cs o.den n.den = true, -9223372036854775808 ≤ y.den ∧ y.den ≤ 9223372036854775807]
      (.ret (.tup [.c (.f (.int .i64 (.o (plV cs o.den n.den y.den)))), .c (.f (.bool (.o (plB cs o.den n.den y.den))))]) m)) :=
  Con.ext (r' := [i64 (.o y.den)]) (by kernel_rfl : E0.fn 17 = some Tryd.f17) (by kernel_rfl : Tryd.f17.body = some (Tryd.f17.body.getD .skip)) hr (fun _ _ vs h => match vs, h with | [_], h => ⟨h.1, trivial⟩) (A := pairR (plV cs o.den n.den y.den) (plB cs o.den n.den y.den))
    (fun ty hq => by
      have hk : tkOk cs o.den n.den = true := hq _ (by simp)
      exact pl_good ty x.den y.den (hq _ (by simp)) (tkOk_small hk) (fun i hi => by have := takeOk_may (tkOk_one hk hi); omega) (hq _ (by simp))) (fun s m' R R' u h hv => by
    unfold pairR at h
    split at h
    · obtain ⟨e1, e2⟩ := h
      obtain ⟨vs, rfl, hl⟩ := hv
      refine ⟨vs, rfl, ?_⟩
      generalize vs.toList = T at hl ⊢
      match T, hl with
      | [a, b], hl =>
        obtain ⟨ha, hb, _⟩ := hl
        have ha : a = .int .i64 _ := ha
        have hb : b = .bool _ := hb
        rw [e1] at ha
        rw [e2] at hb
        exact ⟨ha, hb, trivial⟩
    · exact h.elim)
theorem ft_con {m : SMem} {i : Nat} {o n : SN} {cap : SK} {x y z : SI} {cs : Array Value} (hr : rowV m i = some (false, cs)) :
    Con E0 12 [.s (.agg (.ls [.f (.slice i o n cap), .f (.int .i64 x)])), .s (.c (.f (.int .i64 y))), .s (.c (.f (.int .i64 z)))] m (needs [PrOk cs o.den n.den, tkOk cs o.den n.den = true, 0 ≤ x.den, x.den ≤ 32 * sumN cs o.den n.den]
      (.ret (.tup [.c (.f (.int .i64 (.o (fitV x.den y.den z.den (32 * sumN cs o.den n.den))))), .c (.f (.bool (.o (fitOk x.den y.den z.den (32 * sumN cs o.den n.den)))))]) m)) :=
  Con.ext (r' := [i64 (.o y.den), i64 (.o z.den)]) (by kernel_rfl : E0.fn 12 = some Tryd.f12) (by kernel_rfl : Tryd.f12.body = some (Tryd.f12.body.getD .skip)) hr (fun _ _ vs h => match vs, h with | [_, _], h => ⟨h.1, h.2.1, trivial⟩)
    (A := pairR (fitV x.den y.den z.den (32 * sumN cs o.den n.den)) (fitOk x.den y.den z.den (32 * sumN cs o.den n.den)))
    (fun ty hq => ft_good ty x.den y.den z.den (hq _ (by simp)) (hq _ (by simp)) (hq _ (by simp)) (hq _ (by simp))) (fun s m' R R' u h hv => by
    unfold pairR at h
    split at h
    · obtain ⟨e1, e2⟩ := h
      obtain ⟨vs, rfl, hl⟩ := hv
      refine ⟨vs, rfl, ?_⟩
      generalize vs.toList = T at hl ⊢
      match T, hl with
      | [a, b], hl =>
        obtain ⟨ha, hb, _⟩ := hl
        have ha : a = .int .i64 _ := ha
        have hb : b = .bool _ := hb
        rw [e1] at ha
        rw [e2] at hb
        exact ⟨ha, hb, trivial⟩
    · exact h.elim)
theorem fr_con {m : SMem} {i : Nat} {o n : SN} {cap : SK} {x y z : SI} {cs : Array Value} (hr : rowV m i = some (true, cs)) :
    Con E0 13 [.s (.agg (.ls [.f (.slice i o n cap), .f (.int .i64 x)])), .s (.c (.f (.int .i64 y))), .s (.c (.f (.int .i64 z)))] m (needs [PrOk cs o.den n.den, tkOk cs o.den n.den = true, 0 ≤ x.den, x.den ≤ 32 * sumN cs o.den n.den, n.den ≠ 0]
      (.ret (i64 (.o (fitR x.den y.den z.den (32 * sumN cs o.den n.den)))) m)) :=
  Con.ext (r' := [i64 (.o y.den), i64 (.o z.den)]) (by kernel_rfl : E0.fn 13 = some Tryd.f13) (by kernel_rfl : Tryd.f13.body = some (Tryd.f13.body.getD .skip)) hr (fun _ _ vs h => match vs, h with | [_, _], h => ⟨h.1, h.2.1, trivial⟩)
    (A := intR (fitR x.den y.den z.den (32 * sumN cs o.den n.den)))
    (fun ty hq => fr_good ty x.den y.den z.den (hq _ (by simp)) (hq _ (by simp)) (hq _ (by simp)) (hq _ (by simp)) (hq _ (by simp))) (fun _ _ _ _ _ => intR_ok)
end Go.Proofs.YtccbfkeigfnibaaDoor
/- Of extent: Of: its loop's states. No condition. -/
namespace Go.Proofs.YtccbfkeigfnibaaDoor
noncomputable section
def ofC (off n : Nat) (L : Int) : List SFr := [callFr 6 Tryd.f6.ntmps [extS off n L] (Tryd.f6.body.getD .skip)]
def ofR (off n : Nat) (L : Int) (cs : Array Value) (ty : TypeId) : Tree := run EX 1000 1 (ofC off n L) (rwM true cs ty)
def prV (w : Bool) (l : Nat) : SF := cond w (.slice 4 (.l 0) (.o l) (.full 2)) (.lit (.slice none 0 0))
def ofF (i : Int) : List SFr := reTm [tmOf Tryd.f6.ntmps [(1, ptr 1 (.l 0)), (2, ptr 2 (.l 0)), (3, ptr 3 (.l 0)), (4, i64 (.o i))]] ((ofR 0 0 0 #[] 0).fsAt 3)
def ofM (w : Bool) (off n : Nat) (L : Int) (cs : Array Value) (ty : TypeId) (l : Nat) (bs : Array Value) : SMem :=
  ⟨5, setW w 4 ⟨.pop bs, 42, true⟩ (((((Tr.nil : Tr SBlk).set 0 (some ⟨.raw cs, ty, false⟩)).set 1 (some ⟨.ls [.f (sl0 off n), .f (.int .i64 (.o L))], 24, true⟩)).set 2 (some ⟨.ls [.f (.lit (.slice none 0 0)), .f (.int .i64 (.l 0))], 28, true⟩)).set 3 (some ⟨.ls [.f (prV w l), .f (.int .i64 (.o L))], 28, true⟩)), []⟩
def ofS (w : Bool) (off n : Nat) (L : Int) (cs : Array Value) (ty : TypeId) (l : Nat) (bs : Array Value) (i : Int) : Tree := stepT EX.go (run EX 1000) 1 (headF (ofF i)) (ofM w off n L cs ty l bs)
def rdO (m : SMem) (id : Nat) : Option (Option (Nat × Nat × Array Value)) := match getB m.bl id with
  | some ⟨.ls [.f (.lit (.slice none 0 0)), _], _, _⟩ => some none
  | some ⟨.ls [.f (.slice sid _ k _), _], _, _⟩ => match rdA m sid with
    | some cs => some (some (sid, k.den, cs))
    | none => none
  | _ => none
def ofN (h : Bool) (off n : Nat) (L : Int) (cs : Array Value) (ty : TypeId) (Q : Bool → Int → Nat → Array Value → Prop) (fs : List SFr) (m : SMem) : Prop := match fs with
  | f :: _ => match rdI f 4, rdP f 1, rdP f 2, rdP f 3 with
    | some i, some p, some q, some r => match rdO m r with
      | some none => Q false i 0 #[] ∧ subOk 1 [(1, p), (2, q), (3, r)] (hF h (ofF i)) (ofM false off n L cs ty 0 #[]) fs m
      | some (some (sid, l, bs)) => Q true i l bs ∧ subOk 1 [(1, p), (2, q), (3, r), (4, sid)] (hF h (ofF i)) (ofM true off n L cs ty l bs) fs m
      | none => False
    | _, _, _, _ => False
  | [] => False
def ofRet (l : Nat) (L : Int) (bs : Array Value) (s : SV) (m : SMem) : Prop := match s with
  | .s (.agg (.ls [.f (.slice sid _ _ _), _])) => retOk 1 [(1, sid)] (.s (.agg (.ls [.f (.slice 1 (.l 0) (.o l) .any), .f (.int .i64 (.o L))]))) ⟨2, Tr.nil.set 1 (some ⟨.pop bs, 42, true⟩), []⟩ s m
  | _ => False
def ofT : List SIt := headTd (ofF 0)
def ofH : List SIt := headTd (headF (ofF 0))
def ndsC (s a : Int) : List SFr := [callFr 7 Tryd.f7.ntmps [i64 (.o s), i64 (.o a)] (Tryd.f7.body.getD .skip)]
end
end Go.Proofs.YtccbfkeigfnibaaDoor
/- Of extent: Of: its loop's rounds; Needs; as propositions. No condition. -/
namespace Go.Proofs.YtccbfkeigfnibaaDoor
set_option maxRecDepth 100000
theorem of_start (off n : Nat) (L : Int) (cs : Array Value) (ty : TypeId) (rl : Nat) (rb : Array Value) (Q : Bool → Int → Nat → Array Value → Prop) : (ofR off n L cs ty).vc (ofRet rl L rb) (ofN false off n L cs ty Q) =
    (Q false (0 : Int) (0 : Nat) #[] ∧ CallKind.normal = CallKind.normal ∧ TodoOk (ren 1 [(1, 1), (2, 2), (3, 3)]) ofT ofT ∧ (0 : Int) = (0 : Int) ∧ ty = ty ∧ cs = cs ∧ (24 : TypeId) = (24 : Nat) ∧ off = off ∧ n = n ∧ L = L ∧ (28 : TypeId) = (28 : Nat) ∧ Value.slice none (0 : Nat) (0 : Nat) = Value.slice none (0 : Nat) (0 : Nat) ∧ L = L ∧ (28 : TypeId) = (28 : Nat) ∧ Value.slice none (0 : Nat) (0 : Nat) = Value.slice none (0 : Nat) (0 : Nat) ∧ True) := by kernel_rfl
theorem of_s0 (off n : Nat) (L : Int) (cs : Array Value) (ty : TypeId) (i : Int) (rl : Nat) (rb : Array Value) (Q : Bool → Int → Nat → Array Value → Prop) : (ofS false off n L cs ty 0 #[] i).vc (ofRet rl L rb) (ofN true off n L cs ty Q) =
    ((decide (i < (↑n : Int)) = true → (((0 : Int) ≤ i ∧ i < (↑n : Int)) ∧ True) ∧ (IsInt IntKind.i64 cs (off + Int.toNat i * 2) ∧ True) ∧ (((0 : Int) ≤ i ∧ i < (↑n : Int)) ∧ True) ∧ (IsInt IntKind.i64 cs (off + Int.toNat i * 2 + 1) ∧ True) ∧ Q true (ari BinOp.add IntKind.i64 i (1 : Int)) (1 : Nat) #[Value.int IntKind.i64 (intAt cs (off + Int.toNat i * 2)), Value.int IntKind.i64 (intAt cs (off + Int.toNat i * 2 + 1))] ∧ CallKind.normal = CallKind.normal ∧ TodoOk (ren 1 [(1, 1), (2, 2), (3, 3), (4, 6)]) ofH ofH ∧ ari BinOp.add IntKind.i64 i (1 : Int) = ari BinOp.add IntKind.i64 i (1 : Int) ∧ ty = ty ∧ cs = cs ∧ (24 : TypeId) = (24 : TypeId) ∧ off = off ∧ n = n ∧ L = L ∧ (28 : TypeId) = (28 : TypeId) ∧ (1 : Nat) = (1 : Nat) ∧ L = L ∧ (28 : TypeId) = (28 : TypeId) ∧ Value.slice none (0 : Nat) (0 : Nat) = Value.slice none (0 : Nat) (0 : Nat) ∧ (42 : TypeId) = (42 : Nat) ∧ #[Value.int IntKind.i64 (intAt cs (off + Int.toNat i * 2)), Value.int IntKind.i64 (intAt cs (off + Int.toNat i * 2 + 1))] = #[Value.int IntKind.i64 (intAt cs (off + Int.toNat i * 2)), Value.int IntKind.i64 (intAt cs (off + Int.toNat i * 2 + 1))] ∧ True) ∧ (decide (i < (↑n : Int)) = false → False)) := by kernel_rfl
theorem of_s1 (off n : Nat) (L : Int) (cs : Array Value) (ty : TypeId) (l : Nat) (bs : Array Value) (i : Int) (rl : Nat) (rb : Array Value) (Q : Bool → Int → Nat → Array Value → Prop) : (ofS true off n L cs ty l bs i).vc (ofRet rl L rb) (ofN true off n L cs ty Q) =
    ((decide (i < (↑n : Int)) = true → (((0 : Int) ≤ i ∧ i < (↑n : Int)) ∧ True) ∧ (IsInt IntKind.i64 cs (off + Int.toNat i * 2) ∧ True) ∧ (((0 : Int) ≤ i ∧ i < (↑n : Int)) ∧ True) ∧ (IsInt IntKind.i64 cs (off + Int.toNat i * 2 + 1) ∧ True) ∧ (((l + 1) * 16 ≤ (140737488355328 : Nat) ∧ l + 1 ≤ (140737488355328 : Nat)) ∧ l * 2 = Array.size bs ∧ True) ∧ Q true (ari BinOp.add IntKind.i64 i (1 : Int)) (l + 1) (bs ++ #[Value.int IntKind.i64 (intAt cs (off + Int.toNat i * 2)), Value.int IntKind.i64 (intAt cs (off + Int.toNat i * 2 + 1))]) ∧ CallKind.normal = CallKind.normal ∧ TodoOk (ren 1 [(1, 1), (2, 2), (3, 3), (4, 6)]) ofH ofH ∧ ari BinOp.add IntKind.i64 i (1 : Int) = ari BinOp.add IntKind.i64 i (1 : Int) ∧ ty = ty ∧ cs = cs ∧ (24 : TypeId) = (24 : TypeId) ∧ off = off ∧ n = n ∧ L = L ∧ (28 : TypeId) = (28 : TypeId) ∧ l + 1 = l + 1 ∧ L = L ∧ (28 : TypeId) = (28 : TypeId) ∧ Value.slice none (0 : Nat) (0 : Nat) = Value.slice none (0 : Nat) (0 : Nat) ∧ (42 : TypeId) = (42 : Nat) ∧ bs ++ #[Value.int IntKind.i64 (intAt cs (off + Int.toNat i * 2)), Value.int IntKind.i64 (intAt cs (off + Int.toNat i * 2 + 1))] = bs ++ #[Value.int IntKind.i64 (intAt cs (off + Int.toNat i * 2)), Value.int IntKind.i64 (intAt cs (off + Int.toNat i * 2 + 1))] ∧ True) ∧ (decide (i < (↑n : Int)) = false → rl = l ∧ L = L ∧ (42 : TypeId) = (42 : TypeId) ∧ rb = bs ∧ True)) := by kernel_rfl
theorem nds_run (s a : Int) (x : Int) (b : Bool) : (run EX 1000 0 (ndsC s a) ⟨0, .nil, []⟩).vc (pairR x b) (fun _ _ => False) =
    (((decide (s ≥ (1 : Int)) == true) = true → ((decide (s ≤ (128 : Int)) == true) = true → (((a == (1 : Int)) == false) = true → (((a == (2 : Int)) == false) = true → (((a == (4 : Int)) == false) = true → ((!a == (8 : Int)) = true → (0 : Int) = x ∧ false = b) ∧ ((!a == (8 : Int)) = false → ari BinOp.quo IntKind.i64 (ari BinOp.sub IntKind.i64 (ari BinOp.add IntKind.i64 s (32 : Int)) (1 : Int)) (32 : Int) = x ∧ true = b)) ∧ (((a == (4 : Int)) == false) = false → ari BinOp.quo IntKind.i64 (ari BinOp.sub IntKind.i64 (ari BinOp.add IntKind.i64 s (32 : Int)) (1 : Int)) (32 : Int) = x ∧ true = b)) ∧ (((a == (2 : Int)) == false) = false → ari BinOp.quo IntKind.i64 (ari BinOp.sub IntKind.i64 (ari BinOp.add IntKind.i64 s (32 : Int)) (1 : Int)) (32 : Int) = x ∧ true = b)) ∧ (((a == (1 : Int)) == false) = false → ari BinOp.quo IntKind.i64 (ari BinOp.sub IntKind.i64 (ari BinOp.add IntKind.i64 s (32 : Int)) (1 : Int)) (32 : Int) = x ∧ true = b)) ∧ ((decide (s ≤ (128 : Int)) == true) = false → (0 : Int) = x ∧ false = b)) ∧ ((decide (s ≥ (1 : Int)) == true) = false → (0 : Int) = x ∧ false = b)) := by kernel_rfl
end Go.Proofs.YtccbfkeigfnibaaDoor
/- Of extent: Of, and Needs: what they answer. No condition. -/
namespace Go.Proofs.YtccbfkeigfnibaaDoor
set_option maxRecDepth 100000
/-- The pairs, one behind the other. -/
def prsL (cs : Array Value) (off : Nat) : Nat → List Value
  | 0 => []
  | i + 1 => prsL cs off i ++ [.int .i64 (at0 cs off i), .int .i64 (nn0 cs off i)]
theorem prsL_len (cs : Array Value) (off : Nat) : ∀ n, (prsL cs off n).length = n * 2
  | 0 => rfl
  | n + 1 => by unfold prsL; rw [List.length_append, prsL_len cs off n]; simp; omega
theorem prsL_at (cs : Array Value) (off : Nat) : ∀ {n i : Nat}, i < n → (prsL cs off n)[i * 2]? = some (.int .i64 (at0 cs off i)) ∧ (prsL cs off n)[i * 2 + 1]? = some (.int .i64 (nn0 cs off i))
  | 0, i, h => by omega
  | n + 1, i, h => by
    have hl := prsL_len cs off n
    unfold prsL
    by_cases e : i = n
    · subst e
      rw [List.getElem?_append_right (by omega), List.getElem?_append_right (by omega), hl, show i * 2 - i * 2 = 0 by omega, show i * 2 + 1 - i * 2 = 1 by omega]
      exact ⟨rfl, rfl⟩
    · rw [List.getElem?_append_left (by omega), List.getElem?_append_left (by omega)]
      exact prsL_at cs off (by omega)
def prsA (cs : Array Value) (off n : Nat) : Array Value := (prsL cs off n).toArray
theorem is_of {cs : Array Value} {p : Nat} {k : IntKind} {n : Int} (h : cs[p]? = some (.int k n)) : intAt cs p = n ∧ IsInt k cs p := by
  have e : intAt cs p = n := by unfold intAt; rw [h]
  refine ⟨e, ?_⟩
  unfold IsInt
  rw [e]
  exact h
section
variable {cs : Array Value} {off n : Nat}
theorem prsA_at {i : Nat} (h : i < n) : at0 (prsA cs off n) 0 i = at0 cs off i ∧ nn0 (prsA cs off n) 0 i = nn0 cs off i ∧ IsInt .i64 (prsA cs off n) (0 + i * 2) ∧ IsInt .i64 (prsA cs off n) (0 + i * 2 + 1) := by
  obtain ⟨h1, h2⟩ := prsL_at cs off h
  have k1 : (prsA cs off n)[0 + i * 2]? = some (.int .i64 (at0 cs off i)) := by unfold prsA; rw [Nat.zero_add, List.getElem?_toArray]; exact h1
  have k2 : (prsA cs off n)[0 + i * 2 + 1]? = some (.int .i64 (nn0 cs off i)) := by unfold prsA; rw [Nat.zero_add, List.getElem?_toArray]; exact h2
  exact ⟨(is_of k1).1, (is_of k2).1, (is_of k1).2, (is_of k2).2⟩
theorem prsA_ok (hn : n ≤ 80) : PrOk (prsA cs off n) 0 n := ⟨by unfold prsA; rw [List.size_toArray, prsL_len]; omega, hn, fun i hi => (prsA_at hi).2.2.1, fun i hi => (prsA_at hi).2.2.2⟩
theorem prsA_sum : ∀ k, k ≤ n → sumN (prsA cs off n) 0 k = sumN cs off k
  | 0, _ => rfl
  | k + 1, h => by
    show sumN _ _ k + nn0 _ _ k = sumN cs off k + nn0 cs off k
    rw [prsA_sum k (by omega), (prsA_at (n := n) (show k < n by omega)).2.1]
theorem prsA_tkW : ∀ k, k ≤ n → tkW (prsA cs off n) 0 k = tkW cs off k
  | 0, _ => rfl
  | k + 1, h => by
    show takeW _ _ _ = takeW _ _ _
    rw [prsA_tkW k (by omega), (prsA_at (n := n) (show k < n by omega)).1, (prsA_at (n := n) (show k < n by omega)).2.1]
theorem prsA_tkOk : ∀ k, k ≤ n → tkOk (prsA cs off n) 0 k = tkOk cs off k
  | 0, _ => rfl
  | k + 1, h => by
    show (tkOk _ _ k && takeOk _ _ _) = (tkOk _ _ k && takeOk _ _ _)
    rw [prsA_tkOk k (by omega), prsA_tkW k (by omega), (prsA_at (n := n) (show k < n by omega)).1, (prsA_at (n := n) (show k < n by omega)).2.1]
theorem prsA_may (L : Int) : mayE (prsA cs off n) 0 n L = mayE cs off n L := by
  unfold mayE
  rw [prsA_tkOk n (Nat.le_refl _), prsA_sum n (Nat.le_refl _)]
theorem prsA_bytes : ∀ k, k ≤ n → bytesL (prsA cs off n) 0 k = bytesL cs off k
  | 0, _ => rfl
  | k + 1, h => by
    show bytesL _ _ k ++ _ = bytesL _ _ k ++ _
    rw [prsA_bytes k (by omega), (prsA_at (n := n) (show k < n by omega)).1, (prsA_at (n := n) (show k < n by omega)).2.1]
theorem prsA_plB (t : Int) : plB (prsA cs off n) 0 n t = plB cs off n t := by
  unfold plB
  rw [prsA_sum n (Nat.le_refl _)]
theorem prsA_plV (t : Int) : plV (prsA cs off n) 0 n t = plV cs off n t := by
  unfold plV
  rw [prsA_plB, prsA_bytes n (Nat.le_refl _)]
theorem prsA_eq (h : PrOk cs off n) : EqR (prsA cs off n) 0 cs off n := ⟨by have := h.le; omega, fun i hi => by
  obtain ⟨k1, k2, k3, k4⟩ := prsA_at (cs := cs) (off := off) hi
  exact ⟨k3, k4, h.a i hi, h.b i hi, k1, k2⟩⟩
end
theorem ofT_ok : TodoOk (ren 1 [(1, 1), (2, 2), (3, 3)]) ofT ofT := TodoOk.same (by kernel_rfl)
theorem ofH_ok : TodoOk (ren 1 [(1, 1), (2, 2), (3, 3), (4, 6)]) ofH ofH := TodoOk.same (by kernel_rfl)
theorem ofN_good {h : Bool} {off n : Nat} {L : Int} {cs : Array Value} {ty : TypeId} {A : SV → SMem → Prop} {Q : Bool → Int → Nat → Array Value → Prop} {fs : List SFr} {m : SMem} (H : ∀ w i l bs, Q w i l bs → Good Tryd.prog A 1 (headF (ofF i)) (ofM w off n L cs ty l bs)) (hb : ofN h off n L cs ty Q fs m) : Good Tryd.prog A 1 fs m := by
  unfold ofN at hb
  split at hb
  · split at hb
    · split at hb
      · exact hF_good hb.2 (H _ _ _ _ hb.1)
      · exact hF_good hb.2 (H _ _ _ _ hb.1)
      · exact hb.elim
    · exact hb.elim
  · exact hb.elim
section
variable {off n : Nat} {cs : Array Value} (ty : TypeId) (L : Int) (h : PrOk cs off n)
include h
theorem of_round : ∀ k i : Nat, i + k = n → 1 ≤ i → Good Tryd.prog (ofRet n L (prsA cs off n)) 1 (headF (ofF i)) (ofM true off n L cs ty i (prsA cs off i)) := by
  have hle := h.le
  intro k
  induction k with
  | zero =>
    intro i hi h1
    obtain rfl : i = n := by omega
    refine past_vc EX_ok 1000 (of_s1 off i L cs ty i (prsA cs off i) i i (prsA cs off i) (fun _ _ _ _ => False)) ?_ (fun _ _ h => h) (fun fs m hb => ofN_good (fun _ _ _ _ h => h.elim) hb)
    refine ⟨fun hd => ?_, fun _ => ⟨rfl, rfl, rfl, rfl, trivial⟩⟩
    have := of_decide_eq_true hd
    omega
  | succ k ih =>
    intro i hi h1
    have hi' : i < n := by omega
    have hN := next80 hi' hle
    have hmore : prsA cs off i ++ #[Value.int .i64 (intAt cs (off + i * 2)), Value.int .i64 (intAt cs (off + i * 2 + 1))] = prsA cs off (i + 1) := by
      unfold prsA
      show _ = (prsL cs off i ++ [Value.int .i64 (at0 cs off i), Value.int .i64 (nn0 cs off i)]).toArray
      rw [← List.append_toArray]
      rfl
    have hsz : i * 2 = (prsA cs off i).size := by unfold prsA; rw [List.size_toArray, prsL_len]
    refine past_vc EX_ok 1000 (of_s1 off n L cs ty i (prsA cs off i) i n (prsA cs off n) (fun w i' l bs => w = true ∧ i' = ((i + 1 : Nat) : Int) ∧ l = i + 1 ∧ bs = prsA cs off (i + 1))) ?_ (fun _ _ h => h)
      (fun fs m hb => ofN_good (fun w i' l bs ⟨e1, e2, e3, e4⟩ => by rw [e1, e2, e3, e4]; exact ih (i + 1) (by omega) (by omega)) hb)
    have hij : ((0 : Int) ≤ (i : Int) ∧ (i : Int) < (n : Int)) ∧ True := ⟨⟨by omega, by omega⟩, trivial⟩
    refine ⟨fun _ => ?_, fun hd => ?_⟩
    · simp only [Int.toNat_natCast, hN, hmore]
      have hTH := ofH_ok
      refine ⟨hij, ⟨h.a i hi', trivial⟩, hij, ⟨h.b i hi', trivial⟩, ⟨⟨by omega, by omega⟩, hsz, trivial⟩, ?_⟩
      repeat' first | exact hTH | exact trivial | exact rfl | apply And.intro
    · have := of_decide_eq_false hd
      omega
theorem of_good (hn : n ≠ 0) : Good Tryd.prog (fun s m' => s = .s (.agg (.ls [.f (.slice 1 (.l 0) (.o n) .any), .f (.int .i64 (.o L))])) ∧ m' = ⟨2, Tr.nil.set 1 (some ⟨.pop (prsA cs off n), 42, true⟩), []⟩) 1 (ofC off n L) (rwM true cs ty) := by
  have hle := h.le
  refine Good.retX (Good.mono (run_vc EX_ok 1000 (of_start off n L cs ty n (prsA cs off n) (fun w i l bs => w = false ∧ i = 0 ∧ l = 0 ∧ bs = #[])) ?_ (fun _ _ h => h)
    (fun fs m hb => ofN_good (fun w i l bs ⟨e1, e2, e3, e4⟩ => by
      rw [e1, e2, e3, e4]
      refine past_vc EX_ok 1000 (of_s0 off n L cs ty 0 n (prsA cs off n) (fun w i' l bs => w = true ∧ i' = ((1 : Nat) : Int) ∧ l = 1 ∧ bs = prsA cs off 1)) ?_ (fun _ _ h => h)
        (fun fs m hb => ofN_good (fun w i' l bs ⟨e1, e2, e3, e4⟩ => by rw [e1, e2, e3, e4]; exact of_round ty L h (n - 1) 1 (by omega) (by omega)) hb)
      have hTH := ofH_ok
      have a0 := h.a 0 (by omega)
      have b0 := h.b 0 (by omega)
      refine ⟨fun _ => ⟨⟨⟨by omega, by omega⟩, trivial⟩, ⟨a0, trivial⟩, ⟨⟨by omega, by omega⟩, trivial⟩, ⟨b0, trivial⟩, ⟨rfl, rfl, rfl, rfl⟩, rfl, hTH, ?_⟩, fun hd => ?_⟩
      · repeat' first | exact trivial | exact rfl | apply And.intro
      · have := of_decide_eq_false hd
        omega) hb)) ?_)
  · have hT := ofT_ok
    repeat' first | exact hT | exact trivial | exact rfl | apply And.intro
  · intro s m h
    unfold ofRet at h
    split at h
    · exact ⟨_, h⟩
    · exact h.elim
end
theorem ofx_con {m : SMem} {i : Nat} {o n : SN} {cap : SK} {x : SI} {cs : Array Value} (hr : rowV m i = some (true, cs)) :
    Con E0 6 [.s (.agg (.ls [.f (.slice i o n cap), .f (.int .i64 x)]))] m (needs [PrOk cs o.den n.den, n.den ≠ 0]
      (.ret (.s (.agg (.ls [.f (.slice m.next (.l 0) (.o n.den) .any), .f (.int .i64 (.o x.den))]))) (m.new (.pop (prsA cs o.den n.den)) 42))) := by
  obtain ⟨ty, wr, hb⟩ := rowV_of hr
  intro A hs
  obtain ⟨hq, hA⟩ := Tree.sat_needs hs
  refine ⟨Tryd.f6, (by kernel_rfl : E0.fn 6 = some Tryd.f6), by rw [(by kernel_rfl : Tryd.f6.body = some (Tryd.f6.body.getD .skip))]; rfl, fun n0 F w0 w R args ha hR => ?_⟩
  obtain ⟨gx, ds, fz, k1, _⟩ := hR.blk _ _ hb
  have hlt := hR.nx _ _ k1
  have hl' : All2 (SV.ok (pull (fun _ => i) 1 R)) [extS o.den n.den x.den] args.toList := by
    revert ha
    generalize args.toList = vs
    intro ha
    match vs, ha with
    | [u], ha =>
      obtain ⟨⟨ds, e, hd⟩, _⟩ := ha
      refine ⟨⟨ds, e, ?_⟩, trivial⟩
      have hd : All2 (SC.ok R) [.f (.slice i o n cap), .f (.int .i64 x)] ds.toList := hd
      show All2 (SC.ok _) [.f (sl0 o.den n.den), .f (.int .i64 (.o x.den))] ds.toList
      generalize ds.toList = L at hd ⊢
      match L, hd with
      | [a, b], hd =>
        obtain ⟨⟨gl, cp, e1, e2, e3, e4⟩, hb2, _⟩ := hd
        exact ⟨⟨gl, cp, by unfold pull; exact e1, e2, trivial, e4⟩, hb2, trivial⟩
  refine (frame (ms := rwM true cs ty) (ms' := ⟨2, Tr.nil.set 1 (some ⟨.pop (prsA cs o.den n.den), 42, true⟩), []⟩) (E0_ok.fns 6 _ (by kernel_rfl : E0.fn 6 = some Tryd.f6)).1 (by kernel_rfl : Tryd.f6.body = some (Tryd.f6.body.getD .skip)) (of_good ty x.den (hq _ (by simp)) (hq _ (by simp))) rfl (ι := fun _ => i) ?_ (fun _ _ => hlt) ?_ ?_ ?_ (show 1 ≤ 2 by decide) hl' hR).mono ?_
  · intro a b h1 h2 _
    have h1 : a < 1 := h1
    have h2 : b < 1 := h2
    omega
  · intro j b hj
    obtain ⟨rfl, rfl⟩ := rwM_get hj
    exact ⟨Nat.zero_lt_one, _, hb, rfl, fun h => (by cases h), fun R cs' h => h⟩
  · intro j b hj hw
    obtain ⟨rfl, rfl⟩ := rwM_get hj
    cases hw
  · intro j b hj h1
    have h1 : j < 1 := h1
    have e : j = 0 := by omega
    subst e
    have hj : (none : Option SBlk) = some b := hj
    cases hj
  · rintro u w' ⟨R', k1, k2, k3⟩
    exact ⟨_, _, R', hA, k1, k2, k3⟩
theorem nds_con (s a : SI) (m : SMem) : Con E0 7 [i64 s, i64 a] m (needs [] (.ret (.tup [.c (.f (.int .i64 (.o (needN s.den a.den)))), .c (.f (.bool (.o (objB s.den a.den))))]) m)) := by
  refine Con.ro E0_ok (l' := [i64 (.o s.den), i64 (.o a.den)]) (ms := ⟨0, .nil, []⟩) (m := m) (q := []) (A := pairR (needN s.den a.den) (objB s.den a.den)) (by kernel_rfl : E0.fn 7 = some Tryd.f7) (by kernel_rfl : Tryd.f7.body = some (Tryd.f7.body.getD .skip)) rfl (fun i => i) (fun i b hb => by
    have hb : (Tr.nil : Tr SBlk).get i = some b := hb
    rw [Tr.get_nil] at hb; cases hb) (fun R vs ha => ?_) (fun _ => ?_) (fun s m' R R' u h hv => ?_)
  · match vs, ha with
    | [x, y], ha => exact ⟨ha.1, ha.2.1, trivial⟩
  · generalize s.den = s
    generalize a.den = a
    refine run_vc EX_ok 1000 (nds_run s a (needN s a) (objB s a)) ?_ (fun _ _ h => h) (fun _ _ h => h.elim)
    have no : ¬ (1 ≤ s ∧ s ≤ 128 ∧ (a = 1 ∨ a = 2 ∨ a = 4 ∨ a = 8)) → 0 = needN s a ∧ false = objB s a := fun hn => by
      have hf : objB s a = false := by
        cases e : objB s a with
        | false => rfl
        | true => exact absurd (objB_iff.1 e) hn
      unfold needN
      rw [hf]
      exact ⟨rfl, rfl⟩
    have yes : 1 ≤ s → s ≤ 128 → (a = 1 ∨ a = 2 ∨ a = 4 ∨ a = 8) → ari .quo .i64 (ari .sub .i64 (ari .add .i64 s 32) 1) 32 = needN s a ∧ true = objB s a := fun k1 k2 k3 => by
      have hf : objB s a = true := objB_iff.2 ⟨k1, k2, k3⟩
      have e1 : ari .add .i64 s 32 = s + 32 := by rw [ari_add, i64w (by omega)]
      have e2 : ari .sub .i64 (s + 32) 1 = s + 31 := by rw [ari_sub, i64w (by omega)]; omega
      have e3 : ari .quo .i64 (s + 31) 32 = (s + 31) / 32 := by
        show IntKind.i64.wrap (Int.tdiv (s + 31) 32) = _
        rw [Int.tdiv_eq_ediv_of_nonneg (by omega)]
        exact i64w (by omega)
      unfold needN
      rw [e1, e2, e3, hf]
      exact ⟨rfl, rfl⟩
    generalize hX : (0 = needN s a ∧ false = objB s a) = X at *
    generalize hY : (ari .quo .i64 (ari .sub .i64 (ari .add .i64 s 32) 1) 32 = needN s a ∧ true = objB s a) = Y at *
    clear hX hY
    simp only [decide_eq_true_eq, beq_iff_eq, beq_eq_false_iff_ne, decide_eq_false_iff_not, ne_eq, beq_true, beq_false, Bool.not_eq_eq_eq_not, Bool.not_true, Bool.not_false]
    repeat' first | apply And.intro | (intro hh)
    all_goals first
      | exact no (by omega)
      | exact yes (by omega) (by omega) (by omega)
  · unfold pairR at h
    split at h
    · obtain ⟨e1, e2⟩ := h
      obtain ⟨vs, rfl, hl⟩ := hv
      refine ⟨vs, rfl, ?_⟩
      generalize vs.toList = T at hl ⊢
      match T, hl with
      | [a, b], hl =>
        obtain ⟨ha, hb, _⟩ := hl
        have ha : a = .int .i64 _ := ha
        have hb : b = .bool _ := hb
        rw [e1] at ha
        rw [e2] at hb
        exact ⟨ha, hb, trivial⟩
    · exact h.elim
end Go.Proofs.YtccbfkeigfnibaaDoor
/- Of extent: what the law asks of its functions: the environment. No condition. -/
namespace Go.Proofs.YtccbfkeigfnibaaDoor
set_option maxRecDepth 100000
noncomputable section
def prT (x : Int) (b : Bool) (m : SMem) : Tree := .ret (.tup [.c (.f (.int .i64 (.o x))), .c (.f (.bool (.o b)))]) m
def conT (g : FuncId) (l : List SV) (m : SMem) : Option Tree :=
  match g, l with
  | 5, [] => some (needs [] (.ret (sB (.l true)) m))
  | 6, [.s (.agg (.ls [.f (.slice i o n _), .f (.int .i64 x)]))] => match rowV m i with
    | some (true, cs) => some (needs [PrOk cs o.den n.den, n.den ≠ 0] (.ret (.s (.agg (.ls [.f (.slice m.next (.l 0) (.o n.den) .any), .f (.int .i64 (.o x.den))]))) (m.new (.pop (prsA cs o.den n.den)) 42)))
    | _ => none
  | 7, [.s (.c (.f (.int .i64 s))), .s (.c (.f (.int .i64 a)))] => some (needs [] (prT (needN s.den a.den) (objB s.den a.den) m))
  | 8, [.s (.c (.f (.int .i64 s))), .s (.c (.f (.int .i64 a)))] => some (needs [] (.ret (i64 (.o (needN s.den a.den))) m))
  | 9, [.s (.agg (.ls [.f (.slice i o n _), .f (.int .i64 x)]))] => match rowV m i with
    | some (false, cs) => some (needs [PrOk cs o.den n.den] (.ret (sB (.o (mayE cs o.den n.den x.den))) m))
    | _ => none
  | 10, [.s (.agg (.ls [.f (.slice i o n _), .f (.int .i64 x)]))] => match rowV m i with
    | some (true, cs) => some (needs [PrOk cs o.den n.den] (.ret (sB (.o (mayE cs o.den n.den x.den))) m))
    | _ => none
  | 11, [.s (.agg (.ls [.f (.slice i o n _), .f (.int .i64 _)]))] => byV m i o n
  | 12, [.s (.agg (.ls [.f (.slice i o n _), .f (.int .i64 x)])), .s (.c (.f (.int .i64 y))), .s (.c (.f (.int .i64 z)))] => match rowV m i with
    | some (false, cs) => some (needs [PrOk cs o.den n.den, tkOk cs o.den n.den = true, 0 ≤ x.den, x.den ≤ 32 * sumN cs o.den n.den] (prT (fitV x.den y.den z.den (32 * sumN cs o.den n.den)) (fitOk x.den y.den z.den (32 * sumN cs o.den n.den)) m))
    | _ => none
  | 13, [.s (.agg (.ls [.f (.slice i o n _), .f (.int .i64 x)])), .s (.c (.f (.int .i64 y))), .s (.c (.f (.int .i64 z)))] => match rowV m i with
    | some (true, cs) => some (needs [PrOk cs o.den n.den, tkOk cs o.den n.den = true, 0 ≤ x.den, x.den ≤ 32 * sumN cs o.den n.den, n.den ≠ 0] (.ret (i64 (.o (fitR x.den y.den z.den (32 * sumN cs o.den n.den)))) m))
    | _ => none
  | 15, [.s (.agg (.ls [.f (.slice i o n _), .f (.int .i64 x)])), .s (.agg (.ls [.f (.slice j o' n' _), .f (.int .i64 y)]))] => match rowV m i with
    | some (false, cs) => match rowV m j with
      | some (_, ds) => some (needs [n'.den = n.den, y.den = x.den, EqR cs o.den ds o'.den n.den] (.ret (sB (.l true)) m))
      | none => none
    | _ => none
  | 16, [.s (.agg (.ls [.f (.slice i o n _), .f (.int .i64 _)]))] => pgV m i o n
  | 17, [.s (.agg (.ls [.f (.slice i o n _), .f (.int .i64 _)])), .s (.c (.f (.int .i64 y)))] => match rowV m i with
    | some (false, cs) => some (needs [PrOk cs o.den n.den, tkOk cs o.den n.den = true, -9223372036854775808 ≤ y.den ∧ y.den ≤ 9223372036854775807] (prT (plV cs o.den n.den y.den) (plB cs o.den n.den y.den) m))
    | _ => none
  | _, _ => none
def ET : Env := ⟨Tryd.prog, fnOf, conT, fun _ _ x => isLoop x⟩
end
theorem conT_ok : ∀ g l m t, conT g l m = some t → Con E0 g l m t := by
  intro g l m t h
  unfold conT at h
  split at h
  · cases h; exact wakes_con m
  · split at h
    · rename_i e; cases h; exact ofx_con e
    · cases h
  · cases h; exact nds_con _ _ m
  · cases h
    refine Con.args (need_con _ _ m) fun R vs ha => ?_
    match vs, ha with
    | [x, y], ha => exact ⟨ha.1, ha.2.1, trivial⟩
  · split at h
    · rename_i e; cases h; exact my_con e
    · cases h
  · split at h
    · rename_i e; cases h; exact mr_con e
    · cases h
  · unfold byV at h
    split at h
    · rename_i e; cases h; exact by_con e
    · cases h
  · split at h
    · rename_i e; cases h; exact ft_con e
    · cases h
  · split at h
    · rename_i e; cases h; exact fr_con e
    · cases h
  · split at h
    · rename_i e
      split at h
      · rename_i e'; cases h; exact sm_con e e'
      · cases h
    · cases h
  · unfold pgV at h
    split at h
    · rename_i e; cases h; exact pg_con e
    · cases h
  · split at h
    · rename_i e; cases h; exact pl_con e
    · cases h
  · cases h
theorem ET_ok : EnvOk ET := EnvOk.with E0_ok _ _ conT_ok
noncomputable section
def tlC (x : SV) (s a t pg pn : Int) : List SFr := [callFr 3 Tryd.f3.ntmps [x, i64 (.o s), i64 (.o a), i64 (.o t), i64 (.o pg), i64 (.o pn)] (Tryd.f3.body.getD .skip)]
end
end Go.Proofs.YtccbfkeigfnibaaDoor
/- Of runs: the loop of each below Find: its states. No condition. -/
namespace Go.Proofs.YtccbfkeigfnibaaDoor
noncomputable section
def findC (x n : Int) : List SFr := [callFr 20 Tryd.f20.ntmps [setIs x, i64 (.o n)] (Tryd.f20.body.getD .skip)]
def findT0 : List SIt := tdAt 0 (opF (findC 0 0) 0)
def findH0 : List SIt := tdAt 0 (opH (findC 0 0) 0)
def findT1 : List SIt := tdAt 1 (opF (findC 0 0) 0)
def findH1 : List SIt := tdAt 1 (opH (findC 0 0) 0)
def findT2 : List SIt := tdAt 2 (opF (findC 0 0) 0)
def findH2 : List SIt := tdAt 2 (opH (findC 0 0) 0)
def findLp : LoopP := getLp (loopAt 0 (opM (findC 0 0)))
end
end Go.Proofs.YtccbfkeigfnibaaDoor
/- Of runs: the loop of each below Find, as propositions. No condition. -/
namespace Go.Proofs.YtccbfkeigfnibaaDoor
set_option maxRecDepth 100000
theorem find_start (x n y : Int) (b : Bool) (Q : Int → Prop) : (opR (findC x n)).vc (opA (intB y b)) (opN0 (findC x n) Q) =
    ((decide (n < (1 : Int)) = true → y = (0 : Int) ∧ b = false ∧ True) ∧ (decide (n < (1 : Int)) = false → Q x ∧ CallKind.normal = CallKind.normal ∧ TodoOk (ren 0 [(0, 0), (1, 1), (2, 2), (3, 3), (4, 4), (5, 5), (6, 6), (7, 7)]) findT0 findT0 ∧ x = x ∧ x = x ∧ CallKind.normal = CallKind.normal ∧ TodoOk (ren 0 [(0, 0), (1, 1), (2, 2), (3, 3), (4, 4), (5, 5), (6, 6), (7, 7)]) findT1 findT1 ∧ x = x ∧ Fn.func (29 : Nat) = Fn.func (29 : Nat) ∧ Fn.func (35 : Nat) = Fn.func (35 : Nat) ∧ x = x ∧ CallKind.normal = CallKind.normal ∧ TodoOk (ren 0 [(0, 0), (1, 1), (2, 2), (3, 3), (4, 4), (5, 5), (6, 6), (7, 7)]) findT2 findT2 ∧ x = x ∧ n = n ∧ n = n ∧ x = x ∧ Fn.func (29 : Nat) = Fn.func (29 : Nat) ∧ (48 : Nat) = (48 : Nat) ∧ x = x ∧ (3 : Nat) = (3 : Nat) ∧ n = n ∧ (64 : Nat) = (64 : Nat) ∧ Fn.func (29 : Nat) = Fn.func (29 : Nat) ∧ (48 : Nat) = (48 : Nat) ∧ x = x ∧ (48 : Nat) = (48 : Nat) ∧ x = x ∧ (42 : Nat) = (42 : Nat) ∧ EqL findLp findLp ∧ x = x ∧ Fn.func (29 : Nat) = Fn.func (29 : Nat) ∧ Fn.func (35 : Nat) = Fn.func (35 : Nat) ∧ x = x ∧ True)) := by kernel_rfl
theorem find_step (x n left y : Int) (b : Bool) (Q : Int → Prop) : (opS (findC x n) left).vc (opA (intB y b)) (opN (findC x n) Q) =
    (((left != (0 : Int)) = true → (uw (BitVec.ofInt (64 : Nat) left) = left ∧ True) ∧ ((0 : Int) ≤ tzI left ∧ True) ∧ (uw (BitVec.ofInt (64 : Nat) (ari BinOp.xor IntKind.u64 (18446744073709551615 : Int) (ari BinOp.shr IntKind.u64 left (tzI left)))) = ari BinOp.xor IntKind.u64 (18446744073709551615 : Int) (ari BinOp.shr IntKind.u64 left (tzI left)) ∧ True) ∧ (decide (tzI (ari BinOp.xor IntKind.u64 (18446744073709551615 : Int) (ari BinOp.shr IntKind.u64 left (tzI left))) ≥ n) = true → y = tzI left ∧ b = !(tzI left == (0 : Int) && tzI (ari BinOp.xor IntKind.u64 (18446744073709551615 : Int) (ari BinOp.shr IntKind.u64 left (tzI left))) == (0 : Int)) ∧ True) ∧ (decide (tzI (ari BinOp.xor IntKind.u64 (18446744073709551615 : Int) (ari BinOp.shr IntKind.u64 left (tzI left))) ≥ n) = false → ((0 : Int) ≤ IntKind.wrap IntKind.i64 ((64 : Int) - tzI (ari BinOp.xor IntKind.u64 (18446744073709551615 : Int) (ari BinOp.shr IntKind.u64 left (tzI left)))) ∧ (0 : Int) ≤ tzI left ∧ True) ∧ Q (ari BinOp.andNot IntKind.u64 left (spanI (tzI left) (tzI (ari BinOp.xor IntKind.u64 (18446744073709551615 : Int) (ari BinOp.shr IntKind.u64 left (tzI left)))))) ∧ CallKind.normal = CallKind.normal ∧ TodoOk (ren 0 [(0, 0), (1, 1), (2, 2), (3, 3), (4, 4), (5, 5), (6, 6), (7, 7)]) findH0 findH0 ∧ ari BinOp.andNot IntKind.u64 left (spanI (tzI left) (tzI (ari BinOp.xor IntKind.u64 (18446744073709551615 : Int) (ari BinOp.shr IntKind.u64 left (tzI left))))) = ari BinOp.andNot IntKind.u64 left (spanI (tzI left) (tzI (ari BinOp.xor IntKind.u64 (18446744073709551615 : Int) (ari BinOp.shr IntKind.u64 left (tzI left))))) ∧ x = x ∧ CallKind.normal = CallKind.normal ∧ TodoOk (ren 0 [(0, 0), (1, 1), (2, 2), (3, 3), (4, 4), (5, 5), (6, 6), (7, 7)]) findH1 findH1 ∧ x = x ∧ Fn.func (29 : Nat) = Fn.func (29 : Nat) ∧ Fn.func (35 : Nat) = Fn.func (35 : Nat) ∧ x = x ∧ CallKind.normal = CallKind.normal ∧ TodoOk (ren 0 [(0, 0), (1, 1), (2, 2), (3, 3), (4, 4), (5, 5), (6, 6), (7, 7)]) findH2 findH2 ∧ x = x ∧ n = n ∧ n = n ∧ x = x ∧ Fn.func (29 : Nat) = Fn.func (29 : Nat) ∧ (48 : Nat) = (48 : Nat) ∧ x = x ∧ (3 : Nat) = (3 : Nat) ∧ n = n ∧ (64 : Nat) = (64 : Nat) ∧ Fn.func (29 : Nat) = Fn.func (29 : Nat) ∧ (48 : Nat) = (48 : Nat) ∧ x = x ∧ (48 : Nat) = (48 : Nat) ∧ x = x ∧ (42 : Nat) = (42 : Nat) ∧ EqL findLp findLp ∧ x = x ∧ Fn.func (29 : Nat) = Fn.func (29 : Nat) ∧ Fn.func (35 : Nat) = Fn.func (35 : Nat) ∧ x = x ∧ True)) ∧ ((left != (0 : Int)) = false → y = (0 : Int) ∧ b = false ∧ True)) := by kernel_rfl
end Go.Proofs.YtccbfkeigfnibaaDoor
/- Of runs: Find: what it answers. No condition. -/
namespace Go.Proofs.YtccbfkeigfnibaaDoor
set_option maxRecDepth 100000
/-- The least place from one on that is so. -/
def seek (P : Nat → Bool) : Nat → Nat → Option Nat
  | 0, _ => none
  | k + 1, a => match P a with
    | true => some a
    | false => seek P k (a + 1)
theorem seek_some {P : Nat → Bool} : ∀ {k a b : Nat}, seek P k a = some b → a ≤ b ∧ b < a + k ∧ P b = true ∧ ∀ i, a ≤ i → i < b → P i = false
  | 0, _, _, h => by cases h
  | k + 1, a, b, h => by
    unfold seek at h
    split at h
    · rename_i e; cases h; exact ⟨Nat.le_refl _, by omega, e, fun i h1 h2 => by omega⟩
    · rename_i e
      obtain ⟨h1, h2, h3, h4⟩ := seek_some h
      refine ⟨by omega, by omega, h3, fun i k1 k2 => ?_⟩
      rcases Nat.lt_or_ge a i with k3 | k3
      · exact h4 i k3 k2
      · have : i = a := by omega
        subst this; exact e
theorem seek_none {P : Nat → Bool} : ∀ {k a : Nat}, (∀ i, a ≤ i → i < a + k → P i = false) → seek P k a = none
  | 0, _, _ => rfl
  | k + 1, a, h => by
    unfold seek
    rw [h a (Nat.le_refl _) (by omega)]
    exact seek_none fun i h1 h2 => h i (by omega) (by omega)
theorem seek_of {P : Nat → Bool} : ∀ {k a b : Nat}, a ≤ b → b < a + k → P b = true → (∀ i, a ≤ i → i < b → P i = false) → seek P k a = some b
  | 0, _, _, _, _, _, _ => by omega
  | k + 1, a, b, h1, h2, h3, h4 => by
    unfold seek
    rcases Nat.lt_or_ge a b with h | h
    · rw [h4 a (Nat.le_refl _) h]
      exact seek_of (by omega) (by omega) h3 fun i k1 k2 => h4 i (by omega) k2
    · have : a = b := by omega
      subst this
      rw [h3]
theorem seek_noneD {P : Nat → Bool} : ∀ {k a : Nat}, seek P k a = none → ∀ i, a ≤ i → i < a + k → P i = false
  | 0, _, _, _, _, _ => by omega
  | k + 1, a, h, i, h1, h2 => by
    unfold seek at h
    split at h
    · cases h
    · rename_i e
      rcases Nat.lt_or_ge a i with k3 | k3
      · exact seek_noneD h i k3 (by omega)
      · have : i = a := by omega
        subst this; exact e
/-- Does a run lie there? -/
def fitsAt (X : BitVec 64) (n : Int) (a : Nat) : Bool := decide (1 ≤ n ∧ n + (a : Int) ≤ 64) && allIn X a n.toNat true
theorem fitsAt_iff {X : BitVec 64} {n : Int} {a : Nat} : fitsAt X n a = true ↔ 1 ≤ n ∧ n + (a : Int) ≤ 64 ∧ ∀ i, a ≤ i → i < a + n.toNat → X.getLsbD i = true := by
  unfold fitsAt
  rw [Bool.and_eq_true, decide_eq_true_eq]
  constructor
  · rintro ⟨⟨h1, h2⟩, h3⟩
    exact ⟨h1, h2, (allIn_iff (by omega)).1 h3⟩
  · rintro ⟨h1, h2, h3⟩
    exact ⟨⟨h1, h2⟩, (allIn_iff (by omega)).2 h3⟩
def findN (X : BitVec 64) (n : Int) : Option Nat := seek (fitsAt X n) 64 0
def findI (X : BitVec 64) (n : Int) : Int := match findN X n with | some a => (a : Nat) | none => 0
def findOk (X : BitVec 64) (n : Int) : Bool := (findN X n).isSome
theorem find_none {X : BitVec 64} {n : Int} (h : findN X n = none) : findI X n = 0 ∧ findOk X n = false := by
  unfold findI findOk; rw [h]; exact ⟨rfl, rfl⟩
theorem find_some {X : BitVec 64} {n : Int} {a : Nat} (h : findN X n = some a) : findI X n = (a : Nat) ∧ findOk X n = true := by
  unfold findI findOk; rw [h]; exact ⟨rfl, rfl⟩
section
variable (X : BitVec 64) (n : Int)
theorem find_good (hn : 1 ≤ n) : ∀ (k : Nat) (L : BitVec 64) (q : Nat), 64 - q < k → Part X L q → (∀ i, i < q → fitsAt X n i = false) →
    Good EC.P (opA (intB (findI X n) (findOk X n))) 0 (opH (findC (uw X) n) (uw L)) (opM (findC (uw X) n)) := by
  have hi64 : ∀ t : Int, 0 ≤ t → t ≤ 128 → IntKind.i64.wrap t = t := fun t h1 h2 => Go.IntWalk.i64_in _ (by omega)
  intro k
  induction k with
  | zero => intro L q h; omega
  | succ k ih =>
    intro L q hk hP hI
    refine past_vc EC_ok 1000 (find_step (uw X) n (uw L) (findI X n) (findOk X n) (fun left => ∃ L' q', left = uw L' ∧ 64 - q' < k ∧ Part X L' q' ∧ (∀ i, i < q' → fitsAt X n i = false))) ?_ (fun _ _ h => h)
      (fun fs m hb => opN_good (fun left ⟨L', q', e, k1, k2, k3⟩ => by rw [e]; exact ih L' q' k1 k2 k3) hb)
    by_cases hL : L = 0#64
    · subst hL
      have h0 : findN X n = none := by
        refine seek_none fun i _ _ => ?_
        by_cases h : i < q
        · exact hI i h
        · cases h1 : fitsAt X n i with
          | false => rfl
          | true =>
            obtain ⟨_, _, h3⟩ := fitsAt_iff.1 h1
            have := h3 i (Nat.le_refl _) (by omega)
            rw [hP.done i (by omega)] at this
            cases this
      obtain ⟨e1, e2⟩ := find_none h0
      refine ⟨fun h => ?_, fun _ => ⟨e1, e2, trivial⟩⟩
      cases h
    · obtain ⟨hr, hP'⟩ := hP.next hL
      have ha := tz_lt hL
      rw [uw_ne_true L hL]
      simp only [tzI_uw, ari_n, tzn_def, ofInt_uw, ari_next hL, nz_run hL, Bool.not_false]
      have hle := hr.le
      have hpa := hr.pa
      have hn1 := hr.n1
      have e4 : IntKind.i64.wrap (64 - (tzn L : Nat)) = 64 - (tzn L : Nat) := hi64 _ (by omega) (by omega)
      rw [e4]
      have hgap : ∀ i, i < tz L → fitsAt X n i = false := by
        intro i h
        by_cases h1 : i < q
        · exact hI i h1
        · cases h2 : fitsAt X n i with
          | false => rfl
          | true =>
            obtain ⟨_, _, h3⟩ := fitsAt_iff.1 h2
            have := h3 i (Nat.le_refl _) (by omega)
            rw [hr.gap i (by omega) h] at this
            cases this
      refine ⟨fun _ => ⟨⟨trivial, trivial⟩, ⟨by omega, trivial⟩, ⟨trivial, trivial⟩, fun c => ?_, fun c => ⟨⟨by omega, by omega, trivial⟩, ⟨nextW L, tz L + tzn L, rfl, by omega, hP', fun i h => ?_⟩, ?_⟩⟩, fun h => ?_⟩
      · have c : n ≤ (tzn L : Nat) := by simpa using c
        obtain ⟨e1, e2⟩ := find_some (seek_of (Nat.zero_le _) (by omega) (fitsAt_iff.2 ⟨hn, by omega, fun i h1 h2 => hr.all i h1 (by omega)⟩) fun i _ h => hgap i h)
        exact ⟨e1, e2, trivial⟩
      · have c : (tzn L : Nat) < n := by simpa using c
        by_cases h1 : i < tz L
        · exact hgap i h1
        · cases h2 : fitsAt X n i with
          | false => rfl
          | true =>
            obtain ⟨_, h4, h3⟩ := fitsAt_iff.1 h2
            have := h3 (tz L + tzn L) (by omega) (by omega)
            rw [hr.hi] at this
            cases this
      · repeat' first | exact trivial | apply And.intro | exact rfl
      · cases h
end
end Go.Proofs.YtccbfkeigfnibaaDoor
/- Of runs: the contract of Find. No condition. -/
namespace Go.Proofs.YtccbfkeigfnibaaDoor
set_option maxRecDepth 100000
section
variable (X : BitVec 64) (p n : Int) (m : SMem)
theorem find_con : Con E0 20 [setIs (uw X), i64 (.o n)] m (needs [] (.ret (intB (findI X n) (findOk X n)) m)) := by
  refine Con.pure E0_ok (by kernel_rfl : E0.fn 20 = some Tryd.f20) (by kernel_rfl : Tryd.f20.body = some (Tryd.f20.body.getD .skip)) (by kernel_rfl) (by kernel_rfl) fun _ => ?_
  refine (Good.ret (m := ⟨0, .nil, []⟩) (s0m := ⟨0, .nil, []⟩) (s0 := intB (findI X n) (findOk X n)) [] ?_).mono fun _ _ h => h.1
  show Good EC.P _ 0 (findC (uw X) n) _
  by_cases hn : n < 1
  · have h0 : findN X n = none := seek_none fun i _ _ => by
      cases h : fitsAt X n i with
      | false => rfl
      | true => have := (fitsAt_iff.1 h).1; omega
    obtain ⟨e1, e2⟩ := find_none h0
    refine run_vc EC_ok 1000 (find_start (uw X) n (findI X n) (findOk X n) (fun _ => False)) ?_ (fun _ _ h => h) (fun fs m hb => opN0_good (fun _ h => h.elim) hb)
    rw [decide_eq_true hn]
    exact ⟨fun _ => ⟨e1, e2, trivial⟩, fun h => by cases h⟩
  · have hq : ∀ left, left = uw X → Good EC.P (opA (intB (findI X n) (findOk X n))) 0 (opH (findC (uw X) n) left) (opM (findC (uw X) n)) := by
      rintro _ rfl
      exact find_good X n (by omega) 65 X 0 (by omega) (Part.start X) fun i h => by omega
    refine run_vc EC_ok 1000 (find_start (uw X) n (findI X n) (findOk X n) (fun left => left = uw X)) ?_ (fun _ _ h => h) (fun fs m hb => opN0_good hq hb)
    rw [decide_eq_false hn]
    refine ⟨fun h => (by cases h), fun _ => ⟨rfl, ?_⟩⟩
    repeat' first | exact trivial | apply And.intro | exact rfl
end
end Go.Proofs.YtccbfkeigfnibaaDoor
/- Of extent: the environment of ExtentApart. No condition. -/
namespace Go.Proofs.YtccbfkeigfnibaaDoor
set_option maxRecDepth 100000
noncomputable section
def wd (x : Int) : BitVec 64 := BitVec.ofInt 64 x
def conA (g : FuncId) (l : List SV) (m : SMem) : Option Tree :=
  match g, l with
  | 19, [.s (.c (.f (.int .i64 x)))] => some (.ret (.s (.agg (.ls [.f (.int .u64 (.o (uw (lowW (clampN x.den)))))]))) m)
  | 20, [.s (.agg (.ls [.f (.int .u64 x)])), .s (.c (.f (.int .i64 n)))] => some (.need [uw (wd x.den) = x.den] (.ret (intB (findI (wd x.den) n.den) (findOk (wd x.den) n.den)) m))
  | 21, [.s (.agg (.ls [.f (.int .u64 x)])), .s (.c (.f (.int .i64 p))), .s (.c (.f (.int .i64 n)))] => some (.need [uw (wd x.den) = x.den] (.ret (setB (uw (takeW (wd x.den) p.den n.den)) (takeOk (wd x.den) p.den n.den)) m))
  | g, l => conT g l m
end
theorem Con.asked {E : Env} {g : FuncId} {l : List SV} {m : SMem} {q : List Prop} {t : Tree} (h : (∀ p ∈ q, p) → Con E g l m t) : Con E g l m (.need q t) := by
  intro A hs
  exact h hs.1 A hs.2
theorem conA_ok : ∀ g l m t, conA g l m = some t → Con E0 g l m t := by
  intro g l m t h
  unfold conA at h
  split at h
  · rename_i x; cases h
    refine Con.args (of_con x.den m) fun R vs ha => ?_
    match vs, ha with
    | [v], ha => exact ⟨ha.1, trivial⟩
  · rename_i x n; cases h
    refine Con.asked fun hq => ?_
    have hw : uw (wd x.den) = x.den := hq _ (List.mem_cons_self ..)
    have h := find_con (wd x.den) n.den m
    rw [hw] at h
    refine Con.args h fun R vs ha => ?_
    match vs, ha with
    | [v, u], ha =>
      obtain ⟨⟨cs, e, hc⟩, h2, _⟩ := ha
      refine ⟨⟨cs, e, ?_⟩, h2, trivial⟩
      have hc : All2 (SC.ok R) [.f (.int .u64 x)] cs.toList := hc
      show All2 (SC.ok R) [.f (.int .u64 (.o x.den))] cs.toList
      generalize cs.toList = L at hc ⊢
      match L, hc with
      | [w], hc => exact ⟨hc.1, trivial⟩
  · rename_i x p n; cases h
    refine Con.asked fun hq => ?_
    have hw : uw (wd x.den) = x.den := hq _ (List.mem_cons_self ..)
    have h := take_con (wd x.den) p.den n.den m
    rw [hw] at h
    refine Con.args h fun R vs ha => ?_
    match vs, ha with
    | [v, u, z], ha =>
      obtain ⟨⟨cs, e, hc⟩, h2, h3, _⟩ := ha
      refine ⟨⟨cs, e, ?_⟩, h2, h3, trivial⟩
      have hc : All2 (SC.ok R) [.f (.int .u64 x)] cs.toList := hc
      show All2 (SC.ok R) [.f (.int .u64 (.o x.den))] cs.toList
      generalize cs.toList = L at hc ⊢
      match L, hc with
      | [w], hc => exact ⟨hc.1, trivial⟩
  · exact conT_ok _ _ _ _ h
end Go.Proofs.YtccbfkeigfnibaaDoor
/- Of extent: ExtentApart: the law's states. No condition. -/
namespace Go.Proofs.YtccbfkeigfnibaaDoor
set_option linter.unusedVariables false
noncomputable def acS (off n : Nat) : SV := .s (.c (.f (.slice 0 (.o off) (.o n) .any)))
noncomputable def EA : Env := ⟨Tryd.prog, fnOf, conA, haltAt [4007, 4010, 4020, 4025]⟩
noncomputable def aA_d0 : List SIt := sekF Tryd.f4 7
noncomputable def aA_F (off : Nat) (num : Nat) (ds : Array Value) (ty : TypeId) (i : Int) (n : Nat) (L : Int) (cs : Array Value) (x : Int) (es : List (Int × Int)) : List SFr := [frOf 4 Tryd.f4 [(0, acS off num), (3, ptr 1 (.l 0)), (4, ptr 3 (.l 0)), (5, mpS 4), (6, i64 (.o i))] aA_d0]
noncomputable def aA_M (off : Nat) (num : Nat) (ds : Array Value) (ty : TypeId) (i : Int) (n : Nat) (L : Int) (cs : Array Value) (x : Int) (es : List (Int × Int)) : SMem := mkMX 5 [(0, ⟨.raw ds, ty, false⟩), (1, ⟨.ls [.f (.slice 2 (.l 0) (.o n) .any), .f (.int .i64 (.o L))], 28, true⟩), (2, ⟨.pop cs, 42, true⟩), (3, ⟨.ls [.f (.int .u64 (.o x))], 48, true⟩)] [(4, .mapI true .i64 (.i .i64) es)]
noncomputable def aA_n (off : Nat) (num : Nat) (ds : Array Value) (ty : TypeId) (Q : Int → Nat → Int → Array Value → Int → List (Int × Int) → Prop) (fs : List SFr) (m : SMem) : Prop := (match frNth fs 0 with | some f0 => (match rdI f0 6 with | some i => (match rdP f0 3 with | some p1 => (match rdP f0 4 with | some p3 => (match rdMp f0 5 with | some p4 => (match rdCP m p1 0 with | some p2 => (match rdCN m p1 0 with | some n => (match rdCI m p1 1 with | some L => (match rdA m p2 with | some cs => (match rdCI m p3 0 with | some x => (match rdMI m p4 with | some es => Q i n L cs x es ∧ subOk 1 [(1, p1), (2, p2), (3, p3), (4, p4)] (aA_F off num ds ty i n L cs x es) (aA_M off num ds ty i n L cs x es) fs m | none => False) | none => False) | none => False) | none => False) | none => False) | none => False) | none => False) | none => False) | none => False) | none => False) | none => False)
noncomputable def aP_d0 : List SIt := sekF Tryd.f4 20
noncomputable def aP_F (off : Nat) (num : Nat) (ds : Array Value) (ty : TypeId) (i : Int) (s : Int) (a : Int) (n : Nat) (L : Int) (cs : Array Value) (x : Int) (es : List (Int × Int)) : List SFr := [frOf 4 Tryd.f4 [(0, acS off num), (3, ptr 1 (.l 0)), (4, ptr 3 (.l 0)), (5, mpS 4), (6, i64 (.o i)), (7, i64 (.o s)), (8, i64 (.o a))] aP_d0]
noncomputable def aP_M (off : Nat) (num : Nat) (ds : Array Value) (ty : TypeId) (i : Int) (s : Int) (a : Int) (n : Nat) (L : Int) (cs : Array Value) (x : Int) (es : List (Int × Int)) : SMem := mkMX 5 [(0, ⟨.raw ds, ty, false⟩), (1, ⟨.ls [.f (.slice 2 (.l 0) (.o n) .any), .f (.int .i64 (.o L))], 28, true⟩), (2, ⟨.pop cs, 42, true⟩), (3, ⟨.ls [.f (.int .u64 (.o x))], 48, true⟩)] [(4, .mapI true .i64 (.i .i64) es)]
noncomputable def aP_n (off : Nat) (num : Nat) (ds : Array Value) (ty : TypeId) (Q : Int → Int → Int → Nat → Int → Array Value → Int → List (Int × Int) → Prop) (fs : List SFr) (m : SMem) : Prop := (match frNth fs 0 with | some f0 => (match rdI f0 6 with | some i => (match rdI f0 7 with | some s => (match rdI f0 8 with | some a => (match rdP f0 3 with | some p1 => (match rdP f0 4 with | some p3 => (match rdMp f0 5 with | some p4 => (match rdCP m p1 0 with | some p2 => (match rdCN m p1 0 with | some n => (match rdCI m p1 1 with | some L => (match rdA m p2 with | some cs => (match rdCI m p3 0 with | some x => (match rdMI m p4 with | some es => Q i s a n L cs x es ∧ subOk 1 [(1, p1), (2, p2), (3, p3), (4, p4)] (aP_F off num ds ty i s a n L cs x es) (aP_M off num ds ty i s a n L cs x es) fs m | none => False) | none => False) | none => False) | none => False) | none => False) | none => False) | none => False) | none => False) | none => False) | none => False) | none => False) | none => False) | none => False)
noncomputable def aQ_d0 : List SIt := sekF Tryd.f4 25
noncomputable def aQ_F (off : Nat) (num : Nat) (ds : Array Value) (ty : TypeId) (i : Int) (s : Int) (t : Int) (k : Int) (n : Nat) (L : Int) (cs : Array Value) (x : Int) (es : List (Int × Int)) : List SFr := [frOf 4 Tryd.f4 [(0, acS off num), (3, ptr 1 (.l 0)), (4, ptr 3 (.l 0)), (5, mpS 4), (6, i64 (.o i)), (7, i64 (.o s)), (16, i64 (.o t)), (18, i64 (.o k))] aQ_d0]
noncomputable def aQ_M (off : Nat) (num : Nat) (ds : Array Value) (ty : TypeId) (i : Int) (s : Int) (t : Int) (k : Int) (n : Nat) (L : Int) (cs : Array Value) (x : Int) (es : List (Int × Int)) : SMem := mkMX 5 [(0, ⟨.raw ds, ty, false⟩), (1, ⟨.ls [.f (.slice 2 (.l 0) (.o n) .any), .f (.int .i64 (.o L))], 28, true⟩), (2, ⟨.pop cs, 42, true⟩), (3, ⟨.ls [.f (.int .u64 (.o x))], 48, true⟩)] [(4, .mapI true .i64 (.i .i64) es)]
noncomputable def aQ_n (off : Nat) (num : Nat) (ds : Array Value) (ty : TypeId) (Q : Int → Int → Int → Int → Nat → Int → Array Value → Int → List (Int × Int) → Prop) (fs : List SFr) (m : SMem) : Prop := (match frNth fs 0 with | some f0 => (match rdI f0 6 with | some i => (match rdI f0 7 with | some s => (match rdI f0 16 with | some t => (match rdI f0 18 with | some k => (match rdP f0 3 with | some p1 => (match rdP f0 4 with | some p3 => (match rdMp f0 5 with | some p4 => (match rdCP m p1 0 with | some p2 => (match rdCN m p1 0 with | some n => (match rdCI m p1 1 with | some L => (match rdA m p2 with | some cs => (match rdCI m p3 0 with | some x => (match rdMI m p4 with | some es => Q i s t k n L cs x es ∧ subOk 1 [(1, p1), (2, p2), (3, p3), (4, p4)] (aQ_F off num ds ty i s t k n L cs x es) (aQ_M off num ds ty i s t k n L cs x es) fs m | none => False) | none => False) | none => False) | none => False) | none => False) | none => False) | none => False) | none => False) | none => False) | none => False) | none => False) | none => False) | none => False) | none => False)
noncomputable def aS_d0 : List SIt := sekF Tryd.f4 7
noncomputable def aS_F (off : Nat) (num : Nat) (ds : Array Value) (ty : TypeId) (x : Int) (es : List (Int × Int)) : List SFr := [frOf 4 Tryd.f4 [(0, acS off num), (3, ptr 1 (.l 0)), (4, ptr 3 (.l 0)), (5, mpS 4), (6, i64 (.l 0))] aS_d0]
noncomputable def aS_M (off : Nat) (num : Nat) (ds : Array Value) (ty : TypeId) (x : Int) (es : List (Int × Int)) : SMem := mkMX 5 [(0, ⟨.raw ds, ty, false⟩), (1, ⟨.ls [.f (.lit (.slice none 0 0)), .f (.int .i64 (.l 0))], 28, true⟩), (3, ⟨.ls [.f (.int .u64 (.o x))], 48, true⟩)] [(4, .mapI true .i64 (.i .i64) es)]
noncomputable def aS_n (off : Nat) (num : Nat) (ds : Array Value) (ty : TypeId) (Q : Int → List (Int × Int) → Prop) (fs : List SFr) (m : SMem) : Prop := (match frNth fs 0 with | some f0 => (match rdP f0 3 with | some p1 => (match rdP f0 4 with | some p3 => (match rdMp f0 5 with | some p4 => (match rdCI m p3 0 with | some x => (match rdMI m p4 with | some es => Q x es ∧ subOk 1 [(1, p1), (3, p3), (4, p4)] (aS_F off num ds ty x es) (aS_M off num ds ty x es) fs m | none => False) | none => False) | none => False) | none => False) | none => False) | none => False)
noncomputable def aB_d0 : List SIt := sekF Tryd.f4 10
noncomputable def aB_F (off : Nat) (num : Nat) (ds : Array Value) (ty : TypeId) (i : Int) (s : Int) (a : Int) (n : Nat) (L : Int) (cs : Array Value) (x : Int) (es : List (Int × Int)) : List SFr := [frOf 4 Tryd.f4 [(0, acS off num), (3, ptr 1 (.l 0)), (4, ptr 3 (.l 0)), (5, mpS 4), (6, i64 (.o i)), (7, i64 (.o s)), (8, i64 (.o a))] aB_d0]
noncomputable def aB_M (off : Nat) (num : Nat) (ds : Array Value) (ty : TypeId) (i : Int) (s : Int) (a : Int) (n : Nat) (L : Int) (cs : Array Value) (x : Int) (es : List (Int × Int)) : SMem := mkMX 5 [(0, ⟨.raw ds, ty, false⟩), (1, ⟨.ls [.f (.slice 2 (.l 0) (.o n) .any), .f (.int .i64 (.o L))], 28, true⟩), (2, ⟨.pop cs, 42, true⟩), (3, ⟨.ls [.f (.int .u64 (.o x))], 48, true⟩)] [(4, .mapI true .i64 (.i .i64) es)]
noncomputable def aB_n (off : Nat) (num : Nat) (ds : Array Value) (ty : TypeId) (Q : Int → Int → Int → Nat → Int → Array Value → Int → List (Int × Int) → Prop) (fs : List SFr) (m : SMem) : Prop := (match frNth fs 0 with | some f0 => (match rdI f0 6 with | some i => (match rdI f0 7 with | some s => (match rdI f0 8 with | some a => (match rdP f0 3 with | some p1 => (match rdP f0 4 with | some p3 => (match rdMp f0 5 with | some p4 => (match rdCP m p1 0 with | some p2 => (match rdCN m p1 0 with | some n => (match rdCI m p1 1 with | some L => (match rdA m p2 with | some cs => (match rdCI m p3 0 with | some x => (match rdMI m p4 with | some es => Q i s a n L cs x es ∧ subOk 1 [(1, p1), (2, p2), (3, p3), (4, p4)] (aB_F off num ds ty i s a n L cs x es) (aB_M off num ds ty i s a n L cs x es) fs m | none => False) | none => False) | none => False) | none => False) | none => False) | none => False) | none => False) | none => False) | none => False) | none => False) | none => False) | none => False) | none => False)
noncomputable def aT_d0 : List SIt := sekF Tryd.f4 10
noncomputable def aT_F (off : Nat) (num : Nat) (ds : Array Value) (ty : TypeId) (s : Int) (a : Int) (x : Int) (es : List (Int × Int)) : List SFr := [frOf 4 Tryd.f4 [(0, acS off num), (3, ptr 1 (.l 0)), (4, ptr 3 (.l 0)), (5, mpS 4), (6, i64 (.l 0)), (7, i64 (.o s)), (8, i64 (.o a))] aT_d0]
noncomputable def aT_M (off : Nat) (num : Nat) (ds : Array Value) (ty : TypeId) (s : Int) (a : Int) (x : Int) (es : List (Int × Int)) : SMem := mkMX 5 [(0, ⟨.raw ds, ty, false⟩), (1, ⟨.ls [.f (.lit (.slice none 0 0)), .f (.int .i64 (.l 0))], 28, true⟩), (3, ⟨.ls [.f (.int .u64 (.o x))], 48, true⟩)] [(4, .mapI true .i64 (.i .i64) es)]
noncomputable def aT_n (off : Nat) (num : Nat) (ds : Array Value) (ty : TypeId) (Q : Int → Int → Int → List (Int × Int) → Prop) (fs : List SFr) (m : SMem) : Prop := (match frNth fs 0 with | some f0 => (match rdI f0 7 with | some s => (match rdI f0 8 with | some a => (match rdP f0 3 with | some p1 => (match rdP f0 4 with | some p3 => (match rdMp f0 5 with | some p4 => (match rdCI m p3 0 with | some x => (match rdMI m p4 with | some es => Q s a x es ∧ subOk 1 [(1, p1), (3, p3), (4, p4)] (aT_F off num ds ty s a x es) (aT_M off num ds ty s a x es) fs m | none => False) | none => False) | none => False) | none => False) | none => False) | none => False) | none => False) | none => False)
noncomputable def qA_t (off : Nat) (num : Nat) (ds : Array Value) (ty : TypeId) (i : Int) (n : Nat) (L : Int) (cs : Array Value) (x : Int) (es : List (Int × Int)) : Tree := stepT EA.go (run EA 1000) 1 (aA_F off num ds ty i n L cs x es) (aA_M off num ds ty i n L cs x es)
noncomputable def qA_x (off : Nat) (num : Nat) (ds : Array Value) (ty : TypeId) (i : Int) (n : Nat) (L : Int) (cs : Array Value) (x : Int) (es : List (Int × Int)) (QaB : Int → Int → Int → Nat → Int → Array Value → Int → List (Int × Int) → Prop) (fs : List SFr) (m : SMem) : Prop := aB_n off num ds ty QaB fs m
noncomputable def qB_t (off : Nat) (num : Nat) (ds : Array Value) (ty : TypeId) (i : Int) (s : Int) (a : Int) (n : Nat) (L : Int) (cs : Array Value) (x : Int) (es : List (Int × Int)) : Tree := stepT EA.go (run EA 1000) 1 (aB_F off num ds ty i s a n L cs x es) (aB_M off num ds ty i s a n L cs x es)
noncomputable def qB_x (off : Nat) (num : Nat) (ds : Array Value) (ty : TypeId) (i : Int) (s : Int) (a : Int) (n : Nat) (L : Int) (cs : Array Value) (x : Int) (es : List (Int × Int)) (QaP : Int → Int → Int → Nat → Int → Array Value → Int → List (Int × Int) → Prop) (fs : List SFr) (m : SMem) : Prop := aP_n off num ds ty QaP fs m
noncomputable def qP_t (off : Nat) (num : Nat) (ds : Array Value) (ty : TypeId) (i : Int) (s : Int) (a : Int) (n : Nat) (L : Int) (cs : Array Value) (x : Int) (es : List (Int × Int)) : Tree := stepT EA.go (run EA 1000) 1 (aP_F off num ds ty i s a n L cs x es) (aP_M off num ds ty i s a n L cs x es)
noncomputable def qP_x (off : Nat) (num : Nat) (ds : Array Value) (ty : TypeId) (i : Int) (s : Int) (a : Int) (n : Nat) (L : Int) (cs : Array Value) (x : Int) (es : List (Int × Int)) (QaQ : Int → Int → Int → Int → Nat → Int → Array Value → Int → List (Int × Int) → Prop) (fs : List SFr) (m : SMem) : Prop := aQ_n off num ds ty QaQ fs m
noncomputable def qQ_t (off : Nat) (num : Nat) (ds : Array Value) (ty : TypeId) (i : Int) (s : Int) (t : Int) (k : Int) (n : Nat) (L : Int) (cs : Array Value) (x : Int) (es : List (Int × Int)) : Tree := stepT EA.go (run EA 1000) 1 (aQ_F off num ds ty i s t k n L cs x es) (aQ_M off num ds ty i s t k n L cs x es)
noncomputable def qQ_x (off : Nat) (num : Nat) (ds : Array Value) (ty : TypeId) (i : Int) (s : Int) (t : Int) (k : Int) (n : Nat) (L : Int) (cs : Array Value) (x : Int) (es : List (Int × Int)) (QaQ : Int → Int → Int → Int → Nat → Int → Array Value → Int → List (Int × Int) → Prop) (QaA : Int → Nat → Int → Array Value → Int → List (Int × Int) → Prop) (fs : List SFr) (m : SMem) : Prop := (match Nat.beq (atR fs) 4025 with | true => aQ_n off num ds ty QaQ fs m | false => aA_n off num ds ty QaA fs m)
noncomputable def qS_t (off : Nat) (num : Nat) (ds : Array Value) (ty : TypeId) (x : Int) (es : List (Int × Int)) : Tree := stepT EA.go (run EA 1000) 1 (aS_F off num ds ty x es) (aS_M off num ds ty x es)
noncomputable def qS_x (off : Nat) (num : Nat) (ds : Array Value) (ty : TypeId) (x : Int) (es : List (Int × Int)) (QaT : Int → Int → Int → List (Int × Int) → Prop) (fs : List SFr) (m : SMem) : Prop := aT_n off num ds ty QaT fs m
noncomputable def qT_t (off : Nat) (num : Nat) (ds : Array Value) (ty : TypeId) (s : Int) (a : Int) (x : Int) (es : List (Int × Int)) : Tree := stepT EA.go (run EA 1000) 1 (aT_F off num ds ty s a x es) (aT_M off num ds ty s a x es)
noncomputable def qT_x (off : Nat) (num : Nat) (ds : Array Value) (ty : TypeId) (s : Int) (a : Int) (x : Int) (es : List (Int × Int)) (QaP : Int → Int → Int → Nat → Int → Array Value → Int → List (Int × Int) → Prop) (fs : List SFr) (m : SMem) : Prop := aP_n off num ds ty QaP fs m
noncomputable def q0_t (off : Nat) (num : Nat) (ds : Array Value) (ty : TypeId) : Tree := run EA 4000 1 [callFr 4 Tryd.f4.ntmps [acS off num] (Tryd.f4.body.getD .skip)] (mkM 1 [(0, ⟨.raw ds, ty, false⟩)])
noncomputable def q0_x (off : Nat) (num : Nat) (ds : Array Value) (ty : TypeId) (QaS : Int → List (Int × Int) → Prop) (fs : List SFr) (m : SMem) : Prop := aS_n off num ds ty QaS fs m
noncomputable def EZ2 : Env := ⟨Tryd.prog, fnOf, conA, haltAt []⟩
noncomputable def qZ_t (ty : TypeId) : Tree := run EZ2 4000 1 [callFr 4 Tryd.f4.ntmps [.s (.c (.f .e0))] (Tryd.f4.body.getD .skip)] (mkM 1 [])
noncomputable def qZ_x (ty : TypeId)  (fs : List SFr) (m : SMem) : Prop := False
theorem aA_d0_ok (r : Nat → Option Nat) : TodoOk r aA_d0 aA_d0 := TodoOk.it (by kernel_rfl)
theorem aP_d0_ok (r : Nat → Option Nat) : TodoOk r aP_d0 aP_d0 := TodoOk.it (by kernel_rfl)
theorem aQ_d0_ok (r : Nat → Option Nat) : TodoOk r aQ_d0 aQ_d0 := TodoOk.it (by kernel_rfl)
theorem aS_d0_ok (r : Nat → Option Nat) : TodoOk r aS_d0 aS_d0 := TodoOk.it (by kernel_rfl)
theorem aB_d0_ok (r : Nat → Option Nat) : TodoOk r aB_d0 aB_d0 := TodoOk.it (by kernel_rfl)
theorem aT_d0_ok (r : Nat → Option Nat) : TodoOk r aT_d0 aT_d0 := TodoOk.it (by kernel_rfl)
theorem aA_good {A : SV → SMem → Prop} {off : Nat} {num : Nat} {ds : Array Value} {ty : TypeId} {Q : Int → Nat → Int → Array Value → Int → List (Int × Int) → Prop} {fs : List SFr} {m : SMem} (H : ∀ i n L cs x es, Q i n L cs x es → Good Tryd.prog A 1 (aA_F off num ds ty i n L cs x es) (aA_M off num ds ty i n L cs x es)) (hb : aA_n off num ds ty Q fs m) : Good Tryd.prog A 1 fs m := by
  unfold aA_n at hb
  split at hb
  rotate_left
  · exact hb.elim
  split at hb
  rotate_left
  · exact hb.elim
  split at hb
  rotate_left
  · exact hb.elim
  split at hb
  rotate_left
  · exact hb.elim
  split at hb
  rotate_left
  · exact hb.elim
  split at hb
  rotate_left
  · exact hb.elim
  split at hb
  rotate_left
  · exact hb.elim
  split at hb
  rotate_left
  · exact hb.elim
  split at hb
  rotate_left
  · exact hb.elim
  split at hb
  rotate_left
  · exact hb.elim
  split at hb
  rotate_left
  · exact hb.elim
  exact Good.of_sub hb.2 (H _ _ _ _ _ _ hb.1)
theorem aP_good {A : SV → SMem → Prop} {off : Nat} {num : Nat} {ds : Array Value} {ty : TypeId} {Q : Int → Int → Int → Nat → Int → Array Value → Int → List (Int × Int) → Prop} {fs : List SFr} {m : SMem} (H : ∀ i s a n L cs x es, Q i s a n L cs x es → Good Tryd.prog A 1 (aP_F off num ds ty i s a n L cs x es) (aP_M off num ds ty i s a n L cs x es)) (hb : aP_n off num ds ty Q fs m) : Good Tryd.prog A 1 fs m := by
  unfold aP_n at hb
  split at hb
  rotate_left
  · exact hb.elim
  split at hb
  rotate_left
  · exact hb.elim
  split at hb
  rotate_left
  · exact hb.elim
  split at hb
  rotate_left
  · exact hb.elim
  split at hb
  rotate_left
  · exact hb.elim
  split at hb
  rotate_left
  · exact hb.elim
  split at hb
  rotate_left
  · exact hb.elim
  split at hb
  rotate_left
  · exact hb.elim
  split at hb
  rotate_left
  · exact hb.elim
  split at hb
  rotate_left
  · exact hb.elim
  split at hb
  rotate_left
  · exact hb.elim
  split at hb
  rotate_left
  · exact hb.elim
  split at hb
  rotate_left
  · exact hb.elim
  exact Good.of_sub hb.2 (H _ _ _ _ _ _ _ _ hb.1)
theorem aQ_good {A : SV → SMem → Prop} {off : Nat} {num : Nat} {ds : Array Value} {ty : TypeId} {Q : Int → Int → Int → Int → Nat → Int → Array Value → Int → List (Int × Int) → Prop} {fs : List SFr} {m : SMem} (H : ∀ i s t k n L cs x es, Q i s t k n L cs x es → Good Tryd.prog A 1 (aQ_F off num ds ty i s t k n L cs x es) (aQ_M off num ds ty i s t k n L cs x es)) (hb : aQ_n off num ds ty Q fs m) : Good Tryd.prog A 1 fs m := by
  unfold aQ_n at hb
  split at hb
  rotate_left
  · exact hb.elim
  split at hb
  rotate_left
  · exact hb.elim
  split at hb
  rotate_left
  · exact hb.elim
  split at hb
  rotate_left
  · exact hb.elim
  split at hb
  rotate_left
  · exact hb.elim
  split at hb
  rotate_left
  · exact hb.elim
  split at hb
  rotate_left
  · exact hb.elim
  split at hb
  rotate_left
  · exact hb.elim
  split at hb
  rotate_left
  · exact hb.elim
  split at hb
  rotate_left
  · exact hb.elim
  split at hb
  rotate_left
  · exact hb.elim
  split at hb
  rotate_left
  · exact hb.elim
  split at hb
  rotate_left
  · exact hb.elim
  split at hb
  rotate_left
  · exact hb.elim
  exact Good.of_sub hb.2 (H _ _ _ _ _ _ _ _ _ hb.1)
theorem aS_good {A : SV → SMem → Prop} {off : Nat} {num : Nat} {ds : Array Value} {ty : TypeId} {Q : Int → List (Int × Int) → Prop} {fs : List SFr} {m : SMem} (H : ∀ x es, Q x es → Good Tryd.prog A 1 (aS_F off num ds ty x es) (aS_M off num ds ty x es)) (hb : aS_n off num ds ty Q fs m) : Good Tryd.prog A 1 fs m := by
  unfold aS_n at hb
  split at hb
  rotate_left
  · exact hb.elim
  split at hb
  rotate_left
  · exact hb.elim
  split at hb
  rotate_left
  · exact hb.elim
  split at hb
  rotate_left
  · exact hb.elim
  split at hb
  rotate_left
  · exact hb.elim
  split at hb
  rotate_left
  · exact hb.elim
  exact Good.of_sub hb.2 (H _ _ hb.1)
theorem aB_good {A : SV → SMem → Prop} {off : Nat} {num : Nat} {ds : Array Value} {ty : TypeId} {Q : Int → Int → Int → Nat → Int → Array Value → Int → List (Int × Int) → Prop} {fs : List SFr} {m : SMem} (H : ∀ i s a n L cs x es, Q i s a n L cs x es → Good Tryd.prog A 1 (aB_F off num ds ty i s a n L cs x es) (aB_M off num ds ty i s a n L cs x es)) (hb : aB_n off num ds ty Q fs m) : Good Tryd.prog A 1 fs m := by
  unfold aB_n at hb
  split at hb
  rotate_left
  · exact hb.elim
  split at hb
  rotate_left
  · exact hb.elim
  split at hb
  rotate_left
  · exact hb.elim
  split at hb
  rotate_left
  · exact hb.elim
  split at hb
  rotate_left
  · exact hb.elim
  split at hb
  rotate_left
  · exact hb.elim
  split at hb
  rotate_left
  · exact hb.elim
  split at hb
  rotate_left
  · exact hb.elim
  split at hb
  rotate_left
  · exact hb.elim
  split at hb
  rotate_left
  · exact hb.elim
  split at hb
  rotate_left
  · exact hb.elim
  split at hb
  rotate_left
  · exact hb.elim
  split at hb
  rotate_left
  · exact hb.elim
  exact Good.of_sub hb.2 (H _ _ _ _ _ _ _ _ hb.1)
theorem aT_good {A : SV → SMem → Prop} {off : Nat} {num : Nat} {ds : Array Value} {ty : TypeId} {Q : Int → Int → Int → List (Int × Int) → Prop} {fs : List SFr} {m : SMem} (H : ∀ s a x es, Q s a x es → Good Tryd.prog A 1 (aT_F off num ds ty s a x es) (aT_M off num ds ty s a x es)) (hb : aT_n off num ds ty Q fs m) : Good Tryd.prog A 1 fs m := by
  unfold aT_n at hb
  split at hb
  rotate_left
  · exact hb.elim
  split at hb
  rotate_left
  · exact hb.elim
  split at hb
  rotate_left
  · exact hb.elim
  split at hb
  rotate_left
  · exact hb.elim
  split at hb
  rotate_left
  · exact hb.elim
  split at hb
  rotate_left
  · exact hb.elim
  split at hb
  rotate_left
  · exact hb.elim
  split at hb
  rotate_left
  · exact hb.elim
  exact Good.of_sub hb.2 (H _ _ _ _ hb.1)
theorem qA_go {A : SV → SMem → Prop} {off : Nat} {num : Nat} {ds : Array Value} {ty : TypeId} {i : Int} {n : Nat} {L : Int} {cs : Array Value} {x : Int} {es : List (Int × Int)} {QaB : Int → Int → Int → Nat → Int → Array Value → Int → List (Int × Int) → Prop} {fs : List SFr} {m : SMem} (haB : ∀ i' s' a' n' L' cs' x' es', QaB i' s' a' n' L' cs' x' es' → Good Tryd.prog A 1 (aB_F off num ds ty i' s' a' n' L' cs' x' es') (aB_M off num ds ty i' s' a' n' L' cs' x' es')) (hb : qA_x off num ds ty i n L cs x es QaB fs m) : Good Tryd.prog A 1 fs m := by
  unfold qA_x at hb
  exact aB_good haB hb
theorem qB_go {A : SV → SMem → Prop} {off : Nat} {num : Nat} {ds : Array Value} {ty : TypeId} {i : Int} {s : Int} {a : Int} {n : Nat} {L : Int} {cs : Array Value} {x : Int} {es : List (Int × Int)} {QaP : Int → Int → Int → Nat → Int → Array Value → Int → List (Int × Int) → Prop} {fs : List SFr} {m : SMem} (haP : ∀ i' s' a' n' L' cs' x' es', QaP i' s' a' n' L' cs' x' es' → Good Tryd.prog A 1 (aP_F off num ds ty i' s' a' n' L' cs' x' es') (aP_M off num ds ty i' s' a' n' L' cs' x' es')) (hb : qB_x off num ds ty i s a n L cs x es QaP fs m) : Good Tryd.prog A 1 fs m := by
  unfold qB_x at hb
  exact aP_good haP hb
theorem qP_go {A : SV → SMem → Prop} {off : Nat} {num : Nat} {ds : Array Value} {ty : TypeId} {i : Int} {s : Int} {a : Int} {n : Nat} {L : Int} {cs : Array Value} {x : Int} {es : List (Int × Int)} {QaQ : Int → Int → Int → Int → Nat → Int → Array Value → Int → List (Int × Int) → Prop} {fs : List SFr} {m : SMem} (haQ : ∀ i' s' t' k' n' L' cs' x' es', QaQ i' s' t' k' n' L' cs' x' es' → Good Tryd.prog A 1 (aQ_F off num ds ty i' s' t' k' n' L' cs' x' es') (aQ_M off num ds ty i' s' t' k' n' L' cs' x' es')) (hb : qP_x off num ds ty i s a n L cs x es QaQ fs m) : Good Tryd.prog A 1 fs m := by
  unfold qP_x at hb
  exact aQ_good haQ hb
theorem qQ_go {A : SV → SMem → Prop} {off : Nat} {num : Nat} {ds : Array Value} {ty : TypeId} {i : Int} {s : Int} {t : Int} {k : Int} {n : Nat} {L : Int} {cs : Array Value} {x : Int} {es : List (Int × Int)} {QaQ : Int → Int → Int → Int → Nat → Int → Array Value → Int → List (Int × Int) → Prop} {QaA : Int → Nat → Int → Array Value → Int → List (Int × Int) → Prop} {fs : List SFr} {m : SMem} (haQ : ∀ i' s' t' k' n' L' cs' x' es', QaQ i' s' t' k' n' L' cs' x' es' → Good Tryd.prog A 1 (aQ_F off num ds ty i' s' t' k' n' L' cs' x' es') (aQ_M off num ds ty i' s' t' k' n' L' cs' x' es')) (haA : ∀ i' n' L' cs' x' es', QaA i' n' L' cs' x' es' → Good Tryd.prog A 1 (aA_F off num ds ty i' n' L' cs' x' es') (aA_M off num ds ty i' n' L' cs' x' es')) (hb : qQ_x off num ds ty i s t k n L cs x es QaQ QaA fs m) : Good Tryd.prog A 1 fs m := by
  unfold qQ_x at hb
  split at hb
  · exact aQ_good haQ hb
  exact aA_good haA hb
theorem qS_go {A : SV → SMem → Prop} {off : Nat} {num : Nat} {ds : Array Value} {ty : TypeId} {x : Int} {es : List (Int × Int)} {QaT : Int → Int → Int → List (Int × Int) → Prop} {fs : List SFr} {m : SMem} (haT : ∀ s' a' x' es', QaT s' a' x' es' → Good Tryd.prog A 1 (aT_F off num ds ty s' a' x' es') (aT_M off num ds ty s' a' x' es')) (hb : qS_x off num ds ty x es QaT fs m) : Good Tryd.prog A 1 fs m := by
  unfold qS_x at hb
  exact aT_good haT hb
theorem qT_go {A : SV → SMem → Prop} {off : Nat} {num : Nat} {ds : Array Value} {ty : TypeId} {s : Int} {a : Int} {x : Int} {es : List (Int × Int)} {QaP : Int → Int → Int → Nat → Int → Array Value → Int → List (Int × Int) → Prop} {fs : List SFr} {m : SMem} (haP : ∀ i' s' a' n' L' cs' x' es', QaP i' s' a' n' L' cs' x' es' → Good Tryd.prog A 1 (aP_F off num ds ty i' s' a' n' L' cs' x' es') (aP_M off num ds ty i' s' a' n' L' cs' x' es')) (hb : qT_x off num ds ty s a x es QaP fs m) : Good Tryd.prog A 1 fs m := by
  unfold qT_x at hb
  exact aP_good haP hb
theorem q0_go {A : SV → SMem → Prop} {off : Nat} {num : Nat} {ds : Array Value} {ty : TypeId} {QaS : Int → List (Int × Int) → Prop} {fs : List SFr} {m : SMem} (haS : ∀ x' es', QaS x' es' → Good Tryd.prog A 1 (aS_F off num ds ty x' es') (aS_M off num ds ty x' es')) (hb : q0_x off num ds ty QaS fs m) : Good Tryd.prog A 1 fs m := by
  unfold q0_x at hb
  exact aS_good haS hb
end Go.Proofs.YtccbfkeigfnibaaDoor
/- Of extent: ExtentApart: the law's states. -/
namespace Go.Proofs.YtccbfkeigfnibaaDoor
set_option maxRecDepth 100000
theorem qA_vc (off : Nat) (num : Nat) (ds : Array Value) (ty : TypeId) (i : Int) (n : Nat) (L : Int) (cs : Array Value) (x : Int) (es : List (Int × Int)) (QaB : Int → Int → Int → Nat → Int → Array Value → Int → List (Int × Int) → Prop) : (qA_t off num ds ty i n L cs x es).vc ((isB true)) (qA_x off num ds ty i n L cs x es QaB) =
    ((decide (i < (↑num : Int)) = true → (((0 : Int) ≤ i ∧ i < (↑num : Int)) ∧ True) ∧ (IsInt IntKind.u8 ds (off + Int.toNat i * 2) ∧ True) ∧ (((0 : Int) ≤ i ∧ i < (↑num : Int)) ∧ True) ∧ (IsInt IntKind.u8 ds (off + Int.toNat i * 2 + 1) ∧ True) ∧ ((0 : Int) ≤ ari BinOp.rem IntKind.u8 (intAt ds (off + Int.toNat i * 2 + 1)) (4 : Int) ∧ True) ∧ QaB i (ari BinOp.add IntKind.i64 (1 : Int) (ari BinOp.rem IntKind.i64 (IntKind.wrap IntKind.i64 (intAt ds (off + Int.toNat i * 2))) (128 : Int))) (ari BinOp.shl IntKind.i64 (1 : Int) (ari BinOp.rem IntKind.u8 (intAt ds (off + Int.toNat i * 2 + 1)) (4 : Int))) n L cs x es ∧ CallKind.normal = CallKind.normal ∧ TodoOk (ren 1 [(1, 1), (2, 2), (3, 3), (4, 4)]) aB_d0 aB_d0 ∧ off = off ∧ num = num ∧ ari BinOp.add IntKind.i64 (1 : Int) (ari BinOp.rem IntKind.i64 (IntKind.wrap IntKind.i64 (intAt ds (off + Int.toNat i * 2))) (128 : Int)) = ari BinOp.add IntKind.i64 (1 : Int) (ari BinOp.rem IntKind.i64 (IntKind.wrap IntKind.i64 (intAt ds (off + Int.toNat i * 2))) (128 : Int)) ∧ ari BinOp.shl IntKind.i64 (1 : Int) (ari BinOp.rem IntKind.u8 (intAt ds (off + Int.toNat i * 2 + 1)) (4 : Int)) = ari BinOp.shl IntKind.i64 (1 : Int) (ari BinOp.rem IntKind.u8 (intAt ds (off + Int.toNat i * 2 + 1)) (4 : Int)) ∧ i = i ∧ ty = ty ∧ ds = ds ∧ (28 : TypeId) = (28 : TypeId) ∧ n = n ∧ L = L ∧ (48 : TypeId) = (48 : TypeId) ∧ x = x ∧ (42 : TypeId) = (42 : TypeId) ∧ cs = cs ∧ IntKind.i64 = IntKind.i64 ∧ VK.i IntKind.i64 = VK.i IntKind.i64 ∧ es = es ∧ True) ∧ (decide (i < (↑num : Int)) = false → true = true)) := by kernel_rfl
theorem qB_vc (off : Nat) (num : Nat) (ds : Array Value) (ty : TypeId) (i : Int) (s : Int) (a : Int) (n : Nat) (L : Int) (cs : Array Value) (x : Int) (es : List (Int × Int)) (QaP : Int → Int → Int → Nat → Int → Array Value → Int → List (Int × Int) → Prop) : (qB_t off num ds ty i s a n L cs x es).vc ((isB true)) (qB_x off num ds ty i s a n L cs x es QaP) =
    ((PrOk cs (0 : Nat) n ∧ tkOk cs (0 : Nat) n = true ∧ (0 : Int) ≤ L ∧ L ≤ (32 : Int) * sumN cs (0 : Nat) n ∧ True) ∧ ((!fitOk L s a ((32 : Int) * sumN cs (0 : Nat) n)) = true → (uw (wd x) = x ∧ True) ∧ (((!objB s a) == false) = true → (decide (needN s a < (1 : Int)) = true → false = true) ∧ (decide (needN s a < (1 : Int)) = false → ((!findOk (wd x) (needN s a)) = true → (PrOk cs (0 : Nat) n ∧ True) ∧ ((mayE cs (0 : Nat) n L == true) = true → true = true) ∧ ((mayE cs (0 : Nat) n L == true) = false → false = true)) ∧ ((!findOk (wd x) (needN s a)) = false → (uw (wd x) = x ∧ True) ∧ ((0 : Nat) + n * 2 ≤ Array.size cs ∧ (((0 : Nat) + n) * 16 ≤ (140737488355328 : Nat) ∧ (0 : Nat) + n ≤ (140737488355328 : Nat)) ∧ True) ∧ ((((0 : Nat) + n + 1) * 16 ≤ (140737488355328 : Nat) ∧ (0 : Nat) + n + 1 ≤ (140737488355328 : Nat)) ∧ ((0 : Nat) + n) * 2 = Array.size (Array.extract cs (0 : Nat) ((0 : Nat) + n * 2)) ∧ True) ∧ (PrOk cs (0 : Nat) n ∧ (∀ (i : Nat), i < n → (1 : Int) ≤ nn0 cs (0 : Nat) i ∧ nn0 cs (0 : Nat) i ≤ (64 : Int)) ∧ True) ∧ QaP i s a ((0 : Nat) + n + 1) (ari BinOp.mul IntKind.i64 (sumN cs (0 : Nat) n) (32 : Int)) (Array.extract cs (0 : Nat) ((0 : Nat) + n * 2) ++ #[Value.int IntKind.i64 (findI (wd x) (needN s a)), Value.int IntKind.i64 (needN s a)]) (uw (takeW (wd x) (findI (wd x) (needN s a)) (needN s a))) es ∧ CallKind.normal = CallKind.normal ∧ TodoOk (ren 1 [(1, 1), (2, 11), (3, 3), (4, 4)]) aP_d0 aP_d0 ∧ off = off ∧ num = num ∧ s = s ∧ a = a ∧ i = i ∧ ty = ty ∧ ds = ds ∧ (28 : TypeId) = (28 : TypeId) ∧ (0 : Nat) + n + 1 = (0 : Nat) + n + 1 ∧ ari BinOp.mul IntKind.i64 (sumN cs (0 : Nat) n) (32 : Int) = ari BinOp.mul IntKind.i64 (sumN cs (0 : Nat) n) (32 : Int) ∧ (48 : TypeId) = (48 : TypeId) ∧ uw (takeW (wd x) (findI (wd x) (needN s a)) (needN s a)) = uw (takeW (wd x) (findI (wd x) (needN s a)) (needN s a)) ∧ (42 : TypeId) = (42 : Nat) ∧ Array.extract cs (0 : Nat) ((0 : Nat) + n * 2) ++ #[Value.int IntKind.i64 (findI (wd x) (needN s a)), Value.int IntKind.i64 (needN s a)] = Array.extract cs (0 : Nat) ((0 : Nat) + n * 2) ++ #[Value.int IntKind.i64 (findI (wd x) (needN s a)), Value.int IntKind.i64 (needN s a)] ∧ IntKind.i64 = IntKind.i64 ∧ VK.i IntKind.i64 = VK.i IntKind.i64 ∧ es = es ∧ True))) ∧ (((!objB s a) == false) = false → false = true)) ∧ ((!fitOk L s a ((32 : Int) * sumN cs (0 : Nat) n)) = false → QaP i s a n L cs x es ∧ CallKind.normal = CallKind.normal ∧ TodoOk (ren 1 [(1, 1), (2, 2), (3, 3), (4, 4)]) aP_d0 aP_d0 ∧ off = off ∧ num = num ∧ s = s ∧ a = a ∧ i = i ∧ ty = ty ∧ ds = ds ∧ (28 : TypeId) = (28 : TypeId) ∧ n = n ∧ L = L ∧ (48 : TypeId) = (48 : TypeId) ∧ x = x ∧ (42 : TypeId) = (42 : TypeId) ∧ cs = cs ∧ IntKind.i64 = IntKind.i64 ∧ VK.i IntKind.i64 = VK.i IntKind.i64 ∧ es = es ∧ True)) := by kernel_rfl
theorem qP_vc (off : Nat) (num : Nat) (ds : Array Value) (ty : TypeId) (i : Int) (s : Int) (a : Int) (n : Nat) (L : Int) (cs : Array Value) (x : Int) (es : List (Int × Int)) (QaQ : Int → Int → Int → Int → Nat → Int → Array Value → Int → List (Int × Int) → Prop) : (qP_t off num ds ty i s a n L cs x es).vc ((isB true)) (qP_x off num ds ty i s a n L cs x es QaQ) =
    (((0 : Nat) + n * 2 ≤ Array.size cs ∧ (((0 : Nat) + n) * 16 ≤ (140737488355328 : Nat) ∧ (0 : Nat) + n ≤ (140737488355328 : Nat)) ∧ True) ∧ (PrOk cs (0 : Nat) n ∧ tkOk cs (0 : Nat) n = true ∧ (0 : Int) ≤ L ∧ L ≤ (32 : Int) * sumN cs (0 : Nat) n ∧ True) ∧ ((!fitOk L s a ((32 : Int) * sumN cs (0 : Nat) n)) = true → false = true) ∧ ((!fitOk L s a ((32 : Int) * sumN cs (0 : Nat) n)) = false → (a ≠ (0 : Int) ∧ True) ∧ (((ari BinOp.rem IntKind.i64 (fitV L s a ((32 : Int) * sumN cs (0 : Nat) n)) a != (0 : Int)) == false) = true → (PrOk (Array.extract cs (0 : Nat) ((0 : Nat) + n * 2)) (0 : Nat) ((0 : Nat) + n) ∧ True) ∧ (((!mayE (Array.extract cs (0 : Nat) ((0 : Nat) + n * 2)) (0 : Nat) ((0 : Nat) + n) (ari BinOp.add IntKind.i64 (fitV L s a ((32 : Int) * sumN cs (0 : Nat) n)) s)) == false) = true → ((ari BinOp.add IntKind.i64 (fitV L s a ((32 : Int) * sumN cs (0 : Nat) n)) s != ari BinOp.add IntKind.i64 (fitV L s a ((32 : Int) * sumN cs (0 : Nat) n)) s) = true → false = true) ∧ ((ari BinOp.add IntKind.i64 (fitV L s a ((32 : Int) * sumN cs (0 : Nat) n)) s != ari BinOp.add IntKind.i64 (fitV L s a ((32 : Int) * sumN cs (0 : Nat) n)) s) = false → QaQ i s (fitV L s a ((32 : Int) * sumN cs (0 : Nat) n)) (fitV L s a ((32 : Int) * sumN cs (0 : Nat) n)) ((0 : Nat) + n) (ari BinOp.add IntKind.i64 (fitV L s a ((32 : Int) * sumN cs (0 : Nat) n)) s) (Array.extract cs (0 : Nat) ((0 : Nat) + n * 2)) x es ∧ CallKind.normal = CallKind.normal ∧ TodoOk (ren 1 [(1, 1), (2, 8), (3, 3), (4, 4)]) aQ_d0 aQ_d0 ∧ off = off ∧ num = num ∧ s = s ∧ fitV L s a ((32 : Int) * sumN cs (0 : Nat) n) = fitV L s a ((32 : Int) * sumN cs (0 : Nat) n) ∧ i = i ∧ fitV L s a ((32 : Int) * sumN cs (0 : Nat) n) = fitV L s a ((32 : Int) * sumN cs (0 : Nat) n) ∧ ty = ty ∧ ds = ds ∧ (28 : TypeId) = (28 : TypeId) ∧ (0 : Nat) + n = (0 : Nat) + n ∧ ari BinOp.add IntKind.i64 (fitV L s a ((32 : Int) * sumN cs (0 : Nat) n)) s = ari BinOp.add IntKind.i64 (fitV L s a ((32 : Int) * sumN cs (0 : Nat) n)) s ∧ (48 : TypeId) = (48 : TypeId) ∧ x = x ∧ (42 : TypeId) = (42 : Nat) ∧ Array.extract cs (0 : Nat) ((0 : Nat) + n * 2) = Array.extract cs (0 : Nat) ((0 : Nat) + n * 2) ∧ IntKind.i64 = IntKind.i64 ∧ VK.i IntKind.i64 = VK.i IntKind.i64 ∧ es = es ∧ True)) ∧ (((!mayE (Array.extract cs (0 : Nat) ((0 : Nat) + n * 2)) (0 : Nat) ((0 : Nat) + n) (ari BinOp.add IntKind.i64 (fitV L s a ((32 : Int) * sumN cs (0 : Nat) n)) s)) == false) = false → false = true)) ∧ (((ari BinOp.rem IntKind.i64 (fitV L s a ((32 : Int) * sumN cs (0 : Nat) n)) a != (0 : Int)) == false) = false → false = true))) := by kernel_rfl
theorem qQ_vc (off : Nat) (num : Nat) (ds : Array Value) (ty : TypeId) (i : Int) (s : Int) (t : Int) (k : Int) (n : Nat) (L : Int) (cs : Array Value) (x : Int) (es : List (Int × Int)) (QaQ : Int → Int → Int → Int → Nat → Int → Array Value → Int → List (Int × Int) → Prop) (QaA : Int → Nat → Int → Array Value → Int → List (Int × Int) → Prop) : (qQ_t off num ds ty i s t k n L cs x es).vc ((isB true)) (qQ_x off num ds ty i s t k n L cs x es QaQ QaA) =
    ((decide (k < ari BinOp.add IntKind.i64 t s) = true → (PrOk cs (0 : Nat) n ∧ tkOk cs (0 : Nat) n = true ∧ ((-9223372036854775808 : Int) ≤ k ∧ k ≤ (9223372036854775807 : Int)) ∧ True) ∧ (((!plB cs (0 : Nat) n k) == false) = true → (hasI (plV cs (0 : Nat) n k) es = true → false = true) ∧ (hasI (plV cs (0 : Nat) n k) es = false → QaQ i s t (ari BinOp.add IntKind.i64 k (1 : Int)) n L cs x (insI (plV cs (0 : Nat) n k) i es) ∧ CallKind.normal = CallKind.normal ∧ TodoOk (ren 1 [(1, 1), (2, 2), (3, 3), (4, 4)]) aQ_d0 aQ_d0 ∧ off = off ∧ num = num ∧ s = s ∧ t = t ∧ i = i ∧ ari BinOp.add IntKind.i64 k (1 : Int) = ari BinOp.add IntKind.i64 k (1 : Int) ∧ ty = ty ∧ ds = ds ∧ (28 : TypeId) = (28 : TypeId) ∧ n = n ∧ L = L ∧ (48 : TypeId) = (48 : TypeId) ∧ x = x ∧ (42 : TypeId) = (42 : TypeId) ∧ cs = cs ∧ IntKind.i64 = IntKind.i64 ∧ VK.i IntKind.i64 = VK.i IntKind.i64 ∧ insI (plV cs (0 : Nat) n k) i es = insI (plV cs (0 : Nat) n k) i es ∧ True)) ∧ (((!plB cs (0 : Nat) n k) == false) = false → false = true)) ∧ (decide (k < ari BinOp.add IntKind.i64 t s) = false → QaA (ari BinOp.add IntKind.i64 i (1 : Int)) n L cs x es ∧ CallKind.normal = CallKind.normal ∧ TodoOk (ren 1 [(1, 1), (2, 2), (3, 3), (4, 4)]) aA_d0 aA_d0 ∧ off = off ∧ num = num ∧ ari BinOp.add IntKind.i64 i (1 : Int) = ari BinOp.add IntKind.i64 i (1 : Int) ∧ ty = ty ∧ ds = ds ∧ (28 : TypeId) = (28 : TypeId) ∧ n = n ∧ L = L ∧ (48 : TypeId) = (48 : TypeId) ∧ x = x ∧ (42 : TypeId) = (42 : TypeId) ∧ cs = cs ∧ IntKind.i64 = IntKind.i64 ∧ VK.i IntKind.i64 = VK.i IntKind.i64 ∧ es = es ∧ True)) := by kernel_rfl
theorem qS_vc (off : Nat) (num : Nat) (ds : Array Value) (ty : TypeId) (x : Int) (es : List (Int × Int)) (QaT : Int → Int → Int → List (Int × Int) → Prop) : (qS_t off num ds ty x es).vc ((isB true)) (qS_x off num ds ty x es QaT) =
    ((decide ((0 : Int) < (↑num : Int)) = true → (((0 : Int) ≤ (0 : Int) ∧ (0 : Int) < (↑num : Int)) ∧ True) ∧ (IsInt IntKind.u8 ds off ∧ True) ∧ (((0 : Int) ≤ (0 : Int) ∧ (0 : Int) < (↑num : Int)) ∧ True) ∧ (IsInt IntKind.u8 ds (off + 1) ∧ True) ∧ ((0 : Int) ≤ ari BinOp.rem IntKind.u8 (intAt ds (off + 1)) (4 : Int) ∧ True) ∧ QaT (ari BinOp.add IntKind.i64 (1 : Int) (ari BinOp.rem IntKind.i64 (IntKind.wrap IntKind.i64 (intAt ds off)) (128 : Int))) (ari BinOp.shl IntKind.i64 (1 : Int) (ari BinOp.rem IntKind.u8 (intAt ds (off + 1)) (4 : Int))) x es ∧ CallKind.normal = CallKind.normal ∧ TodoOk (ren 1 [(1, 1), (3, 3), (4, 4)]) aB_d0 aB_d0 ∧ off = off ∧ num = num ∧ ari BinOp.add IntKind.i64 (1 : Int) (ari BinOp.rem IntKind.i64 (IntKind.wrap IntKind.i64 (intAt ds off)) (128 : Int)) = ari BinOp.add IntKind.i64 (1 : Int) (ari BinOp.rem IntKind.i64 (IntKind.wrap IntKind.i64 (intAt ds off)) (128 : Int)) ∧ ari BinOp.shl IntKind.i64 (1 : Int) (ari BinOp.rem IntKind.u8 (intAt ds (off + 1)) (4 : Int)) = ari BinOp.shl IntKind.i64 (1 : Int) (ari BinOp.rem IntKind.u8 (intAt ds (off + 1)) (4 : Int)) ∧ ty = ty ∧ ds = ds ∧ (28 : TypeId) = (28 : TypeId) ∧ Value.slice none (0 : Nat) (0 : Nat) = Value.slice none (0 : Nat) (0 : Nat) ∧ (48 : TypeId) = (48 : TypeId) ∧ x = x ∧ IntKind.i64 = IntKind.i64 ∧ VK.i IntKind.i64 = VK.i IntKind.i64 ∧ es = es ∧ True) ∧ (decide ((0 : Int) < (↑num : Int)) = false → true = true)) := by kernel_rfl
theorem qT_vc (off : Nat) (num : Nat) (ds : Array Value) (ty : TypeId) (s : Int) (a : Int) (x : Int) (es : List (Int × Int)) (QaP : Int → Int → Int → Nat → Int → Array Value → Int → List (Int × Int) → Prop) : (qT_t off num ds ty s a x es).vc ((isB true)) (qT_x off num ds ty s a x es QaP) =
    (((decide (s ≥ (1 : Int)) == true) = true → ((decide (s ≤ (128 : Int)) == true) = true → (((a == (1 : Int)) == false) = true → (((a == (2 : Int)) == false) = true → (((a == (4 : Int)) == false) = true → ((!a == (8 : Int)) = true → (uw (wd x) = x ∧ True) ∧ (((!objB s a) == false) = true → (decide (needN s a < (1 : Int)) = true → false = true) ∧ (decide (needN s a < (1 : Int)) = false → ((!findOk (wd x) (needN s a)) = true → true = true) ∧ ((!findOk (wd x) (needN s a)) = false → (uw (wd x) = x ∧ True) ∧ QaP (0 : Int) s a (1 : Nat) (0 : Int) #[Value.int IntKind.i64 (findI (wd x) (needN s a)), Value.int IntKind.i64 (needN s a)] (uw (takeW (wd x) (findI (wd x) (needN s a)) (needN s a))) es ∧ CallKind.normal = CallKind.normal ∧ TodoOk (ren 1 [(1, 1), (2, 11), (3, 3), (4, 4)]) aP_d0 aP_d0 ∧ off = off ∧ num = num ∧ s = s ∧ a = a ∧ (0 : Int) = (0 : Int) ∧ ty = ty ∧ ds = ds ∧ (28 : TypeId) = (28 : TypeId) ∧ (1 : Nat) = (1 : Nat) ∧ (0 : Int) = (0 : Int) ∧ (48 : TypeId) = (48 : TypeId) ∧ uw (takeW (wd x) (findI (wd x) (needN s a)) (needN s a)) = uw (takeW (wd x) (findI (wd x) (needN s a)) (needN s a)) ∧ (42 : TypeId) = (42 : Nat) ∧ #[Value.int IntKind.i64 (findI (wd x) (needN s a)), Value.int IntKind.i64 (needN s a)] = #[Value.int IntKind.i64 (findI (wd x) (needN s a)), Value.int IntKind.i64 (needN s a)] ∧ IntKind.i64 = IntKind.i64 ∧ VK.i IntKind.i64 = VK.i IntKind.i64 ∧ es = es ∧ True))) ∧ (((!objB s a) == false) = false → false = true)) ∧ ((!a == (8 : Int)) = false → (a ≠ (0 : Int) ∧ True) ∧ (decide (s > ari BinOp.sub IntKind.i64 (0 : Int) (ari BinOp.mul IntKind.i64 (ari BinOp.quo IntKind.i64 (ari BinOp.sub IntKind.i64 (ari BinOp.add IntKind.i64 (0 : Int) a) (1 : Int)) a) a)) = true → (uw (wd x) = x ∧ True) ∧ (((!objB s a) == false) = true → (decide (needN s a < (1 : Int)) = true → false = true) ∧ (decide (needN s a < (1 : Int)) = false → ((!findOk (wd x) (needN s a)) = true → true = true) ∧ ((!findOk (wd x) (needN s a)) = false → (uw (wd x) = x ∧ True) ∧ QaP (0 : Int) s a (1 : Nat) (0 : Int) #[Value.int IntKind.i64 (findI (wd x) (needN s a)), Value.int IntKind.i64 (needN s a)] (uw (takeW (wd x) (findI (wd x) (needN s a)) (needN s a))) es ∧ CallKind.normal = CallKind.normal ∧ TodoOk (ren 1 [(1, 1), (2, 13), (3, 3), (4, 4)]) aP_d0 aP_d0 ∧ off = off ∧ num = num ∧ s = s ∧ a = a ∧ (0 : Int) = (0 : Int) ∧ ty = ty ∧ ds = ds ∧ (28 : TypeId) = (28 : TypeId) ∧ (1 : Nat) = (1 : Nat) ∧ (0 : Int) = (0 : Int) ∧ (48 : TypeId) = (48 : TypeId) ∧ uw (takeW (wd x) (findI (wd x) (needN s a)) (needN s a)) = uw (takeW (wd x) (findI (wd x) (needN s a)) (needN s a)) ∧ (42 : TypeId) = (42 : Nat) ∧ #[Value.int IntKind.i64 (findI (wd x) (needN s a)), Value.int IntKind.i64 (needN s a)] = #[Value.int IntKind.i64 (findI (wd x) (needN s a)), Value.int IntKind.i64 (needN s a)] ∧ IntKind.i64 = IntKind.i64 ∧ VK.i IntKind.i64 = VK.i IntKind.i64 ∧ es = es ∧ True))) ∧ (((!objB s a) == false) = false → false = true)) ∧ (decide (s > ari BinOp.sub IntKind.i64 (0 : Int) (ari BinOp.mul IntKind.i64 (ari BinOp.quo IntKind.i64 (ari BinOp.sub IntKind.i64 (ari BinOp.add IntKind.i64 (0 : Int) a) (1 : Int)) a) a)) = false → False))) ∧ (((a == (4 : Int)) == false) = false → (a ≠ (0 : Int) ∧ True) ∧ (decide (s > ari BinOp.sub IntKind.i64 (0 : Int) (ari BinOp.mul IntKind.i64 (ari BinOp.quo IntKind.i64 (ari BinOp.sub IntKind.i64 (ari BinOp.add IntKind.i64 (0 : Int) a) (1 : Int)) a) a)) = true → (uw (wd x) = x ∧ True) ∧ (((!objB s a) == false) = true → (decide (needN s a < (1 : Int)) = true → false = true) ∧ (decide (needN s a < (1 : Int)) = false → ((!findOk (wd x) (needN s a)) = true → true = true) ∧ ((!findOk (wd x) (needN s a)) = false → (uw (wd x) = x ∧ True) ∧ QaP (0 : Int) s a (1 : Nat) (0 : Int) #[Value.int IntKind.i64 (findI (wd x) (needN s a)), Value.int IntKind.i64 (needN s a)] (uw (takeW (wd x) (findI (wd x) (needN s a)) (needN s a))) es ∧ CallKind.normal = CallKind.normal ∧ TodoOk (ren 1 [(1, 1), (2, 13), (3, 3), (4, 4)]) aP_d0 aP_d0 ∧ off = off ∧ num = num ∧ s = s ∧ a = a ∧ (0 : Int) = (0 : Int) ∧ ty = ty ∧ ds = ds ∧ (28 : TypeId) = (28 : TypeId) ∧ (1 : Nat) = (1 : Nat) ∧ (0 : Int) = (0 : Int) ∧ (48 : TypeId) = (48 : TypeId) ∧ uw (takeW (wd x) (findI (wd x) (needN s a)) (needN s a)) = uw (takeW (wd x) (findI (wd x) (needN s a)) (needN s a)) ∧ (42 : TypeId) = (42 : Nat) ∧ #[Value.int IntKind.i64 (findI (wd x) (needN s a)), Value.int IntKind.i64 (needN s a)] = #[Value.int IntKind.i64 (findI (wd x) (needN s a)), Value.int IntKind.i64 (needN s a)] ∧ IntKind.i64 = IntKind.i64 ∧ VK.i IntKind.i64 = VK.i IntKind.i64 ∧ es = es ∧ True))) ∧ (((!objB s a) == false) = false → false = true)) ∧ (decide (s > ari BinOp.sub IntKind.i64 (0 : Int) (ari BinOp.mul IntKind.i64 (ari BinOp.quo IntKind.i64 (ari BinOp.sub IntKind.i64 (ari BinOp.add IntKind.i64 (0 : Int) a) (1 : Int)) a) a)) = false → False))) ∧ (((a == (2 : Int)) == false) = false → (a ≠ (0 : Int) ∧ True) ∧ (decide (s > ari BinOp.sub IntKind.i64 (0 : Int) (ari BinOp.mul IntKind.i64 (ari BinOp.quo IntKind.i64 (ari BinOp.sub IntKind.i64 (ari BinOp.add IntKind.i64 (0 : Int) a) (1 : Int)) a) a)) = true → (uw (wd x) = x ∧ True) ∧ (((!objB s a) == false) = true → (decide (needN s a < (1 : Int)) = true → false = true) ∧ (decide (needN s a < (1 : Int)) = false → ((!findOk (wd x) (needN s a)) = true → true = true) ∧ ((!findOk (wd x) (needN s a)) = false → (uw (wd x) = x ∧ True) ∧ QaP (0 : Int) s a (1 : Nat) (0 : Int) #[Value.int IntKind.i64 (findI (wd x) (needN s a)), Value.int IntKind.i64 (needN s a)] (uw (takeW (wd x) (findI (wd x) (needN s a)) (needN s a))) es ∧ CallKind.normal = CallKind.normal ∧ TodoOk (ren 1 [(1, 1), (2, 13), (3, 3), (4, 4)]) aP_d0 aP_d0 ∧ off = off ∧ num = num ∧ s = s ∧ a = a ∧ (0 : Int) = (0 : Int) ∧ ty = ty ∧ ds = ds ∧ (28 : TypeId) = (28 : TypeId) ∧ (1 : Nat) = (1 : Nat) ∧ (0 : Int) = (0 : Int) ∧ (48 : TypeId) = (48 : TypeId) ∧ uw (takeW (wd x) (findI (wd x) (needN s a)) (needN s a)) = uw (takeW (wd x) (findI (wd x) (needN s a)) (needN s a)) ∧ (42 : TypeId) = (42 : Nat) ∧ #[Value.int IntKind.i64 (findI (wd x) (needN s a)), Value.int IntKind.i64 (needN s a)] = #[Value.int IntKind.i64 (findI (wd x) (needN s a)), Value.int IntKind.i64 (needN s a)] ∧ IntKind.i64 = IntKind.i64 ∧ VK.i IntKind.i64 = VK.i IntKind.i64 ∧ es = es ∧ True))) ∧ (((!objB s a) == false) = false → false = true)) ∧ (decide (s > ari BinOp.sub IntKind.i64 (0 : Int) (ari BinOp.mul IntKind.i64 (ari BinOp.quo IntKind.i64 (ari BinOp.sub IntKind.i64 (ari BinOp.add IntKind.i64 (0 : Int) a) (1 : Int)) a) a)) = false → False))) ∧ (((a == (1 : Int)) == false) = false → (a ≠ (0 : Int) ∧ True) ∧ (decide (s > ari BinOp.sub IntKind.i64 (0 : Int) (ari BinOp.mul IntKind.i64 (ari BinOp.quo IntKind.i64 (ari BinOp.sub IntKind.i64 (ari BinOp.add IntKind.i64 (0 : Int) a) (1 : Int)) a) a)) = true → (uw (wd x) = x ∧ True) ∧ (((!objB s a) == false) = true → (decide (needN s a < (1 : Int)) = true → false = true) ∧ (decide (needN s a < (1 : Int)) = false → ((!findOk (wd x) (needN s a)) = true → true = true) ∧ ((!findOk (wd x) (needN s a)) = false → (uw (wd x) = x ∧ True) ∧ QaP (0 : Int) s a (1 : Nat) (0 : Int) #[Value.int IntKind.i64 (findI (wd x) (needN s a)), Value.int IntKind.i64 (needN s a)] (uw (takeW (wd x) (findI (wd x) (needN s a)) (needN s a))) es ∧ CallKind.normal = CallKind.normal ∧ TodoOk (ren 1 [(1, 1), (2, 13), (3, 3), (4, 4)]) aP_d0 aP_d0 ∧ off = off ∧ num = num ∧ s = s ∧ a = a ∧ (0 : Int) = (0 : Int) ∧ ty = ty ∧ ds = ds ∧ (28 : TypeId) = (28 : TypeId) ∧ (1 : Nat) = (1 : Nat) ∧ (0 : Int) = (0 : Int) ∧ (48 : TypeId) = (48 : TypeId) ∧ uw (takeW (wd x) (findI (wd x) (needN s a)) (needN s a)) = uw (takeW (wd x) (findI (wd x) (needN s a)) (needN s a)) ∧ (42 : TypeId) = (42 : Nat) ∧ #[Value.int IntKind.i64 (findI (wd x) (needN s a)), Value.int IntKind.i64 (needN s a)] = #[Value.int IntKind.i64 (findI (wd x) (needN s a)), Value.int IntKind.i64 (needN s a)] ∧ IntKind.i64 = IntKind.i64 ∧ VK.i IntKind.i64 = VK.i IntKind.i64 ∧ es = es ∧ True))) ∧ (((!objB s a) == false) = false → false = true)) ∧ (decide (s > ari BinOp.sub IntKind.i64 (0 : Int) (ari BinOp.mul IntKind.i64 (ari BinOp.quo IntKind.i64 (ari BinOp.sub IntKind.i64 (ari BinOp.add IntKind.i64 (0 : Int) a) (1 : Int)) a) a)) = false → False))) ∧ ((decide (s ≤ (128 : Int)) == true) = false → (uw (wd x) = x ∧ True) ∧ (((!objB s a) == false) = true → (decide (needN s a < (1 : Int)) = true → false = true) ∧ (decide (needN s a < (1 : Int)) = false → ((!findOk (wd x) (needN s a)) = true → true = true) ∧ ((!findOk (wd x) (needN s a)) = false → (uw (wd x) = x ∧ True) ∧ QaP (0 : Int) s a (1 : Nat) (0 : Int) #[Value.int IntKind.i64 (findI (wd x) (needN s a)), Value.int IntKind.i64 (needN s a)] (uw (takeW (wd x) (findI (wd x) (needN s a)) (needN s a))) es ∧ CallKind.normal = CallKind.normal ∧ TodoOk (ren 1 [(1, 1), (2, 11), (3, 3), (4, 4)]) aP_d0 aP_d0 ∧ off = off ∧ num = num ∧ s = s ∧ a = a ∧ (0 : Int) = (0 : Int) ∧ ty = ty ∧ ds = ds ∧ (28 : TypeId) = (28 : TypeId) ∧ (1 : Nat) = (1 : Nat) ∧ (0 : Int) = (0 : Int) ∧ (48 : TypeId) = (48 : TypeId) ∧ uw (takeW (wd x) (findI (wd x) (needN s a)) (needN s a)) = uw (takeW (wd x) (findI (wd x) (needN s a)) (needN s a)) ∧ (42 : TypeId) = (42 : Nat) ∧ #[Value.int IntKind.i64 (findI (wd x) (needN s a)), Value.int IntKind.i64 (needN s a)] = #[Value.int IntKind.i64 (findI (wd x) (needN s a)), Value.int IntKind.i64 (needN s a)] ∧ IntKind.i64 = IntKind.i64 ∧ VK.i IntKind.i64 = VK.i IntKind.i64 ∧ es = es ∧ True))) ∧ (((!objB s a) == false) = false → false = true))) ∧ ((decide (s ≥ (1 : Int)) == true) = false → (uw (wd x) = x ∧ True) ∧ (((!objB s a) == false) = true → (decide (needN s a < (1 : Int)) = true → false = true) ∧ (decide (needN s a < (1 : Int)) = false → ((!findOk (wd x) (needN s a)) = true → true = true) ∧ ((!findOk (wd x) (needN s a)) = false → (uw (wd x) = x ∧ True) ∧ QaP (0 : Int) s a (1 : Nat) (0 : Int) #[Value.int IntKind.i64 (findI (wd x) (needN s a)), Value.int IntKind.i64 (needN s a)] (uw (takeW (wd x) (findI (wd x) (needN s a)) (needN s a))) es ∧ CallKind.normal = CallKind.normal ∧ TodoOk (ren 1 [(1, 1), (2, 11), (3, 3), (4, 4)]) aP_d0 aP_d0 ∧ off = off ∧ num = num ∧ s = s ∧ a = a ∧ (0 : Int) = (0 : Int) ∧ ty = ty ∧ ds = ds ∧ (28 : TypeId) = (28 : TypeId) ∧ (1 : Nat) = (1 : Nat) ∧ (0 : Int) = (0 : Int) ∧ (48 : TypeId) = (48 : TypeId) ∧ uw (takeW (wd x) (findI (wd x) (needN s a)) (needN s a)) = uw (takeW (wd x) (findI (wd x) (needN s a)) (needN s a)) ∧ (42 : TypeId) = (42 : Nat) ∧ #[Value.int IntKind.i64 (findI (wd x) (needN s a)), Value.int IntKind.i64 (needN s a)] = #[Value.int IntKind.i64 (findI (wd x) (needN s a)), Value.int IntKind.i64 (needN s a)] ∧ IntKind.i64 = IntKind.i64 ∧ VK.i IntKind.i64 = VK.i IntKind.i64 ∧ es = es ∧ True))) ∧ (((!objB s a) == false) = false → false = true))) := by kernel_rfl
theorem q0_vc (off : Nat) (num : Nat) (ds : Array Value) (ty : TypeId) (QaS : Int → List (Int × Int) → Prop) : (q0_t off num ds ty).vc ((isB true)) (q0_x off num ds ty QaS) =
    ((decide ((↑num : Int) > (40 : Int)) = true → true = true) ∧ (decide ((↑num : Int) > (40 : Int)) = false → QaS (18446744073709551615 : Int) (List.map (fun p => (decV (Prod.fst p), decV (Prod.snd p))) []) ∧ CallKind.normal = CallKind.normal ∧ TodoOk (ren 1 [(1, 1), (3, 2), (4, 3)]) aA_d0 aA_d0 ∧ off = off ∧ num = num ∧ ty = ty ∧ ds = ds ∧ (28 : TypeId) = (28 : Nat) ∧ Value.slice none (0 : Nat) (0 : Nat) = Value.slice none (0 : Nat) (0 : Nat) ∧ (48 : TypeId) = (48 : Nat) ∧ (18446744073709551615 : Int) = (18446744073709551615 : Int) ∧ List.map (encE IntKind.i64 (VK.i IntKind.i64)) (List.map (fun p => (decV (Prod.fst p), decV (Prod.snd p))) []) = [] ∧ True)) := by kernel_rfl
theorem qZ_vc (ty : TypeId) : (qZ_t ty).vc ((isB true)) (qZ_x ty ) =
    (true = true) := by kernel_rfl
end Go.Proofs.YtccbfkeigfnibaaDoor
/- Of extent: ExtentApart: its runs end with true. No condition. -/
namespace Go.Proofs.YtccbfkeigfnibaaDoor
set_option maxRecDepth 100000
set_option linter.unusedSimpArgs false
set_option linter.unusedVariables false
theorem EA_ok : EnvOk EA := EnvOk.with E0_ok _ _ conA_ok
theorem EZ2_ok : EnvOk EZ2 := EnvOk.with E0_ok _ _ conA_ok
theorem wd_uw (X : BitVec 64) : wd (uw X) = X := by unfold wd; rw [ofInt_uw]
theorem wrap_in {t : Int} (h1 : 0 ≤ t) (h2 : t ≤ 1000000) : IntKind.i64.wrap t = t := Go.IntWalk.i64_in _ (by omega)
/-! Rows of chunks. -/
section
variable {cs : Array Value} {off n : Nat}
/-- What a chunk has is taken. -/
theorem take_sub {X : BitVec 64} {p m : Int} {k : Nat} (h : (takeW X p m).getLsbD k = true) : X.getLsbD k = true := by
  unfold takeW at h
  split at h
  · rw [BitVec.getLsbD_and, Bool.and_eq_true] at h
    exact h.1
  · exact h
theorem take_out {X : BitVec 64} {p m : Int} {k : Nat} (hk : takeOk X p m = true) (h1 : p ≤ (k : Int)) (h2 : (k : Int) < p + m) : (takeW X p m).getLsbD k = false := by
  obtain ⟨m1, m2, m3, m4⟩ := takeOk_may hk
  unfold takeW
  rw [if_pos hk, BitVec.getLsbD_and, BitVec.getLsbD_not, spanW_bit _ _ _ (by omega), decide_eq_true (by omega : p.toNat ≤ k ∧ k < p.toNat + m.toNat)]
  simp
theorem take_in {X : BitVec 64} {p m : Int} {k : Nat} (hk : takeOk X p m = true) (h1 : p ≤ (k : Int)) (h2 : (k : Int) < p + m) : X.getLsbD k = true := by
  obtain ⟨m1, m2, m3, m4⟩ := takeOk_may hk
  unfold takeOk at hk
  rw [Bool.and_eq_true] at hk
  exact (allIn_iff (by omega)).1 hk.2 k (by omega) (by omega)
theorem tkW_sub {i : Nat} : ∀ {j k : Nat}, i ≤ j → (tkW cs off j).getLsbD k = true → (tkW cs off i).getLsbD k = true
  | 0, k, h, hb => by
    obtain rfl : i = 0 := by omega
    exact hb
  | j + 1, k, h, hb => by
    by_cases e : i = j + 1
    · rw [e]; exact hb
    · exact tkW_sub (by omega) (take_sub hb)
theorem chunks_apart (h : tkOk cs off n = true) {i j k : Nat} (hi : i < j) (hj : j < n) (a1 : at0 cs off i ≤ (k : Int)) (a2 : (k : Int) < at0 cs off i + nn0 cs off i) (b1 : at0 cs off j ≤ (k : Int)) (b2 : (k : Int) < at0 cs off j + nn0 cs off j) : False := by
  have h1 := take_in (tkOk_one h hj) b1 b2
  have h2 := take_out (tkOk_one h (by omega : i < n)) a1 a2
  have h3 : (tkW cs off (i + 1)).getLsbD k = true := tkW_sub (by omega) h1
  unfold tkW at h3
  rw [h2] at h3
  cases h3
/-- In which chunk a byte lies. -/
theorem chunk_of (h : Small cs off n) : ∀ {m : Nat}, m ≤ n → ∀ t : Int, 0 ≤ t → t < 32 * sumN cs off m → ∃ i, i < m ∧ 32 * sumN cs off i ≤ t ∧ t < 32 * (sumN cs off i + nn0 cs off i)
  | 0, _, t, h0, h1 => by unfold sumN at h1; omega
  | m + 1, hm, t, h0, h1 => by
    by_cases e : t < 32 * sumN cs off m
    · obtain ⟨i, h2, h3⟩ := chunk_of h (by omega) t h0 e
      exact ⟨i, by omega, h3⟩
    · exact ⟨m, by omega, by omega, h1⟩
theorem plV_at (h : tkOk cs off n = true) {i : Nat} (hi : i < n) {t : Int} (h1 : 32 * sumN cs off i ≤ t) (h2 : t < 32 * (sumN cs off i + nn0 cs off i)) : plV cs off n t = 32 * at0 cs off i + (t - 32 * sumN cs off i) := by
  have hs := tkOk_small h
  have k0 := (sumN_le hs i (by omega)).1
  have hm : sumN cs off (i + 1) ≤ sumN cs off n := by
    have : ∀ d, i + 1 + d ≤ n → sumN cs off (i + 1) ≤ sumN cs off (i + 1 + d) := by
      intro d
      induction d with
      | zero => intro _; exact Int.le_refl _
      | succ d ih =>
        intro hd
        have := ih (by omega)
        have h3 := hs (i + 1 + d) (by omega)
        show _ ≤ sumN cs off (i + 1 + d) + nn0 cs off (i + 1 + d)
        omega
    have := this (n - (i + 1)) (by omega)
    rwa [show i + 1 + (n - (i + 1)) = n by omega] at this
  have hm : sumN cs off i + nn0 cs off i ≤ sumN cs off n := hm
  have hb : plB cs off n t = true := by unfold plB; exact decide_eq_true ⟨by omega, by omega⟩
  have := bytesL_at hs i hi (t - 32 * sumN cs off i).toNat (by omega)
  unfold plV
  rw [if_pos hb]
  have e : t.toNat = (32 * sumN cs off i).toNat + (t - 32 * sumN cs off i).toNat := by omega
  rw [e]
  have h4 : (bytesL cs off n).toArray[(32 * sumN cs off i).toNat + (t - 32 * sumN cs off i).toNat]? = some (Value.int .i64 (32 * at0 cs off i + ((t - 32 * sumN cs off i).toNat : Nat))) := by rw [List.getElem?_toArray]; exact this
  rw [intAt_of h4]
  omega
theorem plV_inj (h : tkOk cs off n = true) {t u : Int} (t0 : 0 ≤ t) (t1 : t < 32 * sumN cs off n) (u0 : 0 ≤ u) (u1 : u < 32 * sumN cs off n) (e : plV cs off n t = plV cs off n u) : t = u := by
  have hs := tkOk_small h
  obtain ⟨i, i1, i2, i3⟩ := chunk_of hs (Nat.le_refl n) t t0 t1
  obtain ⟨j, j1, j2, j3⟩ := chunk_of hs (Nat.le_refl n) u u0 u1
  rw [plV_at h i1 i2 i3, plV_at h j1 j2 j3] at e
  have mi := takeOk_may (tkOk_one h i1)
  have mj := takeOk_may (tkOk_one h j1)
  rcases Nat.lt_trichotomy i j with c | c | c
  · exact (chunks_apart h (k := ((32 * at0 cs off i + (t - 32 * sumN cs off i)) / 32).toNat) c j1 (by omega) (by omega) (by omega) (by omega)).elim
  · subst c; omega
  · exact (chunks_apart h (k := ((32 * at0 cs off i + (t - 32 * sumN cs off i)) / 32).toNat) c i1 (by omega) (by omega) (by omega) (by omega)).elim
/-- Rows that begin alike. -/
def Like (cs ds : Array Value) (n : Nat) : Prop := ∀ i, i < n → at0 ds 0 i = at0 cs 0 i ∧ nn0 ds 0 i = nn0 cs 0 i
theorem Like.sum {ds : Array Value} (h : Like cs ds n) : ∀ k, k ≤ n → sumN ds 0 k = sumN cs 0 k
  | 0, _ => rfl
  | k + 1, hk => by unfold sumN; rw [h.sum k (by omega), (h k (by omega)).2]
theorem Like.tk {ds : Array Value} (h : Like cs ds n) : ∀ k, k ≤ n → tkW ds 0 k = tkW cs 0 k
  | 0, _ => rfl
  | k + 1, hk => by unfold tkW; rw [h.tk k (by omega), (h k (by omega)).1, (h k (by omega)).2]
theorem Like.ok {ds : Array Value} (h : Like cs ds n) : ∀ k, k ≤ n → tkOk ds 0 k = tkOk cs 0 k
  | 0, _ => rfl
  | k + 1, hk => by unfold tkOk; rw [h.ok k (by omega), h.tk k (by omega), (h k (by omega)).1, (h k (by omega)).2]
end
section
variable {cs : Array Value} {n : Nat}
/-- A row of chunks, whole; what is left; how far bytes are used. -/
structure Ch (cs : Array Value) (n : Nat) (L x : Int) : Prop where
  ok : PrOk cs 0 n
  sz : cs.size = n * 2
  tk : tkOk cs 0 n = true
  l0 : 0 ≤ L
  l1 : L ≤ 32 * sumN cs 0 n
  x : x = uw (tkW cs 0 n)
  n1 : 1 ≤ n
theorem Ch.whole {L x : Int} (h : Ch cs n L x) : Array.extract cs 0 (n * 2) = cs := by
  rw [← h.sz]; exact Array.extract_size
/-- A chunk more. -/
structure More (cs ds : Array Value) (n : Nat) (a b : Int) : Prop where
  like : Like cs ds n
  a : at0 ds 0 n = a
  b : nn0 ds 0 n = b
  sz : ds.size = (n + 1) * 2
  ia : IsInt .i64 ds (0 + n * 2)
  ib : IsInt .i64 ds (0 + n * 2 + 1)
  lt : ∀ p : Nat, p < n * 2 → ds[p]? = cs[p]?
theorem more_of (hs : cs.size = n * 2) (a b : Int) : More cs (cs ++ #[.int .i64 a, .int .i64 b]) n a b := by
  have lt : ∀ p : Nat, p < n * 2 → (cs ++ #[Value.int .i64 a, .int .i64 b])[p]? = cs[p]? := fun p hp => Array.getElem?_append_left (by omega)
  have g0 : (cs ++ #[Value.int .i64 a, .int .i64 b])[0 + n * 2]? = some (.int .i64 a) := by
    rw [Array.getElem?_append_right (by omega), show 0 + n * 2 - cs.size = 0 by omega]; rfl
  have g1 : (cs ++ #[Value.int .i64 a, .int .i64 b])[0 + n * 2 + 1]? = some (.int .i64 b) := by
    rw [Array.getElem?_append_right (by omega), show 0 + n * 2 + 1 - cs.size = 1 by omega]; rfl
  refine ⟨fun i hi => ?_, intAt_of g0, intAt_of g1, ?_, isI_of g0, isI_of g1, lt⟩
  · unfold at0 nn0 intAt
    rw [lt _ (by omega), lt _ (by omega)]
    exact ⟨rfl, rfl⟩
  · have e2 : (#[Value.int .i64 a, .int .i64 b]).size = 2 := rfl
    rw [Array.size_append, hs, e2]; omega
theorem More.sum {ds : Array Value} {a b : Int} (h : More cs ds n a b) : sumN ds 0 (n + 1) = sumN cs 0 n + b := by
  show sumN ds 0 n + nn0 ds 0 n = _
  rw [h.like.sum n (Nat.le_refl _), h.b]
theorem More.tk {ds : Array Value} {a b : Int} (h : More cs ds n a b) (ht : tkOk cs 0 n = true) (hk : takeOk (tkW cs 0 n) a b = true) : tkOk ds 0 (n + 1) = true := by
  show (tkOk ds 0 n && takeOk (tkW ds 0 n) (at0 ds 0 n) (nn0 ds 0 n)) = true
  rw [h.like.ok n (Nat.le_refl _), h.like.tk n (Nat.le_refl _), h.a, h.b, ht, hk]; rfl
theorem More.ch {ds : Array Value} {a b : Int} (h : More cs ds n a b) (hp : ∀ i, i < n → IsInt .i64 cs (0 + i * 2) ∧ IsInt .i64 cs (0 + i * 2 + 1)) (hn : n ≤ 50) (ht : tkOk cs 0 n = true) (hk : takeOk (tkW cs 0 n) a b = true) :
    Ch ds (n + 1) (32 * sumN cs 0 n) (uw (takeW (tkW cs 0 n) a b)) := by
  have hm := takeOk_may hk
  have e1 := h.sum
  have hsum := (sumN_le (tkOk_small ht) n (Nat.le_refl _)).1
  have hsz := h.sz
  have hok : PrOk ds 0 (n + 1) := by
    refine ⟨by omega, by omega, fun i hi => ?_, fun i hi => ?_⟩
    · by_cases e : i = n
      · subst e; exact h.ia
      · have := (hp i (by omega)).1
        unfold IsInt intAt at this ⊢
        rw [h.lt _ (by omega)]; exact this
    · by_cases e : i = n
      · subst e; exact h.ib
      · have := (hp i (by omega)).2
        unfold IsInt intAt at this ⊢
        rw [h.lt _ (by omega)]; exact this
  refine ⟨hok, hsz, h.tk ht hk, by omega, by omega, ?_, by omega⟩
  show _ = uw (takeW (tkW ds 0 n) (at0 ds 0 n) (nn0 ds 0 n))
  rw [h.like.tk n (Nat.le_refl _), h.a, h.b]
/-- Bytes that are somebody's lie below a place. -/
def Own (cs : Array Value) (n : Nat) (es : List (Int × Int)) (k : Int) : Prop := ∀ p, hasI p es = true → ∃ u : Int, 0 ≤ u ∧ u < k ∧ u < 32 * sumN cs 0 n ∧ p = plV cs 0 n u
theorem More.own {ds : Array Value} {a b L : Int} {es : List (Int × Int)} (h : More cs ds n a b) (ht : tkOk cs 0 n = true) (hk : takeOk (tkW cs 0 n) a b = true) (hO : Own cs n es L) : Own ds (n + 1) es (32 * sumN cs 0 n) := by
  intro p hp
  obtain ⟨u, u0, u1, u2, rfl⟩ := hO p hp
  have hm := takeOk_may hk
  have e1 := h.sum
  refine ⟨u, u0, u2, by omega, ?_⟩
  obtain ⟨i, i1, i2, i3⟩ := chunk_of (tkOk_small ht) (Nat.le_refl n) u u0 u2
  have es := h.like.sum i (by omega)
  have hi := h.like i i1
  rw [plV_at ht i1 i2 i3, plV_at (h.tk ht hk) (i := i) (by omega) (by rw [es]; exact i2) (by rw [es, hi.2]; exact i3), es, hi.1]
end
theorem found {X : BitVec 64} {n : Int} : findOk X n = false ∨ ∃ a : Int, findOk X n = true ∧ findI X n = a ∧ takeOk X a n = true := by
  cases e : findN X n with
  | none => exact .inl (find_none e).2
  | some a =>
    obtain ⟨h1, h2⟩ := find_some e
    obtain ⟨f1, f2, f3⟩ := fitsAt_iff.1 (seek_some e).2.2.1
    refine .inr ⟨_, h2, h1, ?_⟩
    unfold takeOk
    rw [mayB_iff.2 ⟨f1, by omega, by omega, by omega⟩, Bool.true_and, allIn_iff (by omega)]
    intro i h1 h2
    exact f3 i (by omega) (by omega)
/-! The law. -/
def ObjsOk (ds : Array Value) (off num : Nat) : Prop := ∀ i, i < num → IsInt .u8 ds (off + i * 2) ∧ (0 ≤ intAt ds (off + i * 2) ∧ intAt ds (off + i * 2) ≤ 255) ∧ IsInt .u8 ds (off + i * 2 + 1) ∧ (0 ≤ intAt ds (off + i * 2 + 1) ∧ intAt ds (off + i * 2 + 1) ≤ 255)
def QP (num : Nat) (i s a : Int) (n : Nat) (L : Int) (cs : Array Value) (x : Int) (es : List (Int × Int)) : Prop := 0 ≤ i ∧ i < (num : Int) ∧ n ≤ i.toNat + 1 ∧ Ch cs n L x ∧ Own cs n es L ∧ fitOk L s a (32 * sumN cs 0 n) = true
def QQ (num : Nat) (i s t k : Int) (n : Nat) (L : Int) (cs : Array Value) (x : Int) (es : List (Int × Int)) : Prop := 0 ≤ i ∧ i < (num : Int) ∧ n ≤ i.toNat + 1 ∧ Ch cs n L x ∧ L = t + s ∧ 0 ≤ t ∧ t ≤ k ∧ k ≤ t + s ∧ Own cs n es k
def QA (i : Int) (n : Nat) (L : Int) (cs : Array Value) (x : Int) (es : List (Int × Int)) : Prop := n ≤ i.toNat ∧ Ch cs n L x ∧ Own cs n es L
theorem sz_of {v : Int} (h : 0 ≤ v ∧ v ≤ 255) : ari .add .i64 1 (ari .rem .i64 (IntKind.i64.wrap v) 128) = 1 + v % 128 := by
  rw [wrap_in (by omega) (by omega), ari_rem, Int.tmod_eq_emod_of_nonneg (by omega), ari_add, wrap_in (by omega) (by omega)]
theorem al_of {v : Int} (h : 0 ≤ v ∧ v ≤ 255) : 0 ≤ ari .rem .u8 v 4 ∧ (ari .shl .i64 1 (ari .rem .u8 v 4) = 1 ∨ ari .shl .i64 1 (ari .rem .u8 v 4) = 2 ∨ ari .shl .i64 1 (ari .rem .u8 v 4) = 4 ∨ ari .shl .i64 1 (ari .rem .u8 v 4) = 8) := by
  rw [ari_rem, Int.tmod_eq_emod_of_nonneg (by omega)]
  have : v % 4 = 0 ∨ v % 4 = 1 ∨ v % 4 = 2 ∨ v % 4 = 3 := by omega
  refine ⟨by omega, ?_⟩
  rcases this with e | e | e | e <;> rw [e]
  · exact .inl rfl
  · exact .inr (.inl rfl)
  · exact .inr (.inr (.inl rfl))
  · exact .inr (.inr (.inr rfl))
section
variable {off num : Nat} {ds : Array Value} {ty : TypeId} (hn : num ≤ 40) (ha : ObjsOk ds off num)
include hn
def Next (off num : Nat) (ds : Array Value) (ty : TypeId) (i : Int) : Prop := ∀ n L cs x es, QA (i + 1) n L cs x es → Good Tryd.prog (isB true) 1 (aA_F off num ds ty (i + 1) n L cs x es) (aA_M off num ds ty (i + 1) n L cs x es)
theorem aQ_ok {i : Int} (H : Next off num ds ty i) : ∀ (m : Nat) (s t k : Int) (n : Nat) (L : Int) (cs : Array Value) (x : Int) (es : List (Int × Int)), (t + s - k).toNat < m → QQ num i s t k n L cs x es → Good Tryd.prog (isB true) 1 (aQ_F off num ds ty i s t k n L cs x es) (aQ_M off num ds ty i s t k n L cs x es) := by
  intro m
  induction m with
  | zero => intro s t k n L cs x es h; omega
  | succ m ih =>
    intro s t k n L cs x es hm ⟨h1, h2, h3, h4, h5, h6, h7, h8, h9⟩
    refine past_vc EA_ok 1000 (qQ_vc off num ds ty i s t k n L cs x es (fun i' s' t' k' n' L' c' x' e' => i' = i ∧ s' = s ∧ t' = t ∧ k' = k + 1 ∧ k < t + s ∧ QQ num i s t (k + 1) n' L' c' x' e') (fun i' n' L' c' x' e' => i' = i + 1 ∧ QA (i + 1) n' L' c' x' e')) ?_ (fun _ _ h => h)
      (fun fs m hb => qQ_go (fun i' s' t' k' n' L' c' x' e' ⟨e1, e2, e3, e4, e5, e6⟩ => by rw [e1, e2, e3, e4]; exact ih _ _ _ _ _ _ _ _ (by omega) e6) (fun i' n' L' c' x' e' ⟨e1, e2⟩ => by rw [e1]; exact H _ _ _ _ _ e2) hb)
    have hl := h4.l1
    have hsm := (sumN_le (tkOk_small h4.tk) n (Nat.le_refl _)).2
    have ei : ari .add .i64 i 1 = i + 1 := by rw [ari_add]; exact wrap_in (by omega) (by omega)
    have ek : ari .add .i64 k 1 = k + 1 := by rw [ari_add]; exact wrap_in (by omega) (by omega)
    have et : ari .add .i64 t s = t + s := by rw [ari_add]; exact wrap_in (by omega) (by omega)
    by_cases hk : k < t + s
    · have d : decide (k < t + s) = true := decide_eq_true hk
      have d1 : plB cs 0 n k = true := by unfold plB; exact decide_eq_true ⟨by omega, by omega⟩
      have d2 : hasI (plV cs 0 n k) es = false := by
        cases hh : hasI (plV cs 0 n k) es with
        | false => rfl
        | true =>
          obtain ⟨u, u0, u1, u2, u3⟩ := h9 _ hh
          have := plV_inj h4.tk (by omega) (by omega) u0 u2 u3
          omega
      simp only [et, ek, d, d1, d2, beqF, Bool.not_true, Bool.not_false, true_implies, Bool.true_eq_false, Bool.false_eq_true, false_implies, and_true, true_and, aQ_d0_ok, aA_d0_ok]
      refine ⟨⟨h4.ok, h4.tk, by omega, by omega⟩, hk, h1, h2, h3, h4, h5, h6, by omega, by omega, fun p hp => ?_⟩
      unfold hasI at hp
      rw [show lookI p (insI (plV cs 0 n k) i es) = if p = plV cs 0 n k then some i else lookI p es from look_ins es] at hp
      by_cases e : p = plV cs 0 n k
      · exact ⟨k, by omega, by omega, by omega, e⟩
      · rw [if_neg e] at hp
        obtain ⟨u, u0, u1, u2, u3⟩ := h9 p hp
        exact ⟨u, u0, by omega, u2, u3⟩
    · have d : decide (k < t + s) = false := decide_eq_false hk
      simp only [et, ei, d, true_implies, Bool.true_eq_false, Bool.false_eq_true, false_implies, and_true, true_and, aQ_d0_ok, aA_d0_ok]
      have e : k = t + s := by omega
      subst e
      exact ⟨by omega, h4, by rw [h5]; exact h9⟩
theorem aP_ok {i s a : Int} {n : Nat} {L : Int} {cs : Array Value} {x : Int} {es : List (Int × Int)} (H : Next off num ds ty i) (h : QP num i s a n L cs x es) : Good Tryd.prog (isB true) 1 (aP_F off num ds ty i s a n L cs x es) (aP_M off num ds ty i s a n L cs x es) := by
  obtain ⟨h1, h2, h3, h4, h5, h6⟩ := h
  refine past_vc EA_ok 1000 (qP_vc off num ds ty i s a n L cs x es (fun i' s' t' k' n' L' c' x' e' => i' = i ∧ QQ num i s' t' k' n' L' c' x' e')) ?_ (fun _ _ h => h)
    (fun fs m hb => qP_go (fun i' s' t' k' n' L' c' x' e' ⟨e1, e2⟩ => by rw [e1]; exact aQ_ok hn H _ _ _ _ _ _ _ _ _ (Nat.lt_succ_self _) e2) hb)
  obtain ⟨⟨s1, s2, a1⟩, f2⟩ := fitOk_iff.1 h6
  have hsm := (sumN_le (tkOk_small h4.tk) n (Nat.le_refl _)).2
  obtain ⟨u1, u2, u3, _⟩ := upN_at h4.l0 a1
  have hv : fitV L s a (32 * sumN cs 0 n) = upN L a := by unfold fitV; rw [if_pos h6]
  have hl := h4.l0
  have e1 : ari .add .i64 (upN L a) s = upN L a + s := by rw [ari_add]; exact wrap_in (by omega) (by omega)
  have e2 : ari .rem .i64 (upN L a) a = 0 := by rw [rem_pos (by omega)]; exact u3
  have d1 : ((0 : Int) != 0) = false := rfl
  have d2 : mayE cs 0 n (upN L a + s) = true := mayE_iff.2 ⟨h4.tk, by omega, by omega⟩
  simp only [h6, hv, e1, e2, d1, h4.whole, Nat.zero_add, d2, bne_self_eq_false, beqF, Bool.not_true, Bool.not_false, true_implies, Bool.true_eq_false, Bool.false_eq_true, false_implies, and_true, true_and, aQ_d0_ok]
  exact ⟨⟨by have := h4.sz; omega, by omega, by omega⟩, ⟨h4.ok, h4.tk, h4.l0, h4.l1⟩, by omega, h4.ok, h1, h2, h3, ⟨h4.ok, h4.sz, h4.tk, by omega, by omega, h4.x, h4.n1⟩, rfl, by omega, by omega, by omega, fun p hp => by
    obtain ⟨u, k0, k1, k2, k3⟩ := h5 p hp
    exact ⟨u, k0, by omega, k2, k3⟩⟩
omit hn in
theorem need_at {s a : Int} (h : objB s a = true) : needN s a = (s + 31) / 32 ∧ 1 ≤ needN s a ∧ s ≤ 32 * needN s a := by
  have hs := objB_iff.1 h
  have e : needN s a = (s + 31) / 32 := by unfold needN; rw [if_pos h]
  refine ⟨e, ?_, ?_⟩ <;> rw [e] <;> omega
omit hn in
theorem fit_more {T s a : Int} (h : objB s a = true) (hT : 0 ≤ T) (hd : T % 32 = 0) : fitOk T s a (T + 32 * needN s a) = true := by
  obtain ⟨e1, e2, e3⟩ := need_at h
  have ha := (objB_iff.1 h).2.2
  refine fitOk_iff.2 ⟨objB_iff.1 h, ?_⟩
  have : upN T a = T := by
    unfold upN
    rcases ha with rfl | rfl | rfl | rfl <;> omega
  omega
theorem aB_ok {i s a : Int} {n : Nat} {L : Int} {cs : Array Value} {x : Int} {es : List (Int × Int)} (H : Next off num ds ty i) (hi : 0 ≤ i ∧ i < (num : Int)) (ho : objB s a = true) (h : QA i n L cs x es) : Good Tryd.prog (isB true) 1 (aB_F off num ds ty i s a n L cs x es) (aB_M off num ds ty i s a n L cs x es) := by
  obtain ⟨h3, h4, h5⟩ := h
  refine past_vc EA_ok 1000 (qB_vc off num ds ty i s a n L cs x es (fun i' s' a' n' L' c' x' e' => i' = i ∧ QP num i s' a' n' L' c' x' e')) ?_ (fun _ _ h => h)
    (fun fs m hb => qB_go (fun i' s' a' n' L' c' x' e' ⟨e1, e2⟩ => by rw [e1]; exact aP_ok hn H e2) hb)
  have hx := h4.x
  subst hx
  have hsm := sumN_le (tkOk_small h4.tk) n (Nat.le_refl _)
  have hw : uw (wd (uw (tkW cs 0 n))) = uw (tkW cs 0 n) := by rw [wd_uw]
  cases hf : fitOk L s a (32 * sumN cs 0 n) with
  | true =>
    simp only [hf, Bool.not_true, true_implies, Bool.true_eq_false, Bool.false_eq_true, false_implies, and_true, true_and, aP_d0_ok]
    exact ⟨⟨h4.ok, h4.tk, h4.l0, h4.l1⟩, hi.1, hi.2, by omega, h4, h5, hf⟩
  | false =>
    obtain ⟨e1, e2, e3⟩ := need_at ho
    have d1 : decide (needN s a < 1) = false := decide_eq_false (by omega)
    have em : ari .mul .i64 (sumN cs 0 n) 32 = 32 * sumN cs 0 n := by rw [ari_mul, wrap_in (by omega) (by omega)]; omega
    have hmay : mayE cs 0 n L = true := mayE_iff.2 ⟨h4.tk, h4.l0, h4.l1⟩
    rcases found (X := tkW cs 0 n) (n := needN s a) with f | ⟨p, f1, f2, f3⟩
    · simp only [hf, ho, d1, f, hmay, wd_uw, beqT, beqF, Bool.not_true, Bool.not_false, true_implies, Bool.true_eq_false, Bool.false_eq_true, false_implies, and_true, true_and, aP_d0_ok]
      exact ⟨⟨h4.ok, h4.tk, h4.l0, h4.l1⟩, h4.ok⟩
    · have hM := more_of h4.sz p (needN s a)
      have m1 := hM.ch (fun i hi => ⟨h4.ok.a i hi, h4.ok.b i hi⟩) (by omega) h4.tk f3
      have m2 := hM.sum
      have m3 := hM.own h4.tk f3 h5
      simp only [hf, ho, d1, f1, f2, em, wd_uw, h4.whole, Nat.zero_add, beqT, beqF, Bool.not_true, Bool.not_false, true_implies, Bool.true_eq_false, Bool.false_eq_true, false_implies, and_true, true_and, aP_d0_ok]
      exact ⟨⟨h4.ok, h4.tk, h4.l0, h4.l1⟩, ⟨by have := h4.sz; omega, by omega, by omega⟩, ⟨⟨by omega, by omega⟩, h4.sz.symm⟩, ⟨h4.ok, tkOk_small h4.tk⟩, hi.1, hi.2, by omega, m1, m3, by rw [m2, Int.mul_add]; exact fit_more ho (by omega) (by omega)⟩
include ha in
theorem aA_ok : ∀ (j : Nat) (i : Int) (n : Nat) (L : Int) (cs : Array Value) (x : Int) (es : List (Int × Int)), num - i.toNat < j → 0 ≤ i → i ≤ (num : Int) → QA i n L cs x es → Good Tryd.prog (isB true) 1 (aA_F off num ds ty i n L cs x es) (aA_M off num ds ty i n L cs x es) := by
  intro j
  induction j with
  | zero => intro i n L cs x es h; omega
  | succ j ih =>
    intro i n L cs x es hj h0 h1 hB
    have H : i < (num : Int) → Next off num ds ty i := fun hi n' L' cs' x' es' hb => ih _ _ _ _ _ _ (by omega) (by omega) (by omega) hb
    refine past_vc EA_ok 1000 (qA_vc off num ds ty i n L cs x es (fun i' s' a' n' L' c' x' e' => i' = i ∧ i < (num : Int) ∧ objB s' a' = true ∧ QA i n' L' c' x' e')) ?_ (fun _ _ h => h)
      (fun fs m hb => qA_go (fun i' s' a' n' L' c' x' e' ⟨e1, e2, e3, e4⟩ => by rw [e1]; exact aB_ok hn (H e2) ⟨h0, e2⟩ e3 e4) hb)
    by_cases hi : i < (num : Int)
    · obtain ⟨a1, a2, a3, a4⟩ := ha i.toNat (by omega)
      have d : decide (i < (num : Int)) = true := decide_eq_true hi
      obtain ⟨b1, b2⟩ := al_of a4
      simp only [d, sz_of a2, true_implies, Bool.true_eq_false, Bool.false_eq_true, false_implies, and_true, true_and, aB_d0_ok, aT_d0_ok]
      exact ⟨⟨h0, hi⟩, a1, ⟨h0, hi⟩, a3, b1, hi, objB_iff.2 ⟨by omega, by omega, b2⟩, hB⟩
    · have d : decide (i < (num : Int)) = false := decide_eq_false hi
      simp only [d, true_implies, Bool.true_eq_false, Bool.false_eq_true, false_implies, and_true, true_and]
theorem aT_ok {s a : Int} (H : Next off num ds ty 0) (h0 : 0 < num) (ho : objB s a = true) : Good Tryd.prog (isB true) 1 (aT_F off num ds ty s a (uw (BitVec.allOnes 64)) []) (aT_M off num ds ty s a (uw (BitVec.allOnes 64)) []) := by
  refine past_vc EA_ok 1000 (qT_vc off num ds ty s a (uw (BitVec.allOnes 64)) [] (fun i' s' a' n' L' c' x' e' => i' = 0 ∧ QP num 0 s' a' n' L' c' x' e')) ?_ (fun _ _ h => h)
    (fun fs m hb => qT_go (fun i' s' a' n' L' c' x' e' ⟨e1, e2⟩ => by rw [e1]; exact aP_ok hn H e2) hb)
  have ho' := objB_iff.1 ho
  obtain ⟨e1, e2, e3⟩ := need_at ho
  have d1 : decide (needN s a < 1) = false := decide_eq_false (by omega)
  have d2 : decide (s ≥ 1) = true := decide_eq_true ho'.1
  have d3 : decide (s ≤ 128) = true := decide_eq_true ho'.2.1
  have d4 : decide (s > 0) = true := decide_eq_true (by omega)
  have one : ∀ p : Int, takeOk (BitVec.allOnes 64) p (needN s a) = true → QP num 0 s a 1 0 #[.int .i64 p, .int .i64 (needN s a)] (uw (takeW (BitVec.allOnes 64) p (needN s a))) [] := by
    intro p hp
    have hM : More #[] #[.int .i64 p, .int .i64 (needN s a)] 0 p (needN s a) := more_of (cs := #[]) (n := 0) rfl p (needN s a)
    have m1 := hM.ch (fun i hi => by omega) (by omega) rfl hp
    have m2 := hM.sum
    refine ⟨by omega, by omega, by omega, m1, fun p hp => (by cases hp), ?_⟩
    have := fit_more (T := 0) ho (by omega) (by omega)
    rw [Int.zero_add] at this
    rwa [show sumN #[.int .i64 p, .int .i64 (needN s a)] 0 1 = needN s a from m2.trans (Int.zero_add _)]
  have hq : ∀ b : Int, (b = 1 ∨ b = 2 ∨ b = 4 ∨ b = 8) → ari .sub .i64 0 (ari .mul .i64 (ari .quo .i64 (ari .sub .i64 (ari .add .i64 0 b) 1) b) b) = 0 := by
    intro b hb
    rcases hb with rfl | rfl | rfl | rfl <;> rfl
  have hq := hq a ho'.2.2
  have h0a : a ≠ 0 := by have := ho'.2.2; omega
  have done : ∀ P : Prop, P → True ∧ P := fun P h => ⟨trivial, h⟩
  rcases found (X := BitVec.allOnes 64) (n := needN s a) with f | ⟨p, f1, f2, f3⟩
  · rcases ho'.2.2 with rfl | rfl | rfl | rfl <;>
    simp (config := { decide := true }) only [ho, hq, h0a, d1, d2, d3, d4, f, wd_uw, beqT, beqF, Bool.not_true, Bool.not_false, true_implies, Bool.true_eq_false, Bool.false_eq_true, false_implies, and_true, true_and, aP_d0_ok, ne_eq, not_false_eq_true]
  · have := one p f3
    rcases ho'.2.2 with rfl | rfl | rfl | rfl <;>
    · simp (config := { decide := true }) only [ho, hq, h0a, d1, d2, d3, d4, f1, f2, wd_uw, beqT, beqF, Bool.not_true, Bool.not_false, true_implies, Bool.true_eq_false, Bool.false_eq_true, false_implies, and_true, true_and, aP_d0_ok, ne_eq, not_false_eq_true]
      exact this
include ha in
theorem aS_ok : Good Tryd.prog (isB true) 1 (aS_F off num ds ty (uw (BitVec.allOnes 64)) []) (aS_M off num ds ty (uw (BitVec.allOnes 64)) []) := by
  refine past_vc EA_ok 1000 (qS_vc off num ds ty (uw (BitVec.allOnes 64)) [] (fun s' a' x' e' => 0 < num ∧ objB s' a' = true ∧ x' = uw (BitVec.allOnes 64) ∧ e' = [])) ?_ (fun _ _ h => h)
    (fun fs m hb => qS_go (fun s' a' x' e' ⟨e1, e2, e3, e4⟩ => by rw [e3, e4]; exact aT_ok hn (fun n' L' cs' x' es' hb => aA_ok hn ha (num + 1) _ _ _ _ _ _ (by omega) (by omega) (by omega) hb) e1 e2) hb)
  by_cases hi : 0 < num
  · obtain ⟨a1, a2, a3, a4⟩ := ha 0 hi
    have d : decide ((0 : Int) < (num : Int)) = true := decide_eq_true (by omega)
    simp only [Nat.zero_mul, Nat.add_zero] at a1 a2 a3 a4
    obtain ⟨b1, b2⟩ := al_of a4
    simp only [d, sz_of a2, hi, true_implies, Bool.true_eq_false, Bool.false_eq_true, false_implies, and_true, true_and, aB_d0_ok, aT_d0_ok]
    exact ⟨by omega, a1, by omega, a3, b1, objB_iff.2 ⟨by omega, by omega, b2⟩⟩
  · have d : decide ((0 : Int) < (num : Int)) = false := decide_eq_false (by omega)
    simp only [d, true_implies, Bool.true_eq_false, Bool.false_eq_true, false_implies, and_true, true_and]
end
theorem apart_good {off num : Nat} {ds : Array Value} {ty : TypeId} (ha : ObjsOk ds off num) : Good Tryd.prog (isB true) 1 [callFr 4 Tryd.f4.ntmps [acS off num] (Tryd.f4.body.getD .skip)] (mkM 1 [(0, ⟨.raw ds, ty, false⟩)]) := by
  refine run_vc EA_ok 4000 (q0_vc off num ds ty (fun x es => num ≤ 40 ∧ x = uw (BitVec.allOnes 64) ∧ es = [])) ?_ (fun _ _ h => h) (fun fs m hb => q0_go (fun x es ⟨e1, e2, e3⟩ => by rw [e2, e3]; exact aS_ok e1 ha) hb)
  by_cases h1 : (num : Int) > 40
  · have d : decide ((num : Int) > 40) = true := decide_eq_true h1
    simp only [d, true_implies, Bool.true_eq_false, Bool.false_eq_true, false_implies, and_true, true_and]
  · have d : decide ((num : Int) > 40) = false := decide_eq_false h1
    have ex : (18446744073709551615 : Int) = uw (BitVec.allOnes 64) := rfl
    simp only [d, ex, List.map_nil, true_implies, Bool.true_eq_false, Bool.false_eq_true, false_implies, and_true, true_and, aA_d0_ok, aS_d0_ok]
    omega
theorem apart_none (ty : TypeId) : Good Tryd.prog (isB true) 1 [callFr 4 Tryd.f4.ntmps [.s (.c (.f .e0))] (Tryd.f4.body.getD .skip)] (mkM 1 []) := by
  refine run_vc EZ2_ok 4000 (qZ_vc ty) ?_ (fun _ _ h => h) (fun fs m hb => hb.elim)
  first | trivial | rfl
end Go.Proofs.YtccbfkeigfnibaaDoor
