/- Of forests: ForestPlays: rows, names, and whether a table is the document's: contracts. No condition. -/
import Derived.Test.YtklhlkdpidkijaaDoorMD
import Derived.Test.YtklhlkdpidkijaaDoorE1
import Derived.Test.YtklhlkdpidkijaaDoorK15
import Derived.Test.YtklhlkdpidkijaaDoorF1
import Derived.Test.YtklhlkdpidkijaaDoorMC
set_option linter.unusedVariables false
set_option linter.unusedSimpArgs false
namespace Go.Proofs.YtklhlkdpidkijaaDoor
set_option maxRecDepth 100000
set_option linter.unusedSimpArgs false
set_option linter.unusedVariables false
theorem ERw_ok : EnvOk ERw := EnvOk.with E0_ok _ _ conI0_ok
theorem ERz_ok : EnvOk ERz := EnvOk.with E0_ok _ _ conI0_ok
theorem ENm_ok : EnvOk ENm := EnvOk.with E0_ok _ _ conI0_ok
theorem conS1_ok (ts : Array Value) : ∀ g l m t, conS1 ts g l m = some t → Con E0 g l m t := by
 intro g l m t h
 unfold conS1 at h
 split at h
 ·rename_i us; cases h
  exact all_con m
 ·exact conJ5_ok ts _ _ _ _ h
theorem ESm_ok (ts : Array Value) : EnvOk (ESm ts) := EnvOk.with E0_ok _ _ (conS1_ok ts)
theorem ESz_ok (ts : Array Value) : EnvOk (ESz ts) := EnvOk.with E0_ok _ _ (conS1_ok ts)
def rEq (a b : Array Value) (n k : Nat) : Prop := ∃ l : List Int, a = u32s l ∧ b = i64s l ∧ n = l.length ∧ k = l.length ∧ l.length ≤ 32 ∧ ∀ x ∈ l, inH x
theorem wr64 {x : Int} (h : inH x) : IntKind.i64.wrap x = x := by
 have h0 : 0 ≤ x := h.1
 have h1 : x < 4294967296 := h.2
 exact i64_in' (by omega) (by omega)
theorem wrL_ok {l : List Int} (hl : l.length ≤ 32) (hi : ∀ x ∈ l, inH x) : ∀ (r i : Nat), i + r = l.length → Good Tryd.prog (isB true) 2 (wrL_F l.length (u32s l) (i64s l) (i : Int)) (wrL_M l.length (u32s l) (i64s l) (i : Int)) := by
 intro r
 induction r with
 | zero =>
  intro i hi
  obtain rfl : i = l.length := by omega
  refine past_vc ERw_ok 1000 (wr1 _ _ _ _ (fun _ => False)) ?_ (fun _ _ h => h) (fun fs m hb => wrL_good (fun _ h => h.elim) hb)
  have d : decide ((l.length : Int) < (l.length : Int)) = false := decide_eq_false (by omega)
  simp only [d, q6]
 | succ r ih =>
  intro i hi2
  have hi' : i < l.length := by omega
  refine past_vc ERw_ok 1000 (wr1 _ _ _ (i : Int) (fun i' => i' = ((i + 1 : Nat) : Int))) ?_ (fun _ _ h => h) (fun fs m hb => wrL_good (fun i' e1 => by rw [e1]; exact ih (i + 1) (by omega)) hb)
  have d : decide ((i : Int) < (l.length : Int)) = true := decide_eq_true (by omega)
  have ei : ari .add .i64 (i : Int) 1 = ((i + 1 : Nat) : Int) := by rw [ari_add, i64_in' (by omega) (by omega)]; omega
  have g1 : IsInt .u32 (u32s l) i := isI_of (u32s_at hi')
  have g2 : intAt (u32s l) i = l.getD i 0 := intAt_of (u32s_at hi')
  have g3 : IsInt .i64 (i64s l) i := isI_of (i64s_at hi')
  have g4 : intAt (i64s l) i = l.getD i 0 := intAt_of (i64s_at hi')
  have y0 : 0 ≤ (i : Int) := by omega
  have y1 : (i : Int) < (l.length : Int) := by omega
  have ew : IntKind.i64.wrap (l.getD i 0) = l.getD i 0 := wr64 (hi _ (by rw [List.getD_eq_getElem?_getD, List.getElem?_eq_getElem hi']; exact List.getElem_mem _))
  simp only [Int.toNat_natCast, Nat.mul_one, Nat.zero_add, d, ei, g1, g2, g3, g4, y0, y1, ew, bne_self_eq_false, decide_true, wrL_d0_ok, q6]
theorem fnRo : E0.fn 9 = some Tryd.f9 := by kernel_rfl
theorem bodyRo : Tryd.f9.body = some (Tryd.f9.body.getD .skip) := by kernel_rfl
theorem rowZ_con (m : SMem) : Con E0 9 [nlS, nlS] m (needs [] (.ret (sB (.l true)) m)) := by
 refine Con.readV (ms := e0M) (l' := [nlS, nlS]) E0_ok fnRo bodyRo rfl (fun _ => 0) (fun q b hb => by cases hb) (fun R vs hv => ok_anys (by kernel_rfl) hv) (A := isB true) (fun hq => ?_) (fun s m' R R' v hs hv => isB_ok hs hv)
 exact run_vc ERz_ok 1000 (wrZ 0) (by simp) (fun s m h => h) fun fs m h => h.elim
theorem row_con {m : SMem} {i j : Nat} {n k : SN} {c1 c2 : SK} {a b : Array Value} {w1 w2 : Bool} (hb1 : getB m.bl i = some ⟨.pop a, 30, w1⟩) (hb2 : getB m.bl j = some ⟨.pop b, 3, w2⟩) : Con E0 9 [.s (.c (.f (.slice i (.l 0) n c1))), .s (.c (.f (.slice j (.l 0) k c2)))] m (.need [rEq a b n.den k.den] (.ret (sB (.l true)) m)) := by
 refine Con.asked fun hq => ?_
 obtain ⟨l, rfl, rfl, e1, e2, e3, e4⟩ : rEq a b n.den k.den := hq _ (by simp)
 have hm : ∀ q b, getB (rwM (u32s l) (i64s l)).bl q = some b → q < (rwM (u32s l) (i64s l)).next ∧ b.wr = false ∧ ∃ d, getB m.bl ((fun q => if q = 0 then i else j) q) = some d ∧ b.ty = d.ty ∧ ∀ R cs, d.arr.okM R cs → b.arr.okM (pull (fun q => if q = 0 then i else j) (rwM (u32s l) (i64s l)).next R) cs := by
  intro q b hb
  have hb : getB (((Tr.nil : Tr SBlk).set 0 (some ⟨.pop (u32s l), 30, false⟩)).set 1 (some ⟨.pop (i64s l), 3, false⟩)) q = some b := hb
  rw [getB_set] at hb
  split at hb
  ·rename_i e; cases hb; subst e; exact ⟨(show 1 < 2 by decide), rfl, _, hb2, rfl, fun R cs h => h⟩
  ·rw [getB_set] at hb
   split at hb
   ·rename_i e; cases hb; subst e; exact ⟨(show 0 < 2 by decide), rfl, _, hb1, rfl, fun R cs h => h⟩
   ·have hb : (Tr.nil : Tr SBlk).get q = some b := hb
    rw [Tr.get_nil] at hb
    cases hb
 have hl : ∀ R vs, All2 (SV.ok R) [.s (.c (.f (.slice i (.l 0) n c1))), .s (.c (.f (.slice j (.l 0) k c2)))] vs → All2 (SV.ok (pull (fun q => if q = 0 then i else j) (rwM (u32s l) (i64s l)).next R)) [anS 0 l.length, anS 1 l.length] vs := by
  intro R vs ha
  match vs, ha with
  | [u, v], ha =>
   obtain ⟨⟨g, cp, k1, k2, k3, k4⟩, ⟨g', cp', k1', k2', k3', k4'⟩, _⟩ := ha
   exact ⟨⟨g, cp, by unfold pull; exact k1, by rw [k2, e1], trivial, by rw [e1] at k4; exact k4⟩, ⟨g', cp', by unfold pull; exact k1', by rw [k2', e2], trivial, by rw [e2] at k4'; exact k4'⟩, trivial⟩
 refine (show Con E0 9 _ m (needs [] _) from Con.readV E0_ok fnRo bodyRo rfl (fun q => if q = 0 then i else j) hm hl (A := isB true) (fun _ => ?_) (fun s m' R R' v hs hv => isB_ok hs hv))
 refine run_vc ERw_ok 1000 (wr0 l.length (u32s l) (i64s l) (fun i => i = ((0 : Nat) : Int))) ?_ (fun s m h => h) fun fs m hb => wrL_good (fun i e => by rw [e]; exact wrL_ok e3 e4 _ 0 (Nat.zero_add _)) hb
 simp only [bne_self_eq_false, wrL_d0_ok, q6]
 rfl
section
variable {ts ws : Array Value}
theorem nm_con (n : Int) (m : SMem) : Con E0 8 [wtS ws, .s (.c (.f (.int .u32 (.o n))))] m (needs [SW ts ws, TbOk ts, inH n] (.ret (i64 (.o (nmA ts n))) m)) := by
 refine Con.pure E0_ok (by kernel_rfl : E0.fn 8 = some Tryd.f8) (by kernel_rfl : Tryd.f8.body = some (Tryd.f8.body.getD .skip)) (by kernel_rfl) (by kernel_rfl) fun hq => ?_
 have w : SW ts ws := hq _ (by simp)
 have hb : TbOk ts := hq _ (by simp)
 have hn : inH n := hq _ (by simp)
 have hz := w.sz
 have h64 : (64 : Nat) ≤ 448 := by decide
 have wb := w.wb hb
 have ew := wr64 hn
 refine (Good.ret [] (run_vc ENm_ok 1000 (nm0 ws n (nmA ts n)) ?_ (fun s m h => h) fun _ _ h => h.elim)).mono fun _ _ h => h.1
 by_cases c1 : 1 ≤ n
 ·have d1 : decide (n ≥ 1) = true := decide_eq_true c1
  by_cases c2 : n ≤ 32
  ·have d2 : decide (n ≤ 32) = true := decide_eq_true c2
   obtain ⟨i, rfl⟩ : ∃ i : Nat, n = (i : Int) + 1 := ⟨(n - 1).toNat, by omega⟩
   have hi : i < 32 := by omega
   have es : ari .sub .u32 ((i : Int) + 1) 1 = (i : Int) := by rw [ari_sub, show (i : Int) + 1 - 1 = (i : Int) by omega]; exact u32_in (by omega) (by omega)
   have e64 : IntKind.i64.wrap (i : Int) = (i : Int) := i64_in' (by omega) (by omega)
   have y0 : 0 ≤ (i : Int) := by omega
   have y1 : (i : Int) < 32 := by omega
   have k1 : ws[32 + i]? = some (.int .i64 (kindAt (bkB ts) i)) := w.s i hi
   have g := w.gn hi
   have en : nmA ts ((i : Int) + 1) = if kindAt (bkB ts) i = 1 then nmF ts i else (i : Int) + 1 := by
    unfold nmA
    rw [show (i : Int) + 1 - 1 = (i : Int) by omega, Int.toNat_natCast]
    by_cases k : kindAt (bkB ts) i = 1
    ·rw [if_pos k, if_pos ⟨c1, c2, k⟩]
    ·rw [if_neg k, if_neg (fun q => k q.2.2)]
   rw [en]
   cases k : (kindAt (bkB ts) i == 1) with
   | true =>
    rw [if_pos (beq_iff_eq.1 k)]
    simp only [d1, d2, es, e64, y0, y1, isI_of k1, intAt_of k1, k, g, hz, h64, wb, beqT, beqF, Nat.mul_one, Int.toNat_natCast, q6]
    rfl
   | false =>
    rw [if_neg (beq_eq_false_iff_ne.1 k)]
    simp only [d1, d2, es, ew, y0, y1, isI_of k1, intAt_of k1, k, beqT, beqF, Nat.mul_one, Int.toNat_natCast, q6]
  ·have d2 : decide (n ≤ 32) = false := decide_eq_false c2
   have en : nmA ts n = n := if_neg (fun q => c2 q.2.1)
   simp only [d1, d2, en, ew, beqT, beqF, q6]
 ·have d1 : decide (n ≥ 1) = false := decide_eq_false c1
  have en : nmA ts n = n := if_neg (fun q => c1 q.1)
  simp only [d1, en, ew, beqT, beqF, q6]
theorem nm_in (hb : TbOk ts) {n : Int} (hn : inH n) : inH (nmA ts n) := by
 unfold nmA
 split
 ·rename_i c
  have g : gdF ts (nmF ts (n - 1).toNat) = true := (goodB_iff hb.bk).2 ⟨(n - 1).toNat, by omega, c.2.2, rfl⟩
  exact (good_f hb g).2.2.2.2.2.1
 ·exact hn
theorem smX_good {n : Nat} {a b : Array Value} {A : SV → SMem → Prop} {QO : Int → Prop} {QI : Int → Int → Array Value → Array Value → Prop} {fs : List SFr} {m : SMem} (hO : ∀ i, QO i → Good Tryd.prog A 0 (smO_F ts ws n a b i) (smO_M ts ws n a b i)) (hI : ∀ i k rr vv, QI i k rr vv → Good Tryd.prog A 0 (smI_F ts ws n a b i k rr vv) (smI_M ts ws n a b i k rr vv)) (hb : smX ts ws n a b QO QI fs m) : Good Tryd.prog A 0 fs m := by
 unfold smX at hb
 split at hb
 ·exact smO_good hO hb
 ·exact smI_good hI hb
theorem rw_ce (hb : TbOk ts) {x : Int} (hg : gdF ts x = true) : (∀ k, k < 8 → (getA ts x)[4 + k]? = some (.int .u32 (ceF ts x k)) ∧ (gwT ts x)[4 + k]? = some (.int .i64 (ceF ts x k)) ∧ inH (ceF ts x k)) ∧ getA ts x = rgA (upF ts x) (quF ts x) 0 (ceF ts x) ∧ gwT ts x = rwA (upF ts x) (quF ts x) (ceF ts x) := by
 have e1 : getA ts x = rgA (upF ts x) (quF ts x) 0 (ceF ts x) := if_pos hg
 have e2 : gwT ts x = rwA (upF ts x) (quF ts x) (ceF ts x) := if_pos hg
 refine ⟨fun k hk => ?_, e1, e2⟩
 rw [e1, e2]
 refine ⟨?_, ?_, (rg_in hb hg).2.2 k hk⟩
 ·match k, hk with
  | 0, _ | 1, _ | 2, _ | 3, _ | 4, _ | 5, _ | 6, _ | 7, _ => rfl
 ·match k, hk with
  | 0, _ | 1, _ | 2, _ | 3, _ | 4, _ | 5, _ | 6, _ | 7, _ => rfl
theorem smI_ok (hb : TbOk ts) {i : Nat} (hi : i < 1000) {n : Nat} {a b : Array Value} {x : Int} (hg : gdF ts x = true) (hO : Good Tryd.prog (isB true) 0 (smO_F ts ws n a b ((i + 1 : Nat) : Int)) (smO_M ts ws n a b ((i + 1 : Nat) : Int))) : ∀ (r k : Nat), k + r = 8 → Good Tryd.prog (isB true) 0 (smI_F ts ws n a b (i : Int) (k : Int) (getA ts x) (gwT ts x)) (smI_M ts ws n a b (i : Int) (k : Int) (getA ts x) (gwT ts x)) := by
 intro r
 induction r with
 | zero =>
  intro k hk
  obtain rfl : k = 8 := by omega
  refine past_vc (ESm_ok ts) 1000 (sm2 ts ws n a b (i : Int) _ _ _ (fun i' => i' = ((i + 1 : Nat) : Int)) (fun _ _ _ _ => False)) ?_ (fun _ _ h => h) (fun fs m hb => smX_good (fun i' e => by rw [e]; exact hO) (fun _ _ _ _ h => h.elim) hb)
  have d : decide (((8 : Nat) : Int) < 8) = false := rfl
  have ei : ari .add .i64 (i : Int) 1 = ((i + 1 : Nat) : Int) := by rw [ari_add, i64_in' (by omega) (by omega)]; omega
  simp only [d, ei, smO_d0_ok, q6]
 | succ r ih =>
  intro k hk
  have hk' : k < 8 := by omega
  obtain ⟨c1, c2, c3⟩ := (rw_ce hb hg).1 k hk'
  refine past_vc (ESm_ok ts) 1000 (sm2 ts ws n a b (i : Int) (k : Int) _ _ (fun _ => False) (fun i' k' rr vv => i' = (i : Int) ∧ k' = ((k + 1 : Nat) : Int) ∧ rr = getA ts x ∧ vv = gwT ts x)) ?_ (fun _ _ h => h) (fun fs m hb => smX_good (fun _ h => h.elim) (fun i' k' rr vv ⟨e1, e2, e3, e4⟩ => by rw [e1, e2, e3, e4]; exact ih (k + 1) (by omega)) hb)
  have d : decide ((k : Int) < 8) = true := decide_eq_true (by omega)
  have ei : ari .add .i64 (k : Int) 1 = ((k + 1 : Nat) : Int) := by rw [ari_add, i64_in' (by omega) (by omega)]; omega
  have y0 : 0 ≤ (k : Int) := by omega
  have y1 : (k : Int) < 8 := by omega
  simp only [Int.toNat_natCast, Nat.mul_one, d, ei, y0, y1, isI_of c1, intAt_of c1, isI_of c2, intAt_of c2, wr64 c3, bne_self_eq_false, decide_true, smI_d0_ok, q6]
theorem smO_ok (w : SW ts ws) (hb : TbOk ts) : ∀ (r i : Nat), i + r = (lvT ts).length → Good Tryd.prog (isB true) 0 (smO_F ts ws (lvT ts).length (u32s (lvT ts)) (i64s (lvT ts)) (i : Int)) (smO_M ts ws (lvT ts).length (u32s (lvT ts)) (i64s (lvT ts)) (i : Int)) := by
 have hs := hb.sz
 have hz := w.sz
 have h64 : (64 : Nat) ≤ 448 := by decide
 have hbk : BkOk (bkB ts) := hb.bk
 have hlen := lv_len ts
 intro r
 induction r with
 | zero =>
  intro i hi
  obtain rfl : i = (lvT ts).length := by omega
  refine past_vc (ESm_ok ts) 1000 (sm1 ts ws _ _ _ _ (fun _ _ _ _ => False)) ?_ (fun _ _ h => h) (fun fs m hb => smI_good (fun _ _ _ _ h => h.elim) hb)
  have d : decide (((lvT ts).length : Int) < ((lvT ts).length : Int)) = false := decide_eq_false (by omega)
  simp only [d, q6]
 | succ r ih =>
  intro i hi
  have hi' : i < (lvT ts).length := by omega
  have hx := lv_at hb hi'
  have hg := (lv_mem hb).1 hx
  have hg' : goodB (bkB ts) ((lvT ts).getD i 0) = true := hg
  have hxi := lv_in hb (.inr hx)
  have hxi' : 0 ≤ (lvT ts).getD i 0 ∧ (lvT ts).getD i 0 < 4294967296 := hxi
  obtain ⟨_, e1, e2⟩ := rw_ce hb hg
  refine past_vc (ESm_ok ts) 1000 (sm1 ts ws _ _ _ (i : Int) (fun i' k' rr vv => i' = (i : Int) ∧ k' = ((0 : Nat) : Int) ∧ rr = getA ts ((lvT ts).getD i 0) ∧ vv = gwT ts ((lvT ts).getD i 0))) ?_ (fun _ _ h => h) (fun fs m hb' => smI_good (fun i' k' rr vv ⟨a1, a2, a3, a4⟩ => by rw [a1, a2, a3, a4]; exact smI_ok hb (by omega) hg (ih (i + 1) (by omega)) 8 0 rfl) hb')
  have d : decide ((i : Int) < ((lvT ts).length : Int)) = true := decide_eq_true (by omega)
  have g1 : IsInt .u32 (u32s (lvT ts)) i := isI_of (u32s_at hi')
  have g2 : intAt (u32s (lvT ts)) i = (lvT ts).getD i 0 := intAt_of (u32s_at hi')
  have g3 : IsInt .i64 (i64s (lvT ts)) i := isI_of (i64s_at hi')
  have g4 : intAt (i64s (lvT ts)) i = (lvT ts).getD i 0 := intAt_of (i64s_at hi')
  have y0 : 0 ≤ (i : Int) := by omega
  have y1 : (i : Int) < ((lvT ts).length : Int) := by omega
  have x5 : getX5 ts ((lvT ts).getD i 0) = 0 := if_pos hg
  have z1 : (getA ts ((lvT ts).getD i 0)).size = 12 := by rw [e1]; rfl
  have z2 : (gwT ts ((lvT ts).getD i 0)).size = 12 := by rw [e2]; rfl
  have a0 : (getA ts ((lvT ts).getD i 0))[0]? = some (.int .u32 (upF ts ((lvT ts).getD i 0))) := by rw [e1]; rfl
  have a1 : (getA ts ((lvT ts).getD i 0))[1]? = some (.int .i64 (quF ts ((lvT ts).getD i 0))) := by rw [e1]; rfl
  have a2 : (getA ts ((lvT ts).getD i 0))[2]? = some (.slice none 0 0) := by rw [e1]; rfl
  have a3 : (getA ts ((lvT ts).getD i 0))[3]? = some (.int .i64 0) := by rw [e1]; rfl
  have b0 : (gwT ts ((lvT ts).getD i 0))[0]? = some (.int .i64 (upF ts ((lvT ts).getD i 0))) := by rw [e2]; rfl
  have b1 : (gwT ts ((lvT ts).getD i 0))[1]? = some (.int .i64 (quF ts ((lvT ts).getD i 0))) := by rw [e2]; rfl
  have b2 : (gwT ts ((lvT ts).getD i 0))[2]? = some (.slice none 0 0) := by rw [e2]; rfl
  have b3 : (gwT ts ((lvT ts).getD i 0))[3]? = some (.int .i64 0) := by rw [e2]; rfl
  have hup : inH (upF ts ((lvT ts).getD i 0)) := by
   unfold upF
   rw [if_pos hg]
   split
   ·exact (rg_in hb hg).1
   ·exact ⟨by decide, by decide⟩
  simp only [Int.toNat_natCast, Nat.mul_one, Nat.zero_add, bk_f, hg', d, g1, g2, g3, g4, y0, y1, x5, z1, z2, isI_of a0, isI_of a1, a2, isI_of a3, intAt_of a0, intAt_of a1, intAt_of a3, isI_of b0, isI_of b1, b2, isI_of b3, intAt_of b0, intAt_of b1, intAt_of b3, wr64 hup, wr64 hxi, hxi', hs, hz, h64, hbk, hb, w, bne_self_eq_false, beqT, beqF, Bool.not_true, Bool.not_false, decide_true, smI_d0_ok, q6]
  rfl
theorem same_con (m : SMem) : Con E0 7 [tbS ts, wtS ws] m (needs [SW ts ws, TbOk ts] (.ret (sB (.l true)) m)) := by
 refine Con.readV (ms := e0M) (l' := [tbS ts, wtS ws]) E0_ok (by kernel_rfl : E0.fn 7 = some Tryd.f7) (by kernel_rfl : Tryd.f7.body = some (Tryd.f7.body.getD .skip)) rfl (fun _ => 0) (fun q b hb => by cases hb) (fun R vs hv => ok_anys (by kernel_rfl) hv) (A := isB true) (fun hq => ?_) (fun s m' R R' v hs hv => isB_ok hs hv)
 have w : SW ts ws := hq _ (by simp)
 have hb : TbOk ts := hq _ (by simp)
 have hs := hb.sz
 have hz := w.sz
 cases d : decide ((lvT ts).length = 0) with
 | true =>
  refine run_vc (ESz_ok ts) 1000 (smZ ts ws) ?_ (fun s m h => h) fun fs m h => h.elim
  simp only [d, hs, hz, w, hb, q6]
 | false =>
  refine run_vc (ESm_ok ts) 1000 (sm0 ts ws (lvT ts).length (u32s (lvT ts)) (i64s (lvT ts)) (fun i => i = ((0 : Nat) : Int))) ?_ (fun s m h => h) fun fs m hm => smO_good (fun i e => by rw [e]; exact smO_ok w hb _ 0 (Nat.zero_add _)) hm
  simp only [d, hs, hz, w, hb, bne_self_eq_false, smO_d0_ok, q6]
  rfl
end
noncomputable def lsW (a0 a1 a3 c0 c1 c2 c3 c4 c5 c6 c7 : Int) : Array Value := #[.int .i64 a0, .int .i64 a1, .slice none 0 0, .int .i64 a3, .int .i64 c0, .int .i64 c1, .int .i64 c2, .int .i64 c3, .int .i64 c4, .int .i64 c5, .int .i64 c6, .int .i64 c7]
noncomputable def cP (ts : Array Value) (x b z : Int) : Array Value := Array.setIfInBounds (getA ts (IntKind.wrap IntKind.u32 x)) ((4 : Nat) + Int.toNat (ari BinOp.rem IntKind.u32 b (8 : Int)) * (1 : Nat)) (Value.int IntKind.u32 (IntKind.wrap IntKind.u32 z))
noncomputable def cR (ts : Array Value) (x b z : Int) : Array Value := Array.setIfInBounds (gwT ts x) ((4 : Nat) + Int.toNat (ari BinOp.rem IntKind.u32 b (8 : Int)) * (1 : Nat)) (Value.int IntKind.i64 z)
noncomputable def lP (rr : Array Value) : Array Value := lsA (intAt rr 0) (intAt rr 1) (intAt rr 3) (intAt rr 4) (intAt rr 5) (intAt rr 6) (intAt rr 7) (intAt rr 8) (intAt rr 9) (intAt rr 10) (intAt rr 11)
noncomputable def lR (rr : Array Value) : Array Value := lsW (intAt rr 0) (intAt rr 1) (intAt rr 3) (intAt rr 4) (intAt rr 5) (intAt rr 6) (intAt rr 7) (intAt rr 8) (intAt rr 9) (intAt rr 10) (intAt rr 11)
def okP (rr : Array Value) : Prop := IsInt IntKind.u32 rr 0 ∧ IsInt IntKind.i64 rr 1 ∧ rr[(2 : Nat)]? = some (Value.slice none (0 : Nat) (0 : Nat)) ∧ IsInt IntKind.i64 rr 3 ∧ IsInt IntKind.u32 rr 4 ∧ IsInt IntKind.u32 rr 5 ∧ IsInt IntKind.u32 rr 6 ∧ IsInt IntKind.u32 rr 7 ∧ IsInt IntKind.u32 rr 8 ∧ IsInt IntKind.u32 rr 9 ∧ IsInt IntKind.u32 rr 10 ∧ IsInt IntKind.u32 rr 11 ∧ True
def okR (rr : Array Value) : Prop := IsInt IntKind.i64 rr 0 ∧ IsInt IntKind.i64 rr 1 ∧ rr[(2 : Nat)]? = some (Value.slice none (0 : Nat) (0 : Nat)) ∧ IsInt IntKind.i64 rr 3 ∧ IsInt IntKind.i64 rr 4 ∧ IsInt IntKind.i64 rr 5 ∧ IsInt IntKind.i64 rr 6 ∧ IsInt IntKind.i64 rr 7 ∧ IsInt IntKind.i64 rr 8 ∧ IsInt IntKind.i64 rr 9 ∧ IsInt IntKind.i64 rr 10 ∧ IsInt IntKind.i64 rr 11 ∧ True
noncomputable def u32v (n : Int) : SV := .s (.c (.f (.int .u32 (.o n))))
noncomputable def acV (d a b c q : Int) : SV := .s (.agg (.ls [.f (.int .u8 (.o d)), .f (.int .u32 (.o a)), .f (.int .u32 (.o b)), .f (.int .u32 (.o c)), .f (.int .i64 (.o q))]))
noncomputable def doS (oP oW : Array Value) : SV := .tup [.agg (.op oP), .agg (.op oW), .c (.f (.bool (.l true)))]
noncomputable def conDo (ts : Array Value) (g : FuncId) (l : List SV) (m : SMem) : Option Tree := match g, l with
 | 5, [] => some (.ret (sB (.l true)) m)
 | 8, [.s (.agg (.op ws)), .s (.c (.f (.int .u32 n)))] => some (.need [SW ts ws, TbOk ts, inH n.den] (.ret (i64 (.o (nmA ts n.den))) m))
 | 9, [.s (.c (.f (.slice i (.l 0) n c1))), .s (.c (.f (.slice j (.l 0) k c2)))] => (match getB m.bl i, getB m.bl j with | some ⟨.pop a, 30, _⟩, some ⟨.pop b, 3, _⟩ => some (.need [rEq a b n.den k.den] (.ret (sB (.l true)) m)) | _, _ => none)
 | 9, [.s (.c (.f (.lit (.slice none 0 0)))), .s (.c (.f (.lit (.slice none 0 0))))] => some (.ret (sB (.l true)) m)
 | 29, [.s (.agg (.op ws)), .s (.c (.f (.int .i64 h)))] => some (.need [SW ts ws, FIn ts] (fwC ts ws h.den m))
 | 30, [.s (.agg (.op ws)), .s (.c (.f (.int .i64 h)))] => some (.need [SW ts ws, FIn ts] (.ret (weS (cuW ts ws h.den) (cutE ts h.den)) m))
 | 31, [.s (.agg (.op ws)), .s (.c (.f (.int .i64 h))), .s (.c (.f (.int .i64 u)))] => some (.need [SW ts ws, FV ts] (.ret (weS (grW ts ws h.den u.den) (grE ts h.den u.den)) m))
 | 34, [.s (.agg (.op ws)), .s (.c (.f (.int .i64 u))), .s (.c (.f (.int .i64 q)))] => some (.need [SW ts ws, FV ts, inH u.den] (.ret (.tup [.agg (.op (fnW ts ws u.den q.den)), .c (.f (.int .i64 (.o (fnI ts u.den q.den)))), .c (.f (.int .i64 (.o (fnE ts u.den q.den))))]) m))
 | 33, [.s (.agg (.op ws)), .s (.c (.f (.int .i64 h))), .s (.agg (.ls [.f (.int .i64 a0), .f (.int .i64 a1), .f (.lit (.slice none 0 0)), .f (.int .i64 a3), .f (.int .i64 c0), .f (.int .i64 c1), .f (.int .i64 c2), .f (.int .i64 c3), .f (.int .i64 c4), .f (.int .i64 c5), .f (.int .i64 c6), .f (.int .i64 c7)]))] => some (.need [SW ts ws, TbOk ts, RwOk (lsW a0.den a1.den a3.den c0.den c1.den c2.den c3.den c4.den c5.den c6.den c7.den)] (.ret (weS (seW ts ws h.den (lsW a0.den a1.den a3.den c0.den c1.den c2.den c3.den c4.den c5.den c6.den c7.den)) (getX5 ts h.den)) m))
 | 20, [.s (.agg (.op ts)), .s (.c (.f (.int .u32 h)))] => some (.need [FIn ts, inH h.den] (fellC ts h.den m))
 | 27, [.s (.agg (.op ts)), .s (.c (.f (.int .u32 u))), .s (.c (.f (.int .i64 q)))] => some (.need [FIn ts, inH u.den] (.ret (fnS (fnT ts u.den q.den) (fnI ts u.den q.den) (fnE ts u.den q.den)) m))
 | g, l => conJ5 ts g l m
noncomputable def EDo (ts : Array Value) : Env := ⟨Tryd.prog, fnOf, conDo ts, haltAt []⟩
noncomputable def do0_0 (ts : Array Value) (a : Int) : Prop := 0 ≤ IntKind.wrap .u32 (nmA ts a) ∧ IntKind.wrap .u32 (nmA ts a) < 4294967296
noncomputable def do0_1 (ws : Array Value) : Prop := Array.size ws = 448 ∧ Array.size ws = 448 ∧ True
noncomputable def do0_2 (ts : Array Value) (a : Int) : Prop := Array.size (fellT ts (IntKind.wrap .u32 (nmA ts a))) = 448 ∧ Array.size (fellT ts (IntKind.wrap .u32 (nmA ts a))) = 448 ∧ True
noncomputable def do0_3 (ts : Array Value) (ws : Array Value) (a : Int) : Prop := Array.size (fwN ws (unT ts (nmA ts a))) = 448 ∧ Array.size (fwN ws (unT ts (nmA ts a))) = 448 ∧ True
noncomputable def do0_4 (ts : Array Value) : Prop := Array.size ts = 448 ∧ Array.size ts = 448 ∧ True
noncomputable def do0_5 (ts : Array Value) (a : Int) (q : Int) : Prop := Array.size (fnT ts (IntKind.wrap .u32 (nmA ts a)) q) = 448 ∧ Array.size (fnT ts (IntKind.wrap .u32 (nmA ts a)) q) = 448 ∧ True
noncomputable def do0_6 (ts : Array Value) (a : Int) : Prop := Array.size (fellT ts (IntKind.wrap .u32 (nmA ts a))) = 448 ∧ True
theorem do0 (ts ws : Array Value) (d a b c q : Int) (oP oW : Array Value) : (run (EDo ts) 1000 0 [callFr 6 Tryd.f6.ntmps [tbS ts, wtS ws, acV d a b c q] (Tryd.f6.body.getD .skip)] e0M).vc (retOk 0 [] (doS oP oW) e0M) (fun _ _ => False) =
  ((Array.size ws = 448 ∧ True) ∧ (SW ts ws ∧ TbOk ts ∧ (0 ≤ a ∧ a < 4294967296) ∧ True) ∧ (Array.size ws = 448 ∧ True) ∧ (SW ts ws ∧ TbOk ts ∧ (0 ≤ b ∧ b < 4294967296) ∧ True) ∧ (Array.size ws = 448 ∧ True) ∧ (SW ts ws ∧ TbOk ts ∧ (0 ≤ c ∧ c < 4294967296) ∧ True) ∧ ((d == 0) = true → (Array.size ts = 448 ∧ True) ∧ (FIn ts ∧ (do0_0 ts a) ∧ True) ∧ (decide (List.length (unT ts (IntKind.wrap .u32 (nmA ts a))) = 0) = true → (do0_4 ts) ∧ (Array.size ws = 448 ∧ True) ∧ (SW ts ws ∧ FIn ts ∧ True) ∧ (decide (List.length (unT ts (nmA ts a)) = 0) = true → (do0_1 ws) ∧ (Array.size ts = 448 ∧ True) ∧ (Array.size ws = 448 ∧ True) ∧ (Array.size ts = 448 ∧ Array.size ts = Array.size ts ∧ True) ∧ (Array.size ws = 448 ∧ Array.size ws = Array.size ws ∧ True) ∧ (Array.size ts = 448 ∧ True) ∧ (Array.size ws = 448 ∧ True) ∧ (do0_4 ts) ∧ (do0_1 ws) ∧ (Array.size ts = 448 ∧ Array.size ws = 448 ∧ True) ∧ oP = ts ∧ oW = ws ∧ true = true ∧ True) ∧ (decide (List.length (unT ts (nmA ts a)) = 0) = false → (do0_3 ts ws a) ∧ (Array.size ts = 448 ∧ True) ∧ (Array.size (fwN ws (unT ts (nmA ts a))) = 448 ∧ True) ∧ (Array.size ts = 448 ∧ Array.size ts = Array.size ts ∧ True) ∧ (Array.size (fwN ws (unT ts (nmA ts a))) = 448 ∧ Array.size (fwN ws (unT ts (nmA ts a))) = Array.size ws ∧ True) ∧ (((0 : Int) != (↑(List.length (unT ts (nmA ts a))) : Int)) = true → (Array.size ts = 448 ∧ True) ∧ (Array.size (fwN ws (unT ts (nmA ts a))) = 448 ∧ True) ∧ (do0_4 ts) ∧ (do0_3 ts ws a) ∧ (Array.size ts = 448 ∧ Array.size (fwN ws (unT ts (nmA ts a))) = 448 ∧ True) ∧ False) ∧ (((0 : Int) != (↑(List.length (unT ts (nmA ts a))) : Int)) = false → (Array.size ts = 448 ∧ True) ∧ (Array.size (fwN ws (unT ts (nmA ts a))) = 448 ∧ True) ∧ (do0_4 ts) ∧ (do0_3 ts ws a) ∧ (Array.size ts = 448 ∧ Array.size (fwN ws (unT ts (nmA ts a))) = 448 ∧ True) ∧ oP = ts ∧ oW = fwN ws (unT ts (nmA ts a)) ∧ true = false ∧ True))) ∧ (decide (List.length (unT ts (IntKind.wrap .u32 (nmA ts a))) = 0) = false → (do0_2 ts a) ∧ (Array.size ws = 448 ∧ True) ∧ (SW ts ws ∧ FIn ts ∧ True) ∧ (decide (List.length (unT ts (nmA ts a)) = 0) = true → (do0_1 ws) ∧ (do0_6 ts a) ∧ (Array.size ws = 448 ∧ True) ∧ (Array.size (fellT ts (IntKind.wrap .u32 (nmA ts a))) = 448 ∧ Array.size (fellT ts (IntKind.wrap .u32 (nmA ts a))) = Array.size ts ∧ True) ∧ (Array.size ws = 448 ∧ Array.size ws = Array.size ws ∧ True) ∧ (((↑(List.length (unT ts (IntKind.wrap .u32 (nmA ts a)))) : Int) != 0) = true → (do0_6 ts a) ∧ (Array.size ws = 448 ∧ True) ∧ (do0_2 ts a) ∧ (do0_1 ws) ∧ (Array.size (fellT ts (IntKind.wrap .u32 (nmA ts a))) = 448 ∧ Array.size ws = 448 ∧ True) ∧ False) ∧ (((↑(List.length (unT ts (IntKind.wrap .u32 (nmA ts a)))) : Int) != 0) = false → (decide ((0 : Int) < (↑(List.length (unT ts (IntKind.wrap .u32 (nmA ts a)))) : Int)) = true → (((0 : Int) ≤ 0 ∧ (0 : Int) < (↑(List.length (unT ts (IntKind.wrap .u32 (nmA ts a)))) : Int)) ∧ True) ∧ (IsInt .u32 (u32s (unT ts (IntKind.wrap .u32 (nmA ts a)))) (0 + 0 * 1) ∧ True) ∧ False) ∧ (decide ((0 : Int) < (↑(List.length (unT ts (IntKind.wrap .u32 (nmA ts a)))) : Int)) = false → (do0_6 ts a) ∧ (Array.size ws = 448 ∧ True) ∧ (do0_2 ts a) ∧ (do0_1 ws) ∧ (Array.size (fellT ts (IntKind.wrap .u32 (nmA ts a))) = 448 ∧ Array.size ws = 448 ∧ True) ∧ oP = fellT ts (IntKind.wrap .u32 (nmA ts a)) ∧ oW = ws ∧ true = false ∧ True))) ∧ (decide (List.length (unT ts (nmA ts a)) = 0) = false → (do0_3 ts ws a) ∧ (do0_6 ts a) ∧ (Array.size (fwN ws (unT ts (nmA ts a))) = 448 ∧ True) ∧ (Array.size (fellT ts (IntKind.wrap .u32 (nmA ts a))) = 448 ∧ Array.size (fellT ts (IntKind.wrap .u32 (nmA ts a))) = Array.size ts ∧ True) ∧ (Array.size (fwN ws (unT ts (nmA ts a))) = 448 ∧ Array.size (fwN ws (unT ts (nmA ts a))) = Array.size ws ∧ True) ∧ (rEq (u32s (unT ts (IntKind.wrap .u32 (nmA ts a)))) (i64s (unT ts (nmA ts a))) (List.length (unT ts (IntKind.wrap .u32 (nmA ts a)))) (List.length (unT ts (nmA ts a))) ∧ True) ∧ (do0_6 ts a) ∧ (Array.size (fwN ws (unT ts (nmA ts a))) = 448 ∧ True) ∧ (do0_2 ts a) ∧ (do0_3 ts ws a) ∧ (Array.size (fellT ts (IntKind.wrap .u32 (nmA ts a))) = 448 ∧ Array.size (fwN ws (unT ts (nmA ts a))) = 448 ∧ True) ∧ oP = fellT ts (IntKind.wrap .u32 (nmA ts a)) ∧ oW = fwN ws (unT ts (nmA ts a)) ∧ true = true ∧ True))) ∧ ((d == 0) = false → ((d == 1) = true → (Array.size ts = 448 ∧ True) ∧ (FIn ts ∧ (do0_0 ts a) ∧ True) ∧ (Array.size (cutT ts (IntKind.wrap .u32 (nmA ts a))) = 448 ∧ Array.size (cutT ts (IntKind.wrap .u32 (nmA ts a))) = Array.size ts ∧ True) ∧ (Array.size ws = 448 ∧ True) ∧ (SW ts ws ∧ FIn ts ∧ True) ∧ (Array.size (cuW ts ws (nmA ts a)) = 448 ∧ Array.size (cuW ts ws (nmA ts a)) = Array.size ws ∧ True) ∧ (Array.size (cutT ts (IntKind.wrap .u32 (nmA ts a))) = 448 ∧ True) ∧ (Array.size (cuW ts ws (nmA ts a)) = 448 ∧ True) ∧ (Array.size (cutT ts (IntKind.wrap .u32 (nmA ts a))) = 448 ∧ Array.size (cutT ts (IntKind.wrap .u32 (nmA ts a))) = 448 ∧ True) ∧ (Array.size (cuW ts ws (nmA ts a)) = 448 ∧ Array.size (cuW ts ws (nmA ts a)) = 448 ∧ True) ∧ (Array.size (cutT ts (IntKind.wrap .u32 (nmA ts a))) = 448 ∧ Array.size (cuW ts ws (nmA ts a)) = 448 ∧ True) ∧ oP = cutT ts (IntKind.wrap .u32 (nmA ts a)) ∧ oW = cuW ts ws (nmA ts a) ∧ true = (cutE ts (IntKind.wrap .u32 (nmA ts a)) == cutE ts (nmA ts a)) ∧ True) ∧ ((d == 1) = false → ((d == 2) = true → (Array.size ts = 448 ∧ True) ∧ (FIn ts ∧ (do0_0 ts a) ∧ (0 ≤ IntKind.wrap .u32 (nmA ts b) ∧ IntKind.wrap .u32 (nmA ts b) < 4294967296) ∧ True) ∧ (Array.size (grT ts (IntKind.wrap .u32 (nmA ts a)) (IntKind.wrap .u32 (nmA ts b))) = 448 ∧ Array.size (grT ts (IntKind.wrap .u32 (nmA ts a)) (IntKind.wrap .u32 (nmA ts b))) = Array.size ts ∧ True) ∧ (Array.size ws = 448 ∧ True) ∧ (SW ts ws ∧ FV ts ∧ True) ∧ (Array.size (grW ts ws (nmA ts a) (nmA ts b)) = 448 ∧ Array.size (grW ts ws (nmA ts a) (nmA ts b)) = Array.size ws ∧ True) ∧ (Array.size (grT ts (IntKind.wrap .u32 (nmA ts a)) (IntKind.wrap .u32 (nmA ts b))) = 448 ∧ True) ∧ (Array.size (grW ts ws (nmA ts a) (nmA ts b)) = 448 ∧ True) ∧ (Array.size (grT ts (IntKind.wrap .u32 (nmA ts a)) (IntKind.wrap .u32 (nmA ts b))) = 448 ∧ Array.size (grT ts (IntKind.wrap .u32 (nmA ts a)) (IntKind.wrap .u32 (nmA ts b))) = 448 ∧ True) ∧ (Array.size (grW ts ws (nmA ts a) (nmA ts b)) = 448 ∧ Array.size (grW ts ws (nmA ts a) (nmA ts b)) = 448 ∧ True) ∧ (Array.size (grT ts (IntKind.wrap .u32 (nmA ts a)) (IntKind.wrap .u32 (nmA ts b))) = 448 ∧ Array.size (grW ts ws (nmA ts a) (nmA ts b)) = 448 ∧ True) ∧ oP = grT ts (IntKind.wrap .u32 (nmA ts a)) (IntKind.wrap .u32 (nmA ts b)) ∧ oW = grW ts ws (nmA ts a) (nmA ts b) ∧ true = (grE ts (IntKind.wrap .u32 (nmA ts a)) (IntKind.wrap .u32 (nmA ts b)) == grE ts (nmA ts a) (nmA ts b)) ∧ True) ∧ ((d == 2) = false → ((d == 3) = true → (Array.size ts = 448 ∧ True) ∧ (TbOk ts ∧ (do0_0 ts a) ∧ True) ∧ (Array.size (getA ts (IntKind.wrap .u32 (nmA ts a))) = 12 ∧ Array.size (getA ts (IntKind.wrap .u32 (nmA ts a))) = 12 ∧ True) ∧ ((0 ≤ ari .rem .u32 b 8 ∧ ari .rem .u32 b 8 < 8) ∧ True) ∧ (4 + Int.toNat (ari .rem .u32 b 8) * 1 < Array.size (getA ts (IntKind.wrap .u32 (nmA ts a))) ∧ True) ∧ (Array.size ws = 448 ∧ True) ∧ (SW ts ws ∧ TbOk ts ∧ True) ∧ (Array.size (gwT ts (nmA ts a)) = 12 ∧ Array.size (gwT ts (nmA ts a)) = 12 ∧ True) ∧ ((0 ≤ ari .rem .u32 b 8 ∧ ari .rem .u32 b 8 < 8) ∧ True) ∧ (4 + Int.toNat (ari .rem .u32 b 8) * 1 < Array.size (gwT ts (nmA ts a)) ∧ True) ∧ (((getX5 ts (IntKind.wrap .u32 (nmA ts a)) == 0) == true) = true → ((gwE ts (nmA ts a) == 0) = true → (Array.size ts = 448 ∧ True) ∧ (okP (cP ts (nmA ts a) b (nmA ts c))) ∧ (TbOk ts ∧ (do0_0 ts a) ∧ RgOk (lP (cP ts (nmA ts a) b (nmA ts c))) (0 : Nat) ∧ True) ∧ (Array.size (setT ts (IntKind.wrap .u32 (nmA ts a)) (lP (cP ts (nmA ts a) b (nmA ts c)))) = 448 ∧ Array.size (setT ts (IntKind.wrap .u32 (nmA ts a)) (lP (cP ts (nmA ts a) b (nmA ts c)))) = Array.size ts ∧ True) ∧ (Array.size ws = 448 ∧ True) ∧ (okR (cR ts (nmA ts a) b (nmA ts c))) ∧ (SW ts ws ∧ TbOk ts ∧ RwOk (lR (cR ts (nmA ts a) b (nmA ts c))) ∧ True) ∧ (Array.size (seW ts ws (nmA ts a) (lR (cR ts (nmA ts a) b (nmA ts c)))) = 448 ∧ Array.size (seW ts ws (nmA ts a) (lR (cR ts (nmA ts a) b (nmA ts c)))) = Array.size ws ∧ True) ∧ (Array.size (setT ts (IntKind.wrap .u32 (nmA ts a)) (lP (cP ts (nmA ts a) b (nmA ts c)))) = 448 ∧ True) ∧ (Array.size (seW ts ws (nmA ts a) (lR (cR ts (nmA ts a) b (nmA ts c)))) = 448 ∧ True) ∧ (((getX5 ts (IntKind.wrap .u32 (nmA ts a)) == gwE ts (nmA ts a)) == true) = true → (Array.size (setT ts (IntKind.wrap .u32 (nmA ts a)) (lP (cP ts (nmA ts a) b (nmA ts c)))) = 448 ∧ Array.size (setT ts (IntKind.wrap .u32 (nmA ts a)) (lP (cP ts (nmA ts a) b (nmA ts c)))) = 448 ∧ True) ∧ (Array.size (seW ts ws (nmA ts a) (lR (cR ts (nmA ts a) b (nmA ts c)))) = 448 ∧ Array.size (seW ts ws (nmA ts a) (lR (cR ts (nmA ts a) b (nmA ts c)))) = 448 ∧ True) ∧ (Array.size (setT ts (IntKind.wrap .u32 (nmA ts a)) (lP (cP ts (nmA ts a) b (nmA ts c)))) = 448 ∧ Array.size (seW ts ws (nmA ts a) (lR (cR ts (nmA ts a) b (nmA ts c)))) = 448 ∧ True) ∧ oP = setT ts (IntKind.wrap .u32 (nmA ts a)) (lP (cP ts (nmA ts a) b (nmA ts c))) ∧ oW = seW ts ws (nmA ts a) (lR (cR ts (nmA ts a) b (nmA ts c))) ∧ true = (getX5 ts (IntKind.wrap .u32 (nmA ts a)) == getX5 ts (nmA ts a)) ∧ True) ∧ (((getX5 ts (IntKind.wrap .u32 (nmA ts a)) == gwE ts (nmA ts a)) == true) = false → (Array.size (setT ts (IntKind.wrap .u32 (nmA ts a)) (lP (cP ts (nmA ts a) b (nmA ts c)))) = 448 ∧ Array.size (setT ts (IntKind.wrap .u32 (nmA ts a)) (lP (cP ts (nmA ts a) b (nmA ts c)))) = 448 ∧ True) ∧ (Array.size (seW ts ws (nmA ts a) (lR (cR ts (nmA ts a) b (nmA ts c)))) = 448 ∧ Array.size (seW ts ws (nmA ts a) (lR (cR ts (nmA ts a) b (nmA ts c)))) = 448 ∧ True) ∧ (Array.size (setT ts (IntKind.wrap .u32 (nmA ts a)) (lP (cP ts (nmA ts a) b (nmA ts c)))) = 448 ∧ Array.size (seW ts ws (nmA ts a) (lR (cR ts (nmA ts a) b (nmA ts c)))) = 448 ∧ True) ∧ False)) ∧ ((gwE ts (nmA ts a) == 0) = false → (Array.size ts = 448 ∧ True) ∧ (Array.size ws = 448 ∧ True) ∧ (((getX5 ts (IntKind.wrap .u32 (nmA ts a)) == gwE ts (nmA ts a)) == true) = true → (do0_4 ts) ∧ (do0_1 ws) ∧ (Array.size ts = 448 ∧ Array.size ws = 448 ∧ True) ∧ oP = ts ∧ oW = ws ∧ True) ∧ (((getX5 ts (IntKind.wrap .u32 (nmA ts a)) == gwE ts (nmA ts a)) == true) = false → (do0_4 ts) ∧ (do0_1 ws) ∧ (Array.size ts = 448 ∧ Array.size ws = 448 ∧ True) ∧ False))) ∧ (((getX5 ts (IntKind.wrap .u32 (nmA ts a)) == 0) == true) = false → (Array.size ts = 448 ∧ True) ∧ (Array.size ws = 448 ∧ True) ∧ (((getX5 ts (IntKind.wrap .u32 (nmA ts a)) == gwE ts (nmA ts a)) == true) = true → (do0_4 ts) ∧ (do0_1 ws) ∧ (Array.size ts = 448 ∧ Array.size ws = 448 ∧ True) ∧ oP = ts ∧ oW = ws ∧ True) ∧ (((getX5 ts (IntKind.wrap .u32 (nmA ts a)) == gwE ts (nmA ts a)) == true) = false → (do0_4 ts) ∧ (do0_1 ws) ∧ (Array.size ts = 448 ∧ Array.size ws = 448 ∧ True) ∧ False))) ∧ ((d == 3) = false → (Array.size ts = 448 ∧ True) ∧ (FIn ts ∧ (do0_0 ts a) ∧ True) ∧ (do0_5 ts a q) ∧ (Array.size ws = 448 ∧ True) ∧ (SW ts ws ∧ FV ts ∧ (0 ≤ nmA ts a ∧ nmA ts a < 4294967296) ∧ True) ∧ (Array.size (fnW ts ws (nmA ts a) q) = 448 ∧ Array.size (fnW ts ws (nmA ts a) q) = 448 ∧ True) ∧ (Array.size (fnT ts (IntKind.wrap .u32 (nmA ts a)) q) = 448 ∧ True) ∧ (Array.size (fnW ts ws (nmA ts a) q) = 448 ∧ True) ∧ (Array.size (fnT ts (IntKind.wrap .u32 (nmA ts a)) q) = 448 ∧ Array.size (fnT ts (IntKind.wrap .u32 (nmA ts a)) q) = Array.size ts ∧ True) ∧ (Array.size (fnW ts ws (nmA ts a) q) = 448 ∧ Array.size (fnW ts ws (nmA ts a) q) = Array.size ws ∧ True) ∧ (Array.size (fnT ts (IntKind.wrap .u32 (nmA ts a)) q) = 448 ∧ True) ∧ (Array.size (fnW ts ws (nmA ts a) q) = 448 ∧ True) ∧ (((IntKind.wrap .i64 (fnI ts (IntKind.wrap .u32 (nmA ts a)) q) == fnI ts (nmA ts a) q) == true) = true → (do0_5 ts a q) ∧ (Array.size (fnW ts ws (nmA ts a) q) = 448 ∧ Array.size (fnW ts ws (nmA ts a) q) = 448 ∧ True) ∧ (Array.size (fnT ts (IntKind.wrap .u32 (nmA ts a)) q) = 448 ∧ Array.size (fnW ts ws (nmA ts a) q) = 448 ∧ True) ∧ oP = fnT ts (IntKind.wrap .u32 (nmA ts a)) q ∧ oW = fnW ts ws (nmA ts a) q ∧ true = (fnE ts (IntKind.wrap .u32 (nmA ts a)) q == fnE ts (nmA ts a) q) ∧ True) ∧ (((IntKind.wrap .i64 (fnI ts (IntKind.wrap .u32 (nmA ts a)) q) == fnI ts (nmA ts a) q) == true) = false → (do0_5 ts a q) ∧ (Array.size (fnW ts ws (nmA ts a) q) = 448 ∧ Array.size (fnW ts ws (nmA ts a) q) = 448 ∧ True) ∧ (Array.size (fnT ts (IntKind.wrap .u32 (nmA ts a)) q) = 448 ∧ Array.size (fnW ts ws (nmA ts a) q) = 448 ∧ True) ∧ False)))))) := by kernel_rfl
set_option maxRecDepth 1000000 in
theorem wakes_fast : (runC E0 200000 0 [callFr 5 Tryd.f5.ntmps [] (Tryd.f5.body.getD .skip)] ⟨0, .nil, []⟩).allTrue = true := by kernel_rfl
theorem wakes_true : (run E0 200000 0 [callFr 5 Tryd.f5.ntmps [] (Tryd.f5.body.getD .skip)] ⟨0, .nil, []⟩).allTrue = true := by
 rw [← runC_eq]
 exact wakes_fast
theorem wakes_fn : E0.fn 5 = some Tryd.f5 := by kernel_rfl
theorem wakes_body : Tryd.f5.body = some (Tryd.f5.body.getD .skip) := by kernel_rfl
theorem wakes_con (m : SMem) : Con E0 5 [] m (needs [] (.ret (sB (.l true)) m)) :=
 Con.pure E0_ok wakes_fn wakes_body (by kernel_rfl) (by kernel_rfl) fun _ => good_true E0_ok wakes_true
theorem ls_opW {R : Ren} {v : Value} {a0 a1 a3 c0 c1 c2 c3 c4 c5 c6 c7 : SI} (h : (SV.s (.agg (.ls [.f (.int .i64 a0), .f (.int .i64 a1), .f (.lit (.slice none 0 0)), .f (.int .i64 a3), .f (.int .i64 c0), .f (.int .i64 c1), .f (.int .i64 c2), .f (.int .i64 c3), .f (.int .i64 c4), .f (.int .i64 c5), .f (.int .i64 c6), .f (.int .i64 c7)]))).ok R v) : (wtS (lsW a0.den a1.den a3.den c0.den c1.den c2.den c3.den c4.den c5.den c6.den c7.den)).ok R v := by
 obtain ⟨cs, rfl, hl⟩ := h
 have hl : All2 (SC.ok R) _ cs.toList := hl
 have key : cs = lsW a0.den a1.den a3.den c0.den c1.den c2.den c3.den c4.den c5.den c6.den c7.den := by
  apply Array.ext'
  match hc : cs.toList, hl with
 | [v0, v1, v2, v3, v4, v5, v6, v7, v8, v9, v10, v11], ⟨h0, h1, h2, h3, h4, h5, h6, h7, h8, h9, h10, h11, _⟩ =>
  have e0 : v0 = .int .i64 a0.den := h0
  have e1 : v1 = .int .i64 a1.den := h1
  have e2 : v2 = .slice none 0 0 := h2.1
  have e3 : v3 = .int .i64 a3.den := h3
  have e4 : v4 = .int .i64 c0.den := h4
  have e5 : v5 = .int .i64 c1.den := h5
  have e6 : v6 = .int .i64 c2.den := h6
  have e7 : v7 = .int .i64 c3.den := h7
  have e8 : v8 = .int .i64 c4.den := h8
  have e9 : v9 = .int .i64 c5.den := h9
  have e10 : v10 = .int .i64 c6.den := h10
  have e11 : v11 = .int .i64 c7.den := h11
  rw [e0, e1, e2, e3, e4, e5, e6, e7, e8, e9, e10, e11]
 refine ⟨cs, rfl, key, fun v hv => ?_⟩
 rw [key] at hv
 simp only [lsW, List.mem_cons, List.not_mem_nil, or_false] at hv
 rcases hv with rfl | rfl | rfl | rfl | rfl | rfl | rfl | rfl | rfl | rfl | rfl | rfl <;> rfl
theorem conDo_ok (ts : Array Value) : ∀ g l m t, conDo ts g l m = some t → Con E0 g l m t := by
 unfold conDo at h
 ·cases h; exact wakes_con m
 ·rename_i ws n; cases h
  refine Con.asked fun hq => Con.args (l' := [wtS ws, .s (.c (.f (.int .u32 (.o n.den))))]) (fun R vs ha => by
   match vs, ha with
   | [v, w], ha => exact ⟨ha.1, ha.2.1, trivial⟩) ?_
  intro A hs
  exact nm_con n.den m A ⟨fun p hp => hq p hp, hs⟩
 ·split at h
  ·rename_i a w1 b w2 h1 h2; cases h
   exact row_con h1 h2
  ·cases h
 ·cases h; exact rowZ_con m
 ·rename_i ws x; cases h
  refine Con.args (l' := [wtS ws, i64 (.o x.den)]) (fun R vs ha => by
   match vs, ha with
   | [v, w], ha => exact ⟨ha.1, ha.2.1, trivial⟩) ?_
  exact rfell_con x.den m
 ·rename_i ws x; cases h
  refine Con.asked fun hq => Con.args (l' := [wtS ws, i64 (.o x.den)]) (fun R vs ha => by
   match vs, ha with
   | [v, w], ha => exact ⟨ha.1, ha.2.1, trivial⟩) ?_
  intro A hs
  exact rcut_con x.den m A ⟨fun p hp => hq p hp, hs⟩
 ·rename_i ws a x; cases h
  refine Con.asked fun hq => Con.args (l' := [wtS ws, i64 (.o a.den), i64 (.o x.den)]) (fun R vs ha => by
   match vs, ha with
   | [v, w, z], ha => exact ⟨ha.1, ha.2.1, ha.2.2.1, trivial⟩) ?_
  intro A hs
  exact rgraft_con a.den x.den m A ⟨fun p hp => hq p hp, hs⟩
 ·rename_i ws a x; cases h
  refine Con.asked fun hq => Con.args (l' := [wtS ws, i64 (.o a.den), i64 (.o x.den)]) (fun R vs ha => by
   match vs, ha with
   | [v, w, z], ha => exact ⟨ha.1, ha.2.1, ha.2.2.1, trivial⟩) ?_
  intro A hs
  exact rfnew_con a.den x.den m A ⟨fun p hp => hq p hp, hs⟩
 ·rename_i ws x a0 a1 a3 c0 c1 c2 c3 c4 c5 c6 c7; cases h
  refine Con.asked fun hq => Con.args (l' := [wtS ws, i64 (.o x.den), wtS (lsW a0.den a1.den a3.den c0.den c1.den c2.den c3.den c4.den c5.den c6.den c7.den)]) (fun R vs ha => by
   match vs, ha with
   | [v, w, z], ha => exact ⟨ha.1, ha.2.1, ls_opW ha.2.2.1, trivial⟩) ?_
  intro A hs
  exact rset_con x.den m A ⟨fun p hp => hq p hp, hs⟩
 ·rename_i ts x; cases h
  refine Con.args (l' := [tbS ts, u32 x.den]) (fun R vs ha => by
   match vs, ha with
   | [v, w], ha => exact ⟨ha.1, ha.2.1, trivial⟩) ?_
  exact fell_con x.den m
 ·rename_i ts u q; cases h
  refine Con.asked fun hq => Con.args (l' := [tbS ts, u32 u.den, i64 (.o q.den)]) (fun R vs ha => by
   match vs, ha with
   | [v, w, z], ha => exact ⟨ha.1, ha.2.1, ha.2.2.1, trivial⟩) ?_
  intro A hs
  exact fnew_con u.den q.den m A ⟨fun p hp => hq p hp, hs⟩
theorem EDo_ok (ts : Array Value) : EnvOk (EDo ts) := EnvOk.with E0_ok _ _ (conDo_ok ts)
theorem wr32 {x : Int} (h : inH x) : IntKind.u32.wrap x = x := by
theorem rm8 {b : Int} (hb : inH b) : ari .rem .u32 b 8 = b % 8 := by
 have h0 : 0 ≤ b := hb.1
 rw [ari_rem, Int.tmod_eq_emod_of_nonneg h0]
def ceS (ts : Array Value) (x b z : Int) (j : Nat) : Int := if j = (b % 8).toNat then z else ceF ts x j
theorem cP_eq {x b z : Int} (hg : gdF ts x = true) (hx : inH x) (hb : inH b) (hz : inH z) : cP ts x b z = rgA (upF ts x) (quF ts x) 0 (ceS ts x b z) ∧ cR ts x b z = rwA (upF ts x) (quF ts x) (ceS ts x b z) := by
 have h1 : getA ts x = rgA (upF ts x) (quF ts x) 0 (ceF ts x) := if_pos hg
 have h2 : gwT ts x = rwA (upF ts x) (quF ts x) (ceF ts x) := if_pos hg
 unfold cP cR ceS
 rw [wr32 hx, wr32 hz, rm8 hb, h1, h2, Nat.mul_one]
 have hk : (b % 8).toNat < 8 := by omega
 generalize (b % 8).toNat = k at *
 match k, hk with
 | 0, _ | 1, _ | 2, _ | 3, _ | 4, _ | 5, _ | 6, _ | 7, _ => exact ⟨rfl, rfl⟩
theorem uF_in (hb : TbOk ts) {x : Int} (hg : gdF ts x = true) : inH (upF ts x) := by
theorem ce_f (ht : TbOk ts) {x b z : Int} (hg : gdF ts x = true) (hx : inH x) (hb : inH b) (hz : inH z) : okP (cP ts x b z) ∧ okR (cR ts x b z) ∧ RgOk (lP (cP ts x b z)) 0 ∧ RwOk (lR (cR ts x b z)) ∧ intAt (lR (cR ts x b z)) 1 = intAt (lP (cP ts x b z)) 1 ∧ ∀ k, k < 8 → intAt (lR (cR ts x b z)) (4 + k) = intAt (lP (cP ts x b z)) (4 + k) := by
 obtain ⟨e1, e2⟩ := cP_eq hg hx hb hz
 obtain ⟨i1, i2, i3⟩ := rg_in ht hg
 have e3 : lP (rgA (upF ts x) (quF ts x) 0 (ceS ts x b z)) = rgA (upF ts x) (quF ts x) 0 (ceS ts x b z) := rfl
 have e4 : lR (rwA (upF ts x) (quF ts x) (ceS ts x b z)) = rwA (upF ts x) (quF ts x) (ceS ts x b z) := rfl
 rw [e3, e4]
 have hin : ∀ j, j < 8 → inH (ceS ts x b z j) := fun j hj => by
  unfold ceS
  ·exact hz
  ·exact i3 j hj
 refine ⟨⟨rfl, rfl, rfl, rfl, rfl, rfl, rfl, rfl, rfl, rfl, rfl, rfl, trivial⟩, ⟨rfl, rfl, rfl, rfl, rfl, rfl, rfl, rfl, rfl, rfl, rfl, rfl, trivial⟩, (rg_new (us := rgA (upF ts x) (quF ts x) 0 (ceS ts x b z)) (p := 0) (fun j _ => by rw [Nat.zero_add]) (uF_in ht hg) i2 hin).1, ⟨rfl, rfl, i2, rfl, rfl, rfl, fun k hk => ?_⟩, rfl, fun k hk => ?_⟩
noncomputable def acP (ts : Array Value) (d a b c q : Int) : Array Value := if d = 0 then fellT ts (nmA ts a) else if d = 1 then cutT ts (nmA ts a) else if d = 2 then grT ts (nmA ts a) (nmA ts b) else if d = 3 then (if gdF ts (nmA ts a) = true then setT ts (nmA ts a) (lP (cP ts (nmA ts a) b (nmA ts c))) else ts) else fnT ts (nmA ts a) q
noncomputable def acW (ts ws : Array Value) (d a b c q : Int) : Array Value := if d = 0 then fwN ws (unT ts (nmA ts a)) else if d = 1 then cuW ts ws (nmA ts a) else if d = 2 then grW ts ws (nmA ts a) (nmA ts b) else if d = 3 then (if gdF ts (nmA ts a) = true then seW ts ws (nmA ts a) (lR (cR ts (nmA ts a) b (nmA ts c))) else ws) else fnW ts ws (nmA ts a) q
theorem ac_f (w : SW ts ws) (hv : FV ts) {d a b c q : Int} (ha : inH a) (hb : inH b) (hc : inH c) : FV (acP ts d a b c q) ∧ SW (acP ts d a b c q) (acW ts ws d a b c q) := by
 have ht := hv.f.ok
 have hx := nm_in ht ha
 have hy := nm_in ht hb
 have hz := nm_in ht hc
 unfold acP acW
 by_cases d0 : d = 0
 ·rw [if_pos d0, if_pos d0]
  refine ⟨?_, SW.dropN _ w ht⟩
  cases g : gdF ts (nmA ts a) with
  | true => exact (fell_f hv g).1
   have e : fellT ts (nmA ts a) = ts := by unfold fellT unT; rw [g]; rfl
   rw [e]; exact hv
 ·rw [if_neg d0, if_neg d0]
  by_cases d1 : d = 1
  ·rw [if_pos d1, if_pos d1]
   exact ⟨FV_cut hv _, w.cut hv.f⟩
  ·rw [if_neg d1, if_neg d1]
   by_cases d2 : d = 2
   ·rw [if_pos d2, if_pos d2]
    exact ⟨(graft_f hv hy).1, w.graft hv⟩
   ·rw [if_neg d2, if_neg d2]
    by_cases d3 : d = 3
    ·rw [if_pos d3, if_pos d3]
     by_cases hg : gdF ts (nmA ts a) = true
     ·rw [if_pos hg, if_pos hg]
      obtain ⟨_, _, p3, _, p5, p6⟩ := ce_f ht hg hx hb hz
      exact ⟨FV_set hv hg p3, w.set ht hg p3 p5 p6⟩
     ·rw [if_neg hg, if_neg hg]
      exact ⟨hv, w⟩
    ·rw [if_neg d3, if_neg d3]
     exact ⟨FV_new hv hx, w.fnew hv hx⟩
theorem fnI_in (hb : TbOk ts) (u q : Int) : inH (fnI ts u q) := by
 unfold fnI
 ·exact (iss_f hb).1
theorem do_con (d a b c q : Int) (m : SMem) : Con E0 6 [tbS ts, wtS ws, acV d a b c q] m (needs [SW ts ws, FV ts, inH a, inH b, inH c] (.ret (doS (acP ts d a b c q) (acW ts ws d a b c q)) m)) := by
 refine Con.pure E0_ok (by kernel_rfl : E0.fn 6 = some Tryd.f6) (by kernel_rfl : Tryd.f6.body = some (Tryd.f6.body.getD .skip)) (by kernel_rfl) (by kernel_rfl) fun hq => ?_
 have hv : FV ts := hq _ (by simp)
 have ha : inH a := hq _ (by simp)
 have hb : inH b := hq _ (by simp)
 have hc : inH c := hq _ (by simp)
 obtain ⟨v1, w1⟩ := ac_f w hv ha hb hc (d := d) (q := q)
 have s1 := v1.f.ok.sz
 have s2 := w1.sz
 have hf := hv.f
 have ht := hf.ok
 have hs := ht.sz
 have hw := w.sz
 have hx := nm_in ht ha
 have hy := nm_in ht hb
 have hz := nm_in ht hc
 have ha' : 0 ≤ a ∧ a < 4294967296 := ha
 have hb' : 0 ≤ b ∧ b < 4294967296 := hb
 have hc' : 0 ≤ c ∧ c < 4294967296 := hc
 have hx' : 0 ≤ nmA ts a ∧ nmA ts a < 4294967296 := hx
 have hy' : 0 ≤ nmA ts b ∧ nmA ts b < 4294967296 := hy
 have ex := wr32 hx
 have ey := wr32 hy
 refine (Good.ret [] (run_vc (EDo_ok ts) 1000 (do0 ts ws d a b c q (acP ts d a b c q) (acW ts ws d a b c q)) ?_ (fun s m h => h) fun _ _ h => h.elim)).mono fun _ _ h => h.1
 unfold do0_6 do0_5 do0_4 do0_3 do0_2 do0_1 do0_0
 by_cases d0 : d = 0
 ·have c0 : (d == 0) = true := beq_iff_eq.2 d0
  have e1 : acP ts d a b c q = fellT ts (nmA ts a) := if_pos d0
  have e2 : acW ts ws d a b c q = fwN ws (unT ts (nmA ts a)) := if_pos d0
  rw [e1] at s1 ⊢
  rw [e2] at s2 ⊢
  cases k : decide ((unT ts (nmA ts a)).length = 0) with
   have e0 : unT ts (nmA ts a) = [] := List.eq_nil_of_length_eq_zero (of_decide_eq_true k)
   have e3 : fellT ts (nmA ts a) = ts := by unfold fellT; rw [e0]; rfl
   have e4 : fwN ws (unT ts (nmA ts a)) = ws := by rw [e0]; rfl
   simp only [c0, k, e3, e4, ex, hs, hw, w, hf, ht, ha', hb', hc', hx', true_implies, Bool.true_eq_false, false_implies, and_true, true_and]
   have hg : gdF ts (nmA ts a) = true := by
    cases g : gdF ts (nmA ts a) with
    | true => rfl
    | false => exact absurd (by unfold unT; rw [g]; rfl) (of_decide_eq_false k)
   have hl := (lv_mem ht).2 hg
   have hun : unT ts (nmA ts a) = UNL ts (nmA ts a) := if_pos hg
   have hr : rEq (u32s (unT ts (nmA ts a))) (i64s (unT ts (nmA ts a))) (unT ts (nmA ts a)).length (unT ts (nmA ts a)).length := ⟨_, rfl, rfl, rfl, rfl, by rw [hun]; exact un_32 hf hl, fun y hy => by rw [hun] at hy; exact lv_in ht (.inr (un_sub hf.fo _ hl y hy).1)⟩
   simp only [c0, k, hr, s1, s2, ex, hs, hw, w, hf, ht, ha', hb', hc', hx', q6]
 ·have c0 : (d == 0) = false := beq_eq_false_iff_ne.2 d0
  by_cases d1 : d = 1
  ·have c1 : (d == 1) = true := beq_iff_eq.2 d1
   have e1 : acP ts d a b c q = cutT ts (nmA ts a) := by unfold acP; rw [if_neg d0, if_pos d1]
   have e2 : acW ts ws d a b c q = cuW ts ws (nmA ts a) := by unfold acW; rw [if_neg d0, if_pos d1]
   rw [e1] at s1 ⊢
   rw [e2] at s2 ⊢
   simp only [c0, c1, s1, s2, ex, hs, hw, w, hf, ht, ha', hb', hc', hx', beq_self_eq_true, q6]
  ·have c1 : (d == 1) = false := beq_eq_false_iff_ne.2 d1
   by_cases d2 : d = 2
   ·have c2 : (d == 2) = true := beq_iff_eq.2 d2
    have e1 : acP ts d a b c q = grT ts (nmA ts a) (nmA ts b) := by unfold acP; rw [if_neg d0, if_neg d1, if_pos d2]
    have e2 : acW ts ws d a b c q = grW ts ws (nmA ts a) (nmA ts b) := by unfold acW; rw [if_neg d0, if_neg d1, if_pos d2]
    rw [e1] at s1 ⊢
    rw [e2] at s2 ⊢
    simp only [c0, c1, c2, s1, s2, ex, ey, hs, hw, w, hv, hf, ht, ha', hb', hc', hx', hy', beq_self_eq_true, q6]
   ·have c2 : (d == 2) = false := beq_eq_false_iff_ne.2 d2
    by_cases d3 : d = 3
    ·have c3 : (d == 3) = true := beq_iff_eq.2 d3
     have e1 : acP ts d a b c q = if gdF ts (nmA ts a) = true then setT ts (nmA ts a) (lP (cP ts (nmA ts a) b (nmA ts c))) else ts := by unfold acP; rw [if_neg d0, if_neg d1, if_neg d2, if_pos d3]
     have e2 : acW ts ws d a b c q = if gdF ts (nmA ts a) = true then seW ts ws (nmA ts a) (lR (cR ts (nmA ts a) b (nmA ts c))) else ws := by unfold acW; rw [if_neg d0, if_neg d1, if_neg d2, if_pos d3]
     have er := rm8 hb
     have r0 : 0 ≤ b % 8 := by omega
     have r1 : b % 8 < 8 := by omega
     have r2 : 4 + (b % 8).toNat < 12 := by omega
     have z1 := (getA_facts ts (nmA ts a)).1
     have z2 : (gwT ts (nmA ts a)).size = 12 := by unfold gwT; split <;> rfl
     cases hg : gdF ts (nmA ts a) with
     | true =>
      rw [if_pos hg] at e1 e2
      rw [e1] at s1 ⊢
      rw [e2] at s2 ⊢
      obtain ⟨p1, p2, p3, p4, _, _⟩ := ce_f ht hg hx hb hz
      have x5 : getX5 ts (nmA ts a) = 0 := if_pos hg
      have x6 : gwE ts (nmA ts a) = 0 := if_pos hg
      simp only [c0, c1, c2, c3, s1, s2, ex, er, r0, r1, r2, z1, z2, x5, x6, p1, p2, p3, p4, hs, hw, w, hf, ht, ha', hb', hc', hx', Nat.mul_one, beq_self_eq_true, beqT, beqF, q6]
     | false =>
      rw [if_neg (by rw [hg]; decide)] at e1 e2
      rw [e1, e2]
      have x5 : getX5 ts (nmA ts a) = 4 := if_neg (by rw [hg]; decide)
      have x6 : gwE ts (nmA ts a) = 4 := if_neg (by rw [hg]; decide)
      have x7 : ((4 : Int) == 0) = false := rfl
      simp only [c0, c1, c2, c3, ex, er, r0, r1, r2, z1, z2, x5, x6, x7, hs, hw, w, hf, ht, ha', hb', hc', hx', Nat.mul_one, beq_self_eq_true, beqT, beqF, q6]
    ·have c3 : (d == 3) = false := beq_eq_false_iff_ne.2 d3
     have e1 : acP ts d a b c q = fnT ts (nmA ts a) q := by unfold acP; rw [if_neg d0, if_neg d1, if_neg d2, if_neg d3]
     have e2 : acW ts ws d a b c q = fnW ts ws (nmA ts a) q := by unfold acW; rw [if_neg d0, if_neg d1, if_neg d2, if_neg d3]
     rw [e1] at s1 ⊢
     rw [e2] at s2 ⊢
     have e64 := wr64 (fnI_in ht (nmA ts a) q)
     simp only [c0, c1, c2, c3, s1, s2, ex, e64, hs, hw, w, hv, hf, ht, ha', hb', hc', hx', beq_self_eq_true, beqT, beqF, q6]
theorem ac_ok {R : Ren} {v : Value} {d a b c q : SI} (h : (SV.s (.agg (.ls [.f (.int .u8 d), .f (.int .u32 a), .f (.int .u32 b), .f (.int .u32 c), .f (.int .i64 q)]))).ok R v) : (acV d.den a.den b.den c.den q.den).ok R v := by
 obtain ⟨cs, rfl, hl⟩ := h
 refine ⟨cs, rfl, ?_⟩
 have hl : All2 (SC.ok R) _ cs.toList := hl
 show All2 (SC.ok R) _ cs.toList
 match hc : cs.toList, hl with
 | [v0, v1, v2, v3, v4], ⟨h0, h1, h2, h3, h4, _⟩ => exact ⟨h0, h1, h2, h3, h4, trivial⟩
noncomputable def acS (off n : Nat) : SV := .s (.c (.f (.slice 0 (.o off) (.o n) .any)))
noncomputable def eS : SV := .s (.c (.f .e0))
noncomputable def conPl (ts : Array Value) (g : FuncId) (l : List SV) (m : SMem) : Option Tree := match g, l with
 | 7, [.s (.agg (.op us)), .s (.agg (.op ws))] => some (.need [SW us ws, TbOk us] (.ret (sB (.l true)) m))
 | 6, [.s (.agg (.op us)), .s (.agg (.op ws)), .s (.agg (.ls [.f (.int .u8 d), .f (.int .u32 a), .f (.int .u32 b), .f (.int .u32 c), .f (.int .i64 q)]))] => some (.need [SW us ws, FV us, inH a.den, inH b.den, inH c.den] (.ret (doS (acP us d.den a.den b.den c.den q.den) (acW us ws d.den a.den b.den c.den q.den)) m))
 | g, l => conDo ts g l m
noncomputable def EPl (ts : Array Value) : Env := ⟨Tryd.prog, fnOf, conPl ts, haltAt [3 * 1000 + 6, 3 * 1000 + 12]⟩
noncomputable def EPn (ts : Array Value) : Env := ⟨Tryd.prog, fnOf, conPl ts, haltAt []⟩
noncomputable def EPz (ts : Array Value) : Env := ⟨Tryd.prog, fnOf, conPl ts, haltAt [3 * 1000 + 12]⟩
noncomputable def plL_d0 : List SIt := sekF Tryd.f3 6
noncomputable def plL_F (off : Nat) (n : Nat) (cs : Array Value) (ty : TypeId) (a : Int) (b : Int) (i : Int) (ts : Array Value) (ws : Array Value) : List SFr := [frOf 3 Tryd.f3 [(0, acS off n), (1, .s (.c (.f (.int .u32 (.o a))))), (2, .s (.c (.f (.int .u32 (.o b))))), (7, ptr 1 (.l 0)), (8, ptr 2 (.l 0)), (9, i64 (.o i))] plL_d0]
noncomputable def plL_M (off : Nat) (n : Nat) (cs : Array Value) (ty : TypeId) (a : Int) (b : Int) (i : Int) (ts : Array Value) (ws : Array Value) : SMem := mkM 3 [(0, ⟨.raw cs, ty, false⟩), (1, ⟨.op ts, 39, true⟩), (2, ⟨.op ws, 51, true⟩)]
noncomputable def plL_n (off : Nat) (n : Nat) (cs : Array Value) (ty : TypeId) (a : Int) (b : Int) (Q : Int → Array Value → Array Value → Prop) (fs : List SFr) (m : SMem) : Prop := (match frNth fs 0 with | some f0 => (match rdI f0 9 with | some i => (match rdP f0 7 with | some p1 => (match rdP f0 8 with | some p2 => (match rdA m p1 with | some ts => (match rdA m p2 with | some ws => Q i ts ws ∧ subOk 1 [(1, p1), (2, p2)] (plL_F off n cs ty a b i ts ws) (plL_M off n cs ty a b i ts ws) fs m | none => False) | none => False) | none => False) | none => False) | none => False) | none => False)
noncomputable def plE_d0 : List SIt := sekF Tryd.f3 12
noncomputable def plE_F (a : Int) (b : Int) (ts : Array Value) (ws : Array Value) : List SFr := [frOf 3 Tryd.f3 [(1, .s (.c (.f (.int .u32 (.o a))))), (2, .s (.c (.f (.int .u32 (.o b))))), (7, ptr 1 (.l 0)), (8, ptr 2 (.l 0))] plE_d0]
noncomputable def plE_M (a : Int) (b : Int) (ts : Array Value) (ws : Array Value) : SMem := mkM 3 [(1, ⟨.op ts, 39, true⟩), (2, ⟨.op ws, 51, true⟩)]
noncomputable def plE_n (a : Int) (b : Int) (Q : Array Value → Array Value → Prop) (fs : List SFr) (m : SMem) : Prop := (match frNth fs 0 with | some f0 => (match rdP f0 7 with | some p1 => (match rdP f0 8 with | some p2 => (match rdA m p1 with | some ts => (match rdA m p2 with | some ws => Q ts ws ∧ subOk 1 [(1, p1), (2, p2)] (plE_F a b ts ws) (plE_M a b ts ws) fs m | none => False) | none => False) | none => False) | none => False) | none => False)
noncomputable def plX (off n : Nat) (cs : Array Value) (ty : TypeId) (a b : Int) (QL : Int → Array Value → Array Value → Prop) (QE : Array Value → Array Value → Prop) (fs : List SFr) (m : SMem) : Prop := match Nat.beq (atR fs) (3 * 1000 + 6) with | true => plL_n off n cs ty a b QL fs m | false => plE_n a b QE fs m
def tl1 (tg ws : Array Value) (a b : Int) : Prop := (Array.size tg = (448 : Nat) ∧ True) ∧ (FIn tg ∧ ((0 : Int) ≤ IntKind.wrap IntKind.u32 (nmA tg a) ∧ IntKind.wrap IntKind.u32 (nmA tg a) < (4294967296 : Int)) ∧ True) ∧ (Array.size ws = (448 : Nat) ∧ True) ∧ (SW tg ws ∧ FIn tg ∧ True) ∧ ((((↑(depF tg (IntKind.wrap IntKind.u32 (nmA tg a))) : Int) == (↑(depF tg (nmA tg a)) : Int)) == true) = true → (Array.size tg = (448 : Nat) ∧ True) ∧ (FIn tg ∧ ((0 : Int) ≤ IntKind.wrap IntKind.u32 (nmA tg a) ∧ IntKind.wrap IntKind.u32 (nmA tg a) < (4294967296 : Int)) ∧ True) ∧ (Array.size ws = (448 : Nat) ∧ True) ∧ (SW tg ws ∧ FIn tg ∧ True) ∧ (((IntKind.wrap IntKind.i64 (rtF tg (IntKind.wrap IntKind.u32 (nmA tg a))) == rtF tg (nmA tg a)) == true) = true → (Array.size tg = (448 : Nat) ∧ True) ∧ (FIn tg ∧ ((0 : Int) ≤ IntKind.wrap IntKind.u32 (nmA tg b) ∧ IntKind.wrap IntKind.u32 (nmA tg b) < (4294967296 : Int)) ∧ True) ∧ (Array.size ws = (448 : Nat) ∧ True) ∧ (SW tg ws ∧ FIn tg ∧ True) ∧ (((outF tg (IntKind.wrap IntKind.u32 (nmA tg a)) (IntKind.wrap IntKind.u32 (nmA tg b)) == outF tg (nmA tg a) (nmA tg b)) == true) = true → true = true) ∧ (((outF tg (IntKind.wrap IntKind.u32 (nmA tg a)) (IntKind.wrap IntKind.u32 (nmA tg b)) == outF tg (nmA tg a) (nmA tg b)) == true) = false → false = true)) ∧ (((IntKind.wrap IntKind.i64 (rtF tg (IntKind.wrap IntKind.u32 (nmA tg a))) == rtF tg (nmA tg a)) == true) = false → false = true)) ∧ ((((↑(depF tg (IntKind.wrap IntKind.u32 (nmA tg a))) : Int) == (↑(depF tg (nmA tg a)) : Int)) == true) = false → false = true)
def tl2 (tg ws : Array Value) (a b : Int) : Prop := (Array.size tg = (448 : Nat) ∧ True) ∧ (FIn tg ∧ ((0 : Int) ≤ IntKind.wrap IntKind.u32 (nmA tg a) ∧ IntKind.wrap IntKind.u32 (nmA tg a) < (4294967296 : Int)) ∧ True) ∧ (decide (List.length (unT tg (IntKind.wrap IntKind.u32 (nmA tg a))) = (0 : Nat)) = true → (Array.size ws = (448 : Nat) ∧ True) ∧ (SW tg ws ∧ FIn tg ∧ True) ∧ (decide (List.length (unT tg (nmA tg a)) = (0 : Nat)) = true → tl1 tg ws a b) ∧ (decide (List.length (unT tg (nmA tg a)) = (0 : Nat)) = false → (((0 : Int) != (↑(List.length (unT tg (nmA tg a))) : Int)) = true → false = true) ∧ (((0 : Int) != (↑(List.length (unT tg (nmA tg a))) : Int)) = false → tl1 tg ws a b))) ∧ (decide (List.length (unT tg (IntKind.wrap IntKind.u32 (nmA tg a))) = (0 : Nat)) = false → (Array.size ws = (448 : Nat) ∧ True) ∧ (SW tg ws ∧ FIn tg ∧ True) ∧ (decide (List.length (unT tg (nmA tg a)) = (0 : Nat)) = true → (((↑(List.length (unT tg (IntKind.wrap IntKind.u32 (nmA tg a)))) : Int) != (0 : Int)) = true → false = true) ∧ (((↑(List.length (unT tg (IntKind.wrap IntKind.u32 (nmA tg a)))) : Int) != (0 : Int)) = false → (decide ((0 : Int) < (↑(List.length (unT tg (IntKind.wrap IntKind.u32 (nmA tg a)))) : Int)) = true → (((0 : Int) ≤ (0 : Int) ∧ (0 : Int) < (↑(List.length (unT tg (IntKind.wrap IntKind.u32 (nmA tg a)))) : Int)) ∧ True) ∧ (IsInt IntKind.u32 (u32s (unT tg (IntKind.wrap IntKind.u32 (nmA tg a)))) ((0 : Nat) + 0 * (1 : Nat)) ∧ True) ∧ False) ∧ (decide ((0 : Int) < (↑(List.length (unT tg (IntKind.wrap IntKind.u32 (nmA tg a)))) : Int)) = false → tl1 tg ws a b))) ∧ (decide (List.length (unT tg (nmA tg a)) = (0 : Nat)) = false → (rEq (u32s (unT tg (IntKind.wrap IntKind.u32 (nmA tg a)))) (i64s (unT tg (nmA tg a))) (List.length (unT tg (IntKind.wrap IntKind.u32 (nmA tg a)))) (List.length (unT tg (nmA tg a))) ∧ True) ∧ tl1 tg ws a b))
theorem plL_d0_ok (r : Nat → Option Nat) : TodoOk r plL_d0 plL_d0 := TodoOk.it (by kernel_rfl)
theorem plE_d0_ok (r : Nat → Option Nat) : TodoOk r plE_d0 plE_d0 := TodoOk.it (by kernel_rfl)
theorem plL_good {A : SV → SMem → Prop} {off : Nat} {n : Nat} {cs : Array Value} {ty : TypeId} {a : Int} {b : Int} {Q : Int → Array Value → Array Value → Prop} {fs : List SFr} {m : SMem} (H : ∀ i ts ws, Q i ts ws → Good Tryd.prog A 1 (plL_F off n cs ty a b i ts ws) (plL_M off n cs ty a b i ts ws)) (hb : plL_n off n cs ty a b Q fs m) : Good Tryd.prog A 1 fs m := by
 unfold plL_n at hb
 rotate_left
 ·exact hb.elim
 rotate_left
 ·exact hb.elim
 rotate_left
 ·exact hb.elim
 rotate_left
 ·exact hb.elim
 rotate_left
 ·exact hb.elim
 rotate_left
 ·exact hb.elim
 exact Good.of_sub hb.2 (H _ _ _ hb.1)
theorem plE_good {A : SV → SMem → Prop} {a : Int} {b : Int} {Q : Array Value → Array Value → Prop} {fs : List SFr} {m : SMem} (H : ∀ ts ws, Q ts ws → Good Tryd.prog A 1 (plE_F a b ts ws) (plE_M a b ts ws)) (hb : plE_n a b Q fs m) : Good Tryd.prog A 1 fs m := by
 unfold plE_n at hb
 rotate_left
 ·exact hb.elim
 rotate_left
 ·exact hb.elim
 rotate_left
 ·exact hb.elim
 rotate_left
 ·exact hb.elim
 rotate_left
 ·exact hb.elim
 exact Good.of_sub hb.2 (H _ _ hb.1)
theorem pl0 (tg : Array Value) (off : Nat) (n : Nat) (cs : Array Value) (ty : TypeId) (a b : Int) (Q : Int → Array Value → Array Value → Prop) : (run (EPl tg) 1000 1 [callFr 3 Tryd.f3.ntmps [acS off n, u32v a, u32v b] (Tryd.f3.body.getD .skip)] (mkM 1 [(0, ⟨.raw cs, ty, false⟩)])).vc (isB true) (plL_n off n cs ty a b Q) =
  ((decide ((↑n : Int) > 100) = true → true = true) ∧ (decide ((↑n : Int) > 100) = false → Q (0 : Int) zT zW ∧ CallKind.normal = CallKind.normal ∧ TodoOk (ren 1 [(1, 1), (2, 2)]) plL_d0 plL_d0 ∧ off = off ∧ n = n ∧ a = a ∧ (0 : Int) = (0 : Int) ∧ b = b ∧ ty = ty ∧ cs = cs ∧ (39 : TypeId) = (39 : Nat) ∧ zT = zT ∧ (51 : TypeId) = (51 : Nat) ∧ zW = zW ∧ True)) := by kernel_rfl
theorem plZ (tg : Array Value) (a b : Int) (Q : Array Value → Array Value → Prop) : (run (EPz tg) 1000 1 [callFr 3 Tryd.f3.ntmps [eS, u32v a, u32v b] (Tryd.f3.body.getD .skip)] (mkM 1 [])).vc (isB true) (plE_n a b Q) =
  (Q zT zW ∧ CallKind.normal = CallKind.normal ∧ TodoOk (ren 1 [(1, 1), (2, 2)]) plE_d0 plE_d0 ∧ a = a ∧ b = b ∧ (39 : TypeId) = (39 : Nat) ∧ zT = zT ∧ (51 : TypeId) = (51 : Nat) ∧ zW = zW ∧ True) := by kernel_rfl
theorem pl1 (tg : Array Value) (off : Nat) (n : Nat) (cs : Array Value) (ty : TypeId) (a b : Int) (i : Int) (ts ws : Array Value) (QL : Int → Array Value → Array Value → Prop) (QE : Array Value → Array Value → Prop) : (stepT (EPl tg).go (run (EPl tg) 1000) 1 (plL_F off n cs ty a b i ts ws) (plL_M off n cs ty a b i ts ws)).vc (isB true) (plX off n cs ty a b QL QE) =
  ((decide (i < (↑n : Int)) = true → (Array.size ts = 448 ∧ True) ∧ (Array.size ws = 448 ∧ True) ∧ ((0 ≤ i ∧ i < (↑n : Int)) ∧ True) ∧ (IsInt .u8 cs (off + Int.toNat i * 5) ∧ IsInt .u32 cs (off + Int.toNat i * 5 + 1) ∧ IsInt .u32 cs (off + Int.toNat i * 5 + 2) ∧ IsInt .u32 cs (off + Int.toNat i * 5 + 3) ∧ IsInt .i64 cs (off + Int.toNat i * 5 + 4) ∧ True) ∧ (SW ts ws ∧ FV ts ∧ (0 ≤ intAt cs (off + Int.toNat i * 5 + 1) ∧ intAt cs (off + Int.toNat i * 5 + 1) < 4294967296) ∧ (0 ≤ intAt cs (off + Int.toNat i * 5 + 2) ∧ intAt cs (off + Int.toNat i * 5 + 2) < 4294967296) ∧ (0 ≤ intAt cs (off + Int.toNat i * 5 + 3) ∧ intAt cs (off + Int.toNat i * 5 + 3) < 4294967296) ∧ True) ∧ (Array.size (acP ts (intAt cs (off + Int.toNat i * 5)) (intAt cs (off + Int.toNat i * 5 + 1)) (intAt cs (off + Int.toNat i * 5 + 2)) (intAt cs (off + Int.toNat i * 5 + 3)) (intAt cs (off + Int.toNat i * 5 + 4))) = 448 ∧ Array.size (acP ts (intAt cs (off + Int.toNat i * 5)) (intAt cs (off + Int.toNat i * 5 + 1)) (intAt cs (off + Int.toNat i * 5 + 2)) (intAt cs (off + Int.toNat i * 5 + 3)) (intAt cs (off + Int.toNat i * 5 + 4))) = Array.size ts ∧ True) ∧ (Array.size (acW ts ws (intAt cs (off + Int.toNat i * 5)) (intAt cs (off + Int.toNat i * 5 + 1)) (intAt cs (off + Int.toNat i * 5 + 2)) (intAt cs (off + Int.toNat i * 5 + 3)) (intAt cs (off + Int.toNat i * 5 + 4))) = 448 ∧ Array.size (acW ts ws (intAt cs (off + Int.toNat i * 5)) (intAt cs (off + Int.toNat i * 5 + 1)) (intAt cs (off + Int.toNat i * 5 + 2)) (intAt cs (off + Int.toNat i * 5 + 3)) (intAt cs (off + Int.toNat i * 5 + 4))) = Array.size ws ∧ True) ∧ (Array.size (acP ts (intAt cs (off + Int.toNat i * 5)) (intAt cs (off + Int.toNat i * 5 + 1)) (intAt cs (off + Int.toNat i * 5 + 2)) (intAt cs (off + Int.toNat i * 5 + 3)) (intAt cs (off + Int.toNat i * 5 + 4))) = 448 ∧ True) ∧ (Array.size (acW ts ws (intAt cs (off + Int.toNat i * 5)) (intAt cs (off + Int.toNat i * 5 + 1)) (intAt cs (off + Int.toNat i * 5 + 2)) (intAt cs (off + Int.toNat i * 5 + 3)) (intAt cs (off + Int.toNat i * 5 + 4))) = 448 ∧ True) ∧ (SW (acP ts (intAt cs (off + Int.toNat i * 5)) (intAt cs (off + Int.toNat i * 5 + 1)) (intAt cs (off + Int.toNat i * 5 + 2)) (intAt cs (off + Int.toNat i * 5 + 3)) (intAt cs (off + Int.toNat i * 5 + 4))) (acW ts ws (intAt cs (off + Int.toNat i * 5)) (intAt cs (off + Int.toNat i * 5 + 1)) (intAt cs (off + Int.toNat i * 5 + 2)) (intAt cs (off + Int.toNat i * 5 + 3)) (intAt cs (off + Int.toNat i * 5 + 4))) ∧ TbOk (acP ts (intAt cs (off + Int.toNat i * 5)) (intAt cs (off + Int.toNat i * 5 + 1)) (intAt cs (off + Int.toNat i * 5 + 2)) (intAt cs (off + Int.toNat i * 5 + 3)) (intAt cs (off + Int.toNat i * 5 + 4))) ∧ True) ∧ QL (ari .add .i64 i 1) (acP ts (intAt cs (off + Int.toNat i * 5)) (intAt cs (off + Int.toNat i * 5 + 1)) (intAt cs (off + Int.toNat i * 5 + 2)) (intAt cs (off + Int.toNat i * 5 + 3)) (intAt cs (off + Int.toNat i * 5 + 4))) (acW ts ws (intAt cs (off + Int.toNat i * 5)) (intAt cs (off + Int.toNat i * 5 + 1)) (intAt cs (off + Int.toNat i * 5 + 2)) (intAt cs (off + Int.toNat i * 5 + 3)) (intAt cs (off + Int.toNat i * 5 + 4))) ∧ CallKind.normal = CallKind.normal ∧ TodoOk (ren 1 [(1, 1), (2, 2)]) plL_d0 plL_d0 ∧ off = off ∧ n = n ∧ a = a ∧ ari .add .i64 i 1 = ari .add .i64 i 1 ∧ b = b ∧ ty = ty ∧ cs = cs ∧ (39 : TypeId) = (39 : TypeId) ∧ acP ts (intAt cs (off + Int.toNat i * 5)) (intAt cs (off + Int.toNat i * 5 + 1)) (intAt cs (off + Int.toNat i * 5 + 2)) (intAt cs (off + Int.toNat i * 5 + 3)) (intAt cs (off + Int.toNat i * 5 + 4)) = acP ts (intAt cs (off + Int.toNat i * 5)) (intAt cs (off + Int.toNat i * 5 + 1)) (intAt cs (off + Int.toNat i * 5 + 2)) (intAt cs (off + Int.toNat i * 5 + 3)) (intAt cs (off + Int.toNat i * 5 + 4)) ∧ (51 : TypeId) = (51 : TypeId) ∧ acW ts ws (intAt cs (off + Int.toNat i * 5)) (intAt cs (off + Int.toNat i * 5 + 1)) (intAt cs (off + Int.toNat i * 5 + 2)) (intAt cs (off + Int.toNat i * 5 + 3)) (intAt cs (off + Int.toNat i * 5 + 4)) = acW ts ws (intAt cs (off + Int.toNat i * 5)) (intAt cs (off + Int.toNat i * 5 + 1)) (intAt cs (off + Int.toNat i * 5 + 2)) (intAt cs (off + Int.toNat i * 5 + 3)) (intAt cs (off + Int.toNat i * 5 + 4)) ∧ True) ∧ (decide (i < (↑n : Int)) = false → QE ts ws ∧ CallKind.normal = CallKind.normal ∧ TodoOk (ren 1 [(1, 1), (2, 2)]) plE_d0 plE_d0 ∧ a = a ∧ b = b ∧ (39 : TypeId) = (39 : TypeId) ∧ ts = ts ∧ (51 : TypeId) = (51 : TypeId) ∧ ws = ws ∧ True)) := by kernel_rfl
theorem plE (tg ws : Array Value) (a b : Int) : (stepT (EPn tg).go (run (EPn tg) 1000) 1 (plE_F a b tg ws) (plE_M a b tg ws)).vc (isB true) (fun _ _ => False) =
  ((Array.size ws = 448 ∧ True) ∧ (SW tg ws ∧ TbOk tg ∧ (0 ≤ a ∧ a < 4294967296) ∧ True) ∧ (Array.size ws = 448 ∧ True) ∧ (SW tg ws ∧ TbOk tg ∧ (0 ≤ b ∧ b < 4294967296) ∧ True) ∧ (Array.size tg = 448 ∧ True) ∧ (TbOk tg ∧ (0 ≤ IntKind.wrap .u32 (nmA tg a) ∧ IntKind.wrap .u32 (nmA tg a) < 4294967296) ∧ True) ∧ (decide (List.length (kdF tg (IntKind.wrap .u32 (nmA tg a))) = 0) = true → (Array.size ws = 448 ∧ True) ∧ (SW tg ws ∧ TbOk tg ∧ True) ∧ (decide (List.length (kdF tg (nmA tg a)) = 0) = true → tl2 tg ws a b) ∧ (decide (List.length (kdF tg (nmA tg a)) = 0) = false → (((0 : Int) != (↑(List.length (kdF tg (nmA tg a))) : Int)) = true → false = true) ∧ (((0 : Int) != (↑(List.length (kdF tg (nmA tg a))) : Int)) = false → tl2 tg ws a b))) ∧ (decide (List.length (kdF tg (IntKind.wrap .u32 (nmA tg a))) = 0) = false → (Array.size ws = 448 ∧ True) ∧ (SW tg ws ∧ TbOk tg ∧ True) ∧ (decide (List.length (kdF tg (nmA tg a)) = 0) = true → (((↑(List.length (kdF tg (IntKind.wrap .u32 (nmA tg a)))) : Int) != 0) = true → false = true) ∧ (((↑(List.length (kdF tg (IntKind.wrap .u32 (nmA tg a)))) : Int) != 0) = false → (decide ((0 : Int) < (↑(List.length (kdF tg (IntKind.wrap .u32 (nmA tg a)))) : Int)) = true → (((0 : Int) ≤ 0 ∧ (0 : Int) < (↑(List.length (kdF tg (IntKind.wrap .u32 (nmA tg a)))) : Int)) ∧ True) ∧ (IsInt .u32 (u32s (kdF tg (IntKind.wrap .u32 (nmA tg a)))) (0 + 0 * 1) ∧ True) ∧ False) ∧ (decide ((0 : Int) < (↑(List.length (kdF tg (IntKind.wrap .u32 (nmA tg a)))) : Int)) = false → tl2 tg ws a b))) ∧ (decide (List.length (kdF tg (nmA tg a)) = 0) = false → (rEq (u32s (kdF tg (IntKind.wrap .u32 (nmA tg a)))) (i64s (kdF tg (nmA tg a))) (List.length (kdF tg (IntKind.wrap .u32 (nmA tg a)))) (List.length (kdF tg (nmA tg a))) ∧ True) ∧ tl2 tg ws a b))) := by kernel_rfl
theorem conPl_ok (ts : Array Value) : ∀ g l m t, conPl ts g l m = some t → Con E0 g l m t := by
 unfold conPl at h
 ·rename_i us ws; cases h
  refine Con.asked fun hq => Con.args (l' := [tbS us, wtS ws]) (fun R vs ha => by
  exact same_con m A ⟨fun p hp => hq p hp, hs⟩
 ·rename_i us ws d a b c q; cases h
  refine Con.asked fun hq => Con.args (l' := [tbS us, wtS ws, acV d.den a.den b.den c.den q.den]) (fun R vs ha => by
   | [v, w, z], ha => exact ⟨ha.1, ha.2.1, ac_ok ha.2.2.1, trivial⟩) ?_
  exact do_con d.den a.den b.den c.den q.den m A ⟨fun p hp => hq p hp, hs⟩
 ·exact conDo_ok ts _ _ _ _ h
theorem EPl_ok (ts : Array Value) : EnvOk (EPl ts) := EnvOk.with E0_ok _ _ (conPl_ok ts)
theorem EPz_ok (ts : Array Value) : EnvOk (EPz ts) := EnvOk.with E0_ok _ _ (conPl_ok ts)
theorem EPn_ok (ts : Array Value) : EnvOk (EPn ts) := EnvOk.with E0_ok _ _ (conPl_ok ts)
theorem zW_book : ∀ i, i < 64 → vEq (zW[i]?) (some (.int .i64 0)) = true := by decide +kernel
theorem zW_rg : ∀ i, i < 32 → ∀ k, k < 12 → vEq (zW[64 + i * 12 + k]?) ((rwA 0 0 fun _ => 0)[k]?) = true := by decide +kernel
theorem SW_zero : SW zT zW := by
 refine ⟨zW_sz, fun i hi => ?_, fun i hi => ?_, fun i hi hk => ?_, fun i hi _ j hj => vEq_ok (zW_rg i hi j hj)⟩
 ·rw [z_age hi]; exact vEq_ok (zW_book i (by omega))
 ·rw [z_kind hi]; exact vEq_ok (zW_book (32 + i) (by omega))
 ·rw [z_kind hi] at hk; exact absurd hk (by decide)
def ActOk (cs : Array Value) (p : Nat) : Prop := IsInt .u8 cs p ∧ IsInt .u32 cs (p + 1) ∧ IsInt .u32 cs (p + 2) ∧ IsInt .u32 cs (p + 3) ∧ IsInt .i64 cs (p + 4) ∧ (0 ≤ intAt cs p ∧ intAt cs p ≤ 255) ∧ inH (intAt cs (p + 1)) ∧ inH (intAt cs (p + 2)) ∧ inH (intAt cs (p + 3))
def ActsOk (cs : Array Value) (off n : Nat) : Prop := ∀ i, i < n → ActOk cs (off + i * 5)
variable {ts ws : Array Value} {cs : Array Value} {off n : Nat} {ty : TypeId} {a b : Int}
theorem plX_good {A : SV → SMem → Prop} {QL : Int → Array Value → Array Value → Prop} {QE : Array Value → Array Value → Prop} {fs : List SFr} {m : SMem} (hL : ∀ i ts ws, QL i ts ws → Good Tryd.prog A 1 (plL_F off n cs ty a b i ts ws) (plL_M off n cs ty a b i ts ws)) (hE : ∀ ts ws, QE ts ws → Good Tryd.prog A 1 (plE_F a b ts ws) (plE_M a b ts ws)) (hb : plX off n cs ty a b QL QE fs m) : Good Tryd.prog A 1 fs m := by
 unfold plX at hb
 ·exact plL_good hL hb
 ·exact plE_good hE hb
theorem rt_in (hf : FIn ts) (x : Int) : inH (rtF ts x) := by
 unfold rtF
 ·rename_i hg
  have hx := (lv_mem hf.ok).2 hg
  exact lv_in hf.ok (.inr (ch_sub hf.fo x (.inr hx) _ (rt_mem hf.fo x (.inr hx) hx).1))
theorem plE_ok (w : SW ts ws) (hv : FV ts) (ha : inH a) (hb : inH b) : Good Tryd.prog (isB true) 1 (plE_F a b ts ws) (plE_M a b ts ws) := by
 have er := wr64 (rt_in hf (nmA ts a))
 refine past_vc (EPn_ok ts) 1000 (plE ts ws a b) ?_ (fun _ _ h => h) fun _ _ h => h.elim
 have hr : ∀ l : List Int, l.length ≤ 32 → (∀ x ∈ l, x ∈ lvT ts) → rEq (u32s l) (i64s l) l.length l.length := fun l h1 h2 => ⟨l, rfl, rfl, rfl, rfl, h1, fun x hx => lv_in ht (.inr (h2 x hx))⟩
 have hrk := hr (kdF ts (nmA ts a)) (kd_len ts _) fun x hx => (kdF_mem hx).1
 have hru : rEq (u32s (unT ts (nmA ts a))) (i64s (unT ts (nmA ts a))) (unT ts (nmA ts a)).length (unT ts (nmA ts a)).length := by
   have hl := (lv_mem ht).2 g
   have hun : unT ts (nmA ts a) = UNL ts (nmA ts a) := if_pos g
   exact hr _ (by rw [hun]; exact un_32 hf hl) fun x hx => by rw [hun] at hx; exact (un_sub hf.fo _ hl x hx).1
   have e : unT ts (nmA ts a) = [] := by unfold unT; rw [g]; rfl
   exact hr [] (by decide) (fun x hx => by cases hx)
 cases k1 : decide ((kdF ts (nmA ts a)).length = 0) <;> cases k2 : decide ((unT ts (nmA ts a)).length = 0)
 all_goals simp only [tl2, tl1, k1, k2, ex, ey, er, hrk, hru, hs, hw, w, hf, ht, ha', hb', hx', hy', beq_self_eq_true, decide_true, beqT, beqF, q6]
theorem plL_ok (ha : inH a) (hb : inH b) (hn : n ≤ 100) (hA : ActsOk cs off n) : ∀ (r i : Nat), i + r = n → ∀ ts ws, SW ts ws → FV ts → Good Tryd.prog (isB true) 1 (plL_F off n cs ty a b (i : Int) ts ws) (plL_M off n cs ty a b (i : Int) ts ws) := by
  intro i hi ts ws w hv
  obtain rfl : i = n := by omega
  refine past_vc (EPl_ok ts) 1000 (pl1 ts off i cs ty a b _ ts ws (fun _ _ _ => False) (fun us vs => us = ts ∧ vs = ws)) ?_ (fun _ _ h => h) (fun fs m hm => plX_good (fun _ _ _ h => h.elim) (fun us vs ⟨e1, e2⟩ => by rw [e1, e2]; exact plE_ok w hv ha hb) hm)
  have d : decide ((i : Int) < (i : Int)) = false := decide_eq_false (by omega)
  simp only [d, plE_d0_ok, q6]
  intro i hi ts ws w hv
  have hi' : i < n := by omega
  obtain ⟨i0, i1, i2, i3, i4, _, r1, r2, r3⟩ := hA i hi'
  have r1' : 0 ≤ intAt cs (off + i * 5 + 1) ∧ intAt cs (off + i * 5 + 1) < 4294967296 := r1
  have r2' : 0 ≤ intAt cs (off + i * 5 + 2) ∧ intAt cs (off + i * 5 + 2) < 4294967296 := r2
  have r3' : 0 ≤ intAt cs (off + i * 5 + 3) ∧ intAt cs (off + i * 5 + 3) < 4294967296 := r3
  obtain ⟨v1, w1⟩ := ac_f w hv r1 r2 r3 (d := intAt cs (off + i * 5)) (q := intAt cs (off + i * 5 + 4))
  refine past_vc (EPl_ok ts) 1000 (pl1 ts off n cs ty a b (i : Int) ts ws (fun i' us vs => i' = ((i + 1 : Nat) : Int) ∧ SW us vs ∧ FV us) (fun _ _ => False)) ?_ (fun _ _ h => h) (fun fs m hm => plX_good (fun i' us vs ⟨e1, e2, e3⟩ => by rw [e1]; exact ih (i + 1) (by omega) us vs e2 e3) (fun _ _ h => h.elim) hm)
  have d : decide ((i : Int) < (n : Int)) = true := decide_eq_true (by omega)
  have y1 : (i : Int) < (n : Int) := by omega
  have hs := hv.f.ok.sz
  have hw := w.sz
  have s1 := v1.f.ok.sz
  have s2 := w1.sz
  have t1 := v1.f.ok
  simp only [Int.toNat_natCast, d, ei, y0, y1, i0, i1, i2, i3, i4, r1', r2', r3', v1, w1, s1, s2, t1, hs, hw, w, hv, decide_true, plL_d0_ok, q6]
theorem plays_run (ha : inH a) (hb : inH b) (hA : ActsOk cs off n) : Good Tryd.prog (isB true) 1 [callFr 3 Tryd.f3.ntmps [acS off n, u32v a, u32v b] (Tryd.f3.body.getD .skip)] (mkM 1 [(0, ⟨.raw cs, ty, false⟩)]) := by
 refine run_vc (EPl_ok zT) 1000 (pl0 zT off n cs ty a b (fun i us vs => i = ((0 : Nat) : Int) ∧ us = zT ∧ vs = zW ∧ n ≤ 100)) ?_ (fun s m h => h) fun fs m hm => plL_good (fun i us vs ⟨e1, e2, e3, e4⟩ => by rw [e1, e2, e3]; exact plL_ok ha hb e4 hA n 0 (Nat.zero_add _) _ _ SW_zero FV_zero) hm
 by_cases c : n ≤ 100
 ·have d : decide ((n : Int) > 100) = false := decide_eq_false (by omega)
  simp only [d, c, plL_d0_ok, q6]
 ·have d : decide ((n : Int) > 100) = true := decide_eq_true (by omega)
theorem plays_nil (ha : inH a) (hb : inH b) : Good Tryd.prog (isB true) 1 [callFr 3 Tryd.f3.ntmps [eS, u32v a, u32v b] (Tryd.f3.body.getD .skip)] (mkM 1 []) := by
 refine run_vc (EPz_ok zT) 1000 (plZ zT a b (fun us vs => us = zT ∧ vs = zW)) ?_ (fun s m h => h) fun fs m hm => plE_good (fun us vs ⟨e1, e2⟩ => by rw [e1, e2]; exact plE_ok SW_zero FV_zero ha hb) hm
 simp only [and_true, true_and, plE_d0_ok]
end Go.Proofs.YtklhlkdpidkijaaDoor
