/- Of owns: Give, Fly, Freeze, Hold, Drop: contracts. No condition. -/
import Derived.Test.YtldoopjnjlpbpaaDoorMC
import Derived.Test.YtldoopjnjlpbpaaDoorK27
import Derived.Test.YtldoopjnjlpbpaaDoorMB
set_option linter.unusedVariables false
set_option linter.unusedSimpArgs false
namespace Go.Proofs.YtldoopjnjlpbpaaDoor
set_option maxRecDepth 100000
set_option linter.unusedSimpArgs false
set_option linter.unusedVariables false
theorem ow3 {R : Ren} {k t h : SI} {v : Value} (hv : (SV.s (.agg (.ls [.f (.int .u8 k), .f (.int .u8 t), .f (.int .u8 h)]))).ok R v) : (owS k.den t.den h.den).ok R v := by
 obtain ⟨cs, e, h1⟩ := hv
 refine ⟨cs, e, ?_⟩
 have h1 : All2 (SC.ok R) [.f (.int .u8 k), .f (.int .u8 t), .f (.int .u8 h)] cs.toList := h1
 show All2 (SC.ok R) [.f (.int .u8 (.o k.den)), .f (.int .u8 (.o t.den)), .f (.int .u8 (.o h.den))] cs.toList
 revert h1
 generalize cs.toList = l
 intro h1
 match l, h1 with
 | [a0, a1, a2], h1 => exact h1
theorem conP1_ok : ∀ g l m t, conP1 g l m = some t → Con E0 g l m t := by
 intro g l m t h
 unfold conP1 at h
 split at h
 ·rename_i os ts x; cases h
  refine Con.asked fun hq => Con.args (l' := [osS os, tbS ts, u32 x.den]) (fun R vs ha => by
   match vs, ha with
   | [v, w, z], ha => exact ⟨ha.1, ha.2.1, ha.2.2.1, trivial⟩) ?_
  intro A hs
  exact of_con x.den m A ⟨fun p hp => hq p hp, hs⟩
 ·rename_i ts x; cases h
  refine Con.asked fun hq => Con.args (l' := [tbS ts, u32 x.den]) (fun R vs ha => by
   match vs, ha with
   | [v, w], ha => exact ⟨ha.1, ha.2.1, trivial⟩) ?_
  intro A hs
  exact mr_con x.den m A ⟨fun p hp => hq p hp, hs⟩
 ·rename_i x; cases h
  refine Con.args (l' := [i64 (.o x.den)]) (fun R vs ha => by
   match vs, ha with
   | [v], ha => exact ⟨ha.1, trivial⟩) ?_
  exact mt_con x.den m
 ·rename_i a b x n; cases h
  refine Con.args (l' := [owS a.den b.den x.den, i64 (.o n.den)]) (fun R vs ha => by
   match vs, ha with
   | [v, w], ha => exact ⟨ow3 ha.1, ha.2.1, trivial⟩) ?_
  exact ho_con a.den b.den x.den n.den m
 ·rename_i os r k t x; cases h
  refine Con.asked fun hq => Con.args (l' := [osS os, u32 r.den, owS k.den t.den x.den]) (fun R vs ha => by
   match vs, ha with
   | [v, w, z], ha => exact ⟨ha.1, ha.2.1, ow3 ha.2.2.1, trivial⟩) ?_
  intro A hs
  exact say_con r.den k.den t.den x.den m A ⟨fun p hp => hq p hp, hs⟩
 ·rename_i x; cases h
  refine Con.asked fun hq => Con.args (l' := [.s (.c (.f (.int .u8 (.o x.den))))]) (fun R vs ha => by
   match vs, ha with
   | [v], ha => exact ⟨ha.1, trivial⟩) ?_
  intro A hs
  exact oc_con x.den m A ⟨fun p hp => hq p hp, hs⟩
 ·exact conP0_ok _ _ _ _ h
theorem EP1_ok : EnvOk EP1 := EnvOk.with E0_ok _ _ conP1_ok
section
variable {os ts : Array Value}
theorem sl_32 {r : Int} (hr : inH r) : sl r < 32 := by
 have := slotI_lt hr
 unfold sl
 omega
theorem say_sz (ho : OsOk os) {r : Int} (hr : inH r) (k t h : Int) : (sayT os r k t h).size = 128 := by
 have := sl_32 hr
 have hs := ho.sz
 unfold sayT
 rw [putAt_size (by rw [hs]; simp only [List.length_cons, List.length_nil]; omega)]
 exact hs
theorem u8_w (x : Int) : 0 ≤ IntKind.u8.wrap x ∧ IntKind.u8.wrap x ≤ 255 := by
 have h1 : IntKind.u8.wrap x = x % 256 := by first | rfl | (simp only [IntKind.wrap]; rfl)
 rw [h1]
 omega
theorem andN_in (x y : Int) : 0 ≤ ari .andNot .u8 x y ∧ ari .andNot .u8 x y ≤ 255 := by rw [ari_andNot]; exact u8_w _
def gvE (ts : Array Value) (h t : Int) : Int := if mrE ts h ≠ 0 then mrE ts h else mtE t
def gvT (os ts : Array Value) (h t : Int) : Array Value := if gvE ts h t = 0 then sayT os h 1 (IntKind.u8.wrap t) 0 else os
def frT (os ts : Array Value) (h t : Int) : Array Value := if gvE ts h t = 0 then sayT os h 3 0 (ari .shl .u8 1 t) else os
def fyT (os ts : Array Value) (h : Int) : Array Value := if mrE ts h = 0 then sayT os h 2 0 0 else os
def hdE (os ts : Array Value) (h t : Int) : Int := if mrE ts h ≠ 0 then mrE ts h else if ofK os ts h ≠ 3 then 12 else if mtE t ≠ 0 then mtE t else if hoB (ofH os ts h) t = true then 7 else 0
def hdT (os ts : Array Value) (h t : Int) : Array Value := if hdE os ts h t = 0 then sayT os h (ofK os ts h) (ofT os ts h) (ari .or .u8 (ofH os ts h) (ari .shl .u8 1 t)) else os
def odE (os ts : Array Value) (h t : Int) : Int := if mrE ts h ≠ 0 then mrE ts h else if ofK os ts h ≠ 3 then 12 else if mtE t ≠ 0 then mtE t else if hoB (ofH os ts h) t = true then 0 else 5
def odT (os ts : Array Value) (h t : Int) : Array Value := if odE os ts h t = 0 then sayT os h (ofK os ts h) (ofT os ts h) (ari .andNot .u8 (ofH os ts h) (ari .shl .u8 1 t)) else os
def odN (os ts : Array Value) (h t : Int) : Int := if odE os ts h t = 0 then oc8 (ari .andNot .u8 (ofH os ts h) (ari .shl .u8 1 t)) else 0
theorem mt_0 {t : Int} (h : mtE t = 0) : 0 ≤ t ∧ t < 8 := by
 unfold mtE at h
 split at h
 ·rename_i k; exact k
 ·exact absurd h (by decide)
theorem give_con (h t : Int) (m : SMem) : Con E0 12 [osS os, tbS ts, u32 h, i64 (.o t)] m (needs [OsOk os, FIn ts, inH h] (.ret (opS (gvT os ts h t) (gvE ts h t)) m)) := by
 refine Con.pure E0_ok (by kernel_rfl : E0.fn 12 = some Tryd.f12) (by kernel_rfl : Tryd.f12.body = some (Tryd.f12.body.getD .skip)) (by kernel_rfl) (by kernel_rfl) fun hq => ?_
 have ho : OsOk os := hq _ (by simp)
 have hf : FIn ts := hq _ (by simp)
 have hh : inH h := hq _ (by simp)
 have hh' : 0 ≤ h ∧ h < 4294967296 := hh
 have hs := ho.sz
 have hts := hf.ok.sz
 refine (Good.ret [] (run_vc EP1_ok 1000 (gi0 os ts h t (gvT os ts h t) (gvE ts h t)) ?_ (fun s m h => h) fun _ _ h => h.elim)).mono fun _ _ h => h.1
 by_cases c1 : mrE ts h = 0
 ·have d1 : (mrE ts h != 0) = false := by rw [c1]; rfl
  by_cases c2 : mtE t = 0
  ·have d2 : (mtE t != 0) = false := by rw [c2]; rfl
   have e : gvE ts h t = 0 := by unfold gvE; rw [if_neg (fun k => k c1), c2]
   have e2 : gvT os ts h t = sayT os h 1 (IntKind.u8.wrap t) 0 := by unfold gvT; rw [if_pos e]
   have sz := say_sz ho hh 1 (IntKind.u8.wrap t) 0
   have y := (mt_0 c2).1
   simp only [e, e2, d1, d2, sz, y, hs, ho, hf, hts, hh', true_implies, Bool.true_eq_false, Bool.false_eq_true, false_implies, and_true, true_and]
  ·have d2 : (mtE t != 0) = true := bne_iff_ne.2 c2
   have e : gvE ts h t = mtE t := by unfold gvE; rw [if_neg (fun k => k c1)]
   have e2 : gvT os ts h t = os := by unfold gvT; rw [if_neg (by rw [e]; exact c2)]
   simp only [e, e2, d1, d2, hs, ho, hf, hts, hh', true_implies, Bool.true_eq_false, Bool.false_eq_true, false_implies, and_true, true_and]
 ·have d1 : (mrE ts h != 0) = true := bne_iff_ne.2 c1
  have e : gvE ts h t = mrE ts h := by unfold gvE; rw [if_pos c1]
  have e2 : gvT os ts h t = os := by unfold gvT; rw [if_neg (by rw [e]; exact c1)]
  simp only [e, e2, d1, hs, ho, hf, hts, hh', true_implies, Bool.true_eq_false, Bool.false_eq_true, false_implies, and_true, true_and]
theorem freeze_con (h t : Int) (m : SMem) : Con E0 13 [osS os, tbS ts, u32 h, i64 (.o t)] m (needs [OsOk os, FIn ts, inH h] (.ret (opS (frT os ts h t) (gvE ts h t)) m)) := by
 refine Con.pure E0_ok (by kernel_rfl : E0.fn 13 = some Tryd.f13) (by kernel_rfl : Tryd.f13.body = some (Tryd.f13.body.getD .skip)) (by kernel_rfl) (by kernel_rfl) fun hq => ?_
 have ho : OsOk os := hq _ (by simp)
 have hf : FIn ts := hq _ (by simp)
 have hh : inH h := hq _ (by simp)
 have hh' : 0 ≤ h ∧ h < 4294967296 := hh
 have hs := ho.sz
 have hts := hf.ok.sz
 refine (Good.ret [] (run_vc EP1_ok 1000 (fr0 os ts h t (frT os ts h t) (gvE ts h t)) ?_ (fun s m h => h) fun _ _ h => h.elim)).mono fun _ _ h => h.1
 by_cases c1 : mrE ts h = 0
 ·have d1 : (mrE ts h != 0) = false := by rw [c1]; rfl
  by_cases c2 : mtE t = 0
  ·have d2 : (mtE t != 0) = false := by rw [c2]; rfl
   have e : gvE ts h t = 0 := by unfold gvE; rw [if_neg (fun k => k c1), c2]
   have e2 : frT os ts h t = sayT os h 3 0 (ari .shl .u8 1 t) := by unfold frT; rw [if_pos e]
   have sz := say_sz ho hh 3 0 (ari .shl .u8 1 t)
   have y := (mt_0 c2).1
   simp only [e, e2, d1, d2, sz, y, hs, ho, hf, hts, hh', true_implies, Bool.true_eq_false, Bool.false_eq_true, false_implies, and_true, true_and]
  ·have d2 : (mtE t != 0) = true := bne_iff_ne.2 c2
   have e : gvE ts h t = mtE t := by unfold gvE; rw [if_neg (fun k => k c1)]
   have e2 : frT os ts h t = os := by unfold frT; rw [if_neg (by rw [e]; exact c2)]
   simp only [e, e2, d1, d2, hs, ho, hf, hts, hh', true_implies, Bool.true_eq_false, Bool.false_eq_true, false_implies, and_true, true_and]
 ·have d1 : (mrE ts h != 0) = true := bne_iff_ne.2 c1
  have e : gvE ts h t = mrE ts h := by unfold gvE; rw [if_pos c1]
  have e2 : frT os ts h t = os := by unfold frT; rw [if_neg (by rw [e]; exact c1)]
  simp only [e, e2, d1, hs, ho, hf, hts, hh', true_implies, Bool.true_eq_false, Bool.false_eq_true, false_implies, and_true, true_and]
theorem fly_con (h : Int) (m : SMem) : Con E0 14 [osS os, tbS ts, u32 h] m (needs [OsOk os, FIn ts, inH h] (.ret (opS (fyT os ts h) (mrE ts h)) m)) := by
 refine Con.pure E0_ok (by kernel_rfl : E0.fn 14 = some Tryd.f14) (by kernel_rfl : Tryd.f14.body = some (Tryd.f14.body.getD .skip)) (by kernel_rfl) (by kernel_rfl) fun hq => ?_
 have ho : OsOk os := hq _ (by simp)
 have hf : FIn ts := hq _ (by simp)
 have hh : inH h := hq _ (by simp)
 have hh' : 0 ≤ h ∧ h < 4294967296 := hh
 have hs := ho.sz
 have hts := hf.ok.sz
 refine (Good.ret [] (run_vc EP1_ok 1000 (fl0 os ts h (fyT os ts h) (mrE ts h)) ?_ (fun s m h => h) fun _ _ h => h.elim)).mono fun _ _ h => h.1
 by_cases c1 : mrE ts h = 0
 ·have d1 : (mrE ts h != 0) = false := by rw [c1]; rfl
  have e2 : fyT os ts h = sayT os h 2 0 0 := by unfold fyT; rw [if_pos c1]
  have sz := say_sz ho hh 2 0 0
  simp only [e2, d1, sz, hs, ho, hf, hts, hh', true_implies, Bool.true_eq_false, Bool.false_eq_true, false_implies, and_true, true_and]
  exact c1
 ·have d1 : (mrE ts h != 0) = true := bne_iff_ne.2 c1
  have e2 : fyT os ts h = os := by unfold fyT; rw [if_neg c1]
  simp only [e2, d1, hs, ho, hf, hts, hh', true_implies, Bool.true_eq_false, Bool.false_eq_true, false_implies, and_true, true_and]
theorem ohold_con (h t : Int) (m : SMem) : Con E0 15 [osS os, tbS ts, u32 h, i64 (.o t)] m (needs [OsOk os, FIn ts, inH h] (.ret (opS (hdT os ts h t) (hdE os ts h t)) m)) := by
 refine Con.pure E0_ok (by kernel_rfl : E0.fn 15 = some Tryd.f15) (by kernel_rfl : Tryd.f15.body = some (Tryd.f15.body.getD .skip)) (by kernel_rfl) (by kernel_rfl) fun hq => ?_
 have ho : OsOk os := hq _ (by simp)
 have hf : FIn ts := hq _ (by simp)
 have hh : inH h := hq _ (by simp)
 have hh' : 0 ≤ h ∧ h < 4294967296 := hh
 have hs := ho.sz
 have hts := hf.ok.sz
 refine (Good.ret [] (run_vc EP1_ok 1000 (hd0 os ts h t (hdT os ts h t) (hdE os ts h t)) ?_ (fun s m h => h) fun _ _ h => h.elim)).mono fun _ _ h => h.1
 cases d3 : (ofK os ts h != 3) <;> by_cases c1 : mrE ts h = 0
 ·have d1 : (mrE ts h != 0) = false := by rw [c1]; rfl
  have k3 : ofK os ts h = 3 := by simpa using d3
  by_cases c2 : mtE t = 0
  ·have d2 : (mtE t != 0) = false := by rw [c2]; rfl
   have y := (mt_0 c2).1
   cases d4 : hoB (ofH os ts h) t with
   | true =>
    have e : hdE os ts h t = 7 := by unfold hdE; rw [if_neg (fun k => k c1), if_neg (fun k => k k3), if_neg (fun k => k c2), if_pos d4]
    have e2 : hdT os ts h t = os := by unfold hdT; rw [if_neg (by rw [e]; decide)]
    simp only [e, e2, d1, d2, d3, d4, y, hs, ho, hf, hts, hh', Bool.not_true, Bool.not_false, true_implies, Bool.true_eq_false, Bool.false_eq_true, false_implies, and_true, true_and]
   | false =>
    have e : hdE os ts h t = 0 := by unfold hdE; rw [if_neg (fun k => k c1), if_neg (fun k => k k3), if_neg (fun k => k c2), if_neg (by rw [d4]; simp)]
    have e2 : hdT os ts h t = sayT os h (ofK os ts h) (ofT os ts h) (ari .or .u8 (ofH os ts h) (ari .shl .u8 1 t)) := by unfold hdT; rw [if_pos e]
    have sz := say_sz ho hh (ofK os ts h) (ofT os ts h) (ari .or .u8 (ofH os ts h) (ari .shl .u8 1 t))
    simp only [e, e2, d1, d2, d3, d4, y, sz, hs, ho, hf, hts, hh', Bool.not_true, Bool.not_false, true_implies, Bool.true_eq_false, Bool.false_eq_true, false_implies, and_true, true_and]
  ·have d2 : (mtE t != 0) = true := bne_iff_ne.2 c2
   have e : hdE os ts h t = mtE t := by unfold hdE; rw [if_neg (fun k => k c1), if_neg (fun k => k k3), if_pos c2]
   have e2 : hdT os ts h t = os := by unfold hdT; rw [if_neg (by rw [e]; exact c2)]
   simp only [e, e2, d1, d2, d3, hs, ho, hf, hts, hh', Bool.not_true, Bool.not_false, true_implies, Bool.true_eq_false, Bool.false_eq_true, false_implies, and_true, true_and]
 ·have d1 : (mrE ts h != 0) = true := bne_iff_ne.2 c1
  have e : hdE os ts h t = mrE ts h := by unfold hdE; rw [if_pos c1]
  have e2 : hdT os ts h t = os := by unfold hdT; rw [if_neg (by rw [e]; exact c1)]
  simp only [e, e2, d1, d3, hs, ho, hf, hts, hh', Bool.not_true, Bool.not_false, true_implies, Bool.true_eq_false, Bool.false_eq_true, false_implies, and_true, true_and]
 ·have d1 : (mrE ts h != 0) = false := by rw [c1]; rfl
  have k3 : ofK os ts h ≠ 3 := bne_iff_ne.1 d3
  have e : hdE os ts h t = 12 := by unfold hdE; rw [if_neg (fun k => k c1), if_pos k3]
  have e2 : hdT os ts h t = os := by unfold hdT; rw [if_neg (by rw [e]; decide)]
  simp only [e, e2, d1, d3, hs, ho, hf, hts, hh', Bool.not_true, Bool.not_false, true_implies, Bool.true_eq_false, Bool.false_eq_true, false_implies, and_true, true_and]
 ·have d1 : (mrE ts h != 0) = true := bne_iff_ne.2 c1
  have e : hdE os ts h t = mrE ts h := by unfold hdE; rw [if_pos c1]
  have e2 : hdT os ts h t = os := by unfold hdT; rw [if_neg (by rw [e]; exact c1)]
  simp only [e, e2, d1, d3, hs, ho, hf, hts, hh', Bool.not_true, Bool.not_false, true_implies, Bool.true_eq_false, Bool.false_eq_true, false_implies, and_true, true_and]
theorem odrop_con (h t : Int) (m : SMem) : Con E0 16 [osS os, tbS ts, u32 h, i64 (.o t)] m (needs [OsOk os, FIn ts, inH h] (.ret (opS3 (odT os ts h t) (odN os ts h t) (odE os ts h t)) m)) := by
 refine Con.pure E0_ok (by kernel_rfl : E0.fn 16 = some Tryd.f16) (by kernel_rfl : Tryd.f16.body = some (Tryd.f16.body.getD .skip)) (by kernel_rfl) (by kernel_rfl) fun hq => ?_
 have ho : OsOk os := hq _ (by simp)
 have hf : FIn ts := hq _ (by simp)
 have hh : inH h := hq _ (by simp)
 have hh' : 0 ≤ h ∧ h < 4294967296 := hh
 have hs := ho.sz
 have hts := hf.ok.sz
 refine (Good.ret [] (run_vc EP1_ok 1000 (dr0 os ts h t (odT os ts h t) (odN os ts h t) (odE os ts h t)) ?_ (fun s m h => h) fun _ _ h => h.elim)).mono fun _ _ h => h.1
 cases d3 : (ofK os ts h != 3) <;> by_cases c1 : mrE ts h = 0
 ·have d1 : (mrE ts h != 0) = false := by rw [c1]; rfl
  have k3 : ofK os ts h = 3 := by simpa using d3
  by_cases c2 : mtE t = 0
  ·have d2 : (mtE t != 0) = false := by rw [c2]; rfl
   have y := (mt_0 c2).1
   cases d4 : hoB (ofH os ts h) t with
   | false =>
    have e : odE os ts h t = 5 := by unfold odE; rw [if_neg (fun k => k c1), if_neg (fun k => k k3), if_neg (fun k => k c2), if_neg (by rw [d4]; simp)]
    have e2 : odT os ts h t = os := by unfold odT; rw [if_neg (by rw [e]; decide)]
    have e3 : odN os ts h t = 0 := by unfold odN; rw [if_neg (by rw [e]; decide)]
    simp only [e, e2, e3, d1, d2, d3, d4, y, hs, ho, hf, hts, hh', Bool.not_true, Bool.not_false, true_implies, Bool.true_eq_false, Bool.false_eq_true, false_implies, and_true, true_and]
   | true =>
    have e : odE os ts h t = 0 := by unfold odE; rw [if_neg (fun k => k c1), if_neg (fun k => k k3), if_neg (fun k => k c2), if_pos d4]
    have e2 : odT os ts h t = sayT os h (ofK os ts h) (ofT os ts h) (ari .andNot .u8 (ofH os ts h) (ari .shl .u8 1 t)) := by unfold odT; rw [if_pos e]
    have e3 : odN os ts h t = oc8 (ari .andNot .u8 (ofH os ts h) (ari .shl .u8 1 t)) := by unfold odN; rw [if_pos e]
    have ai := andN_in (ofH os ts h) (ari .shl .u8 1 t)
    have sz := say_sz ho hh (ofK os ts h) (ofT os ts h) (ari .andNot .u8 (ofH os ts h) (ari .shl .u8 1 t))
    simp only [e, e2, e3, ai, d1, d2, d3, d4, y, sz, hs, ho, hf, hts, hh', Bool.not_true, Bool.not_false, true_implies, Bool.true_eq_false, Bool.false_eq_true, false_implies, and_true, true_and]
  ·have d2 : (mtE t != 0) = true := bne_iff_ne.2 c2
   have e : odE os ts h t = mtE t := by unfold odE; rw [if_neg (fun k => k c1), if_neg (fun k => k k3), if_pos c2]
   have e2 : odT os ts h t = os := by unfold odT; rw [if_neg (by rw [e]; exact c2)]
   have e3 : odN os ts h t = 0 := by unfold odN; rw [if_neg (by rw [e]; exact c2)]
   simp only [e, e2, e3, d1, d2, d3, hs, ho, hf, hts, hh', Bool.not_true, Bool.not_false, true_implies, Bool.true_eq_false, Bool.false_eq_true, false_implies, and_true, true_and]
 ·have d1 : (mrE ts h != 0) = true := bne_iff_ne.2 c1
  have e : odE os ts h t = mrE ts h := by unfold odE; rw [if_pos c1]
  have e2 : odT os ts h t = os := by unfold odT; rw [if_neg (by rw [e]; exact c1)]
  have e3 : odN os ts h t = 0 := by unfold odN; rw [if_neg (by rw [e]; exact c1)]
  simp only [e, e2, e3, d1, d3, hs, ho, hf, hts, hh', Bool.not_true, Bool.not_false, true_implies, Bool.true_eq_false, Bool.false_eq_true, false_implies, and_true, true_and]
 ·have d1 : (mrE ts h != 0) = false := by rw [c1]; rfl
  have k3 : ofK os ts h ≠ 3 := bne_iff_ne.1 d3
  have e : odE os ts h t = 12 := by unfold odE; rw [if_neg (fun k => k c1), if_pos k3]
  have e2 : odT os ts h t = os := by unfold odT; rw [if_neg (by rw [e]; decide)]
  have e3 : odN os ts h t = 0 := by unfold odN; rw [if_neg (by rw [e]; decide)]
  simp only [e, e2, e3, d1, d3, hs, ho, hf, hts, hh', Bool.not_true, Bool.not_false, true_implies, Bool.true_eq_false, Bool.false_eq_true, false_implies, and_true, true_and]
 ·have d1 : (mrE ts h != 0) = true := bne_iff_ne.2 c1
  have e : odE os ts h t = mrE ts h := by unfold odE; rw [if_pos c1]
  have e2 : odT os ts h t = os := by unfold odT; rw [if_neg (by rw [e]; exact c1)]
  have e3 : odN os ts h t = 0 := by unfold odN; rw [if_neg (by rw [e]; exact c1)]
  simp only [e, e2, e3, d1, d3, hs, ho, hf, hts, hh', Bool.not_true, Bool.not_false, true_implies, Bool.true_eq_false, Bool.false_eq_true, false_implies, and_true, true_and]
end
end Go.Proofs.YtldoopjnjlpbpaaDoor
/- Of owns: Roots, Held: states. No condition. -/
namespace Go.Proofs.YtldoopjnjlpbpaaDoor
set_option linter.unusedVariables false
noncomputable def ERo : Env := ⟨Tryd.prog, fnOf, conP1, haltAt [41 * 1000 + 3]⟩
noncomputable def ERb : Env := ⟨Tryd.prog, fnOf, conP1, haltAt [41 * 1000 + 4]⟩
noncomputable def nilR (s : SV) (_ : SMem) : Prop := match s with | .s (.c (.f (.lit (.slice none 0 0)))) => True | _ => False
noncomputable def freshR (k : Nat) (cs : Array Value) (s : SV) (m : SMem) : Prop := match s with | .s (.c (.f (.slice id (.l 0) (.o n) (.full 1)))) => (match getB m.bl id with | some ⟨.pop ds, ty, true⟩ => Nat.ble 1 id = true ∧ n = k ∧ ds = cs ∧ ty = 30 | _ => False) | _ => False
noncomputable def rkM (k : Int) : SMem := mkM 1 [(0, ⟨.ls [.f (.int .i64 (.o k))], 3, false⟩)]
noncomputable def aC : SV := .s (.c (.fn (.func 42) [] [.ptr 0 (.l 0)]))
noncomputable def aZ_d0 : List SIt := sekF Tryd.f41 3
noncomputable def aZ_F (os : Array Value) (ts : Array Value) (kk : Int) (n : Nat) (rs : Array Value) (i : Int) : List SFr := [frOf 41 Tryd.f41 [(2, aC), (3, ptr 1 (.l 0)), (4, ptr 2 (.l 0)), (7, nlS), (11, slS 3 n), (12, i64 (.o (n : Int))), (13, i64 (.o i))] aZ_d0]
noncomputable def aZ_M (os : Array Value) (ts : Array Value) (kk : Int) (n : Nat) (rs : Array Value) (i : Int) : SMem := mkM 4 [(0, ⟨.ls [.f (.int .i64 (.o kk))], 3, false⟩), (1, ⟨.op os, 46, true⟩), (2, ⟨.op ts, 39, true⟩), (3, ⟨.pop rs, 30, true⟩)]
noncomputable def aZ_n (os : Array Value) (ts : Array Value) (kk : Int) (n : Nat) (rs : Array Value) (Q : Int → Prop) (fs : List SFr) (m : SMem) : Prop := (match frNth fs 0 with | some f0 => (match rdI f0 13 with | some i => (match rdP f0 3 with | some p1 => (match rdP f0 4 with | some p2 => (match rdSI f0 11 with | some p3 => Q i ∧ subOk 1 [(1, p1), (2, p2), (3, p3)] (aZ_F os ts kk n rs i) (aZ_M os ts kk n rs i) fs m | none => False) | none => False) | none => False) | none => False) | none => False)
noncomputable def aS_d0 : List SIt := sekF Tryd.f41 3
noncomputable def aS_F (os : Array Value) (ts : Array Value) (kk : Int) (n : Nat) (rs : Array Value) (i : Int) (k : Nat) (cs : Array Value) : List SFr := [frOf 41 Tryd.f41 [(2, aC), (3, ptr 1 (.l 0)), (4, ptr 2 (.l 0)), (7, slS 4 k), (11, slS 3 n), (12, i64 (.o (n : Int))), (13, i64 (.o i))] aS_d0]
noncomputable def aS_M (os : Array Value) (ts : Array Value) (kk : Int) (n : Nat) (rs : Array Value) (i : Int) (k : Nat) (cs : Array Value) : SMem := mkM 5 [(0, ⟨.ls [.f (.int .i64 (.o kk))], 3, false⟩), (1, ⟨.op os, 46, true⟩), (2, ⟨.op ts, 39, true⟩), (3, ⟨.pop rs, 30, true⟩), (4, ⟨.pop cs, 30, true⟩)]
noncomputable def aS_n (os : Array Value) (ts : Array Value) (kk : Int) (n : Nat) (rs : Array Value) (Q : Int → Nat → Array Value → Prop) (fs : List SFr) (m : SMem) : Prop := (match frNth fs 0 with | some f0 => (match rdI f0 13 with | some i => (match rdP f0 3 with | some p1 => (match rdP f0 4 with | some p2 => (match rdSI f0 11 with | some p3 => (match rdSI f0 7 with | some p4 => (match rdSN f0 7 with | some k => (match rdA m p4 with | some cs => Q i k cs ∧ subOk 1 [(1, p1), (2, p2), (3, p3), (4, p4)] (aS_F os ts kk n rs i k cs) (aS_M os ts kk n rs i k cs) fs m | none => False) | none => False) | none => False) | none => False) | none => False) | none => False) | none => False) | none => False)
noncomputable def aZS (os ts : Array Value) (kk : Int) (n : Nat) (rs : Array Value) (QZ : Int → Prop) (QS : Int → Nat → Array Value → Prop) (fs : List SFr) (m : SMem) : Prop := match fs with | f :: _ => (match f.tm.get 7 with | some (.s (.c (.f (.slice _ _ _ _)))) => aS_n os ts kk n rs QS fs m | _ => aZ_n os ts kk n rs QZ fs m) | [] => False
noncomputable def aT0 (os ts : Array Value) (kk : Int) : Tree := run ERo 1000 1 [callFr 41 Tryd.f41.ntmps [osS os, tbS ts, aC] (Tryd.f41.body.getD .skip)] (rkM kk)
noncomputable def bC : SV := .s (.c (.fn (.func 43) [] [.ptr 0 (.l 0)]))
noncomputable def bZ_d0 : List SIt := sekF Tryd.f41 3
noncomputable def bZ_F (os : Array Value) (ts : Array Value) (kk : Int) (n : Nat) (rs : Array Value) (i : Int) : List SFr := [frOf 41 Tryd.f41 [(2, bC), (3, ptr 1 (.l 0)), (4, ptr 2 (.l 0)), (7, nlS), (11, slS 3 n), (12, i64 (.o (n : Int))), (13, i64 (.o i))] bZ_d0]
noncomputable def bZ_M (os : Array Value) (ts : Array Value) (kk : Int) (n : Nat) (rs : Array Value) (i : Int) : SMem := mkM 4 [(0, ⟨.ls [.f (.int .i64 (.o kk))], 3, false⟩), (1, ⟨.op os, 46, true⟩), (2, ⟨.op ts, 39, true⟩), (3, ⟨.pop rs, 30, true⟩)]
noncomputable def bZ_n (os : Array Value) (ts : Array Value) (kk : Int) (n : Nat) (rs : Array Value) (Q : Int → Prop) (fs : List SFr) (m : SMem) : Prop := (match frNth fs 0 with | some f0 => (match rdI f0 13 with | some i => (match rdP f0 3 with | some p1 => (match rdP f0 4 with | some p2 => (match rdSI f0 11 with | some p3 => Q i ∧ subOk 1 [(1, p1), (2, p2), (3, p3)] (bZ_F os ts kk n rs i) (bZ_M os ts kk n rs i) fs m | none => False) | none => False) | none => False) | none => False) | none => False)
noncomputable def bS_d0 : List SIt := sekF Tryd.f41 3
noncomputable def bS_F (os : Array Value) (ts : Array Value) (kk : Int) (n : Nat) (rs : Array Value) (i : Int) (k : Nat) (cs : Array Value) : List SFr := [frOf 41 Tryd.f41 [(2, bC), (3, ptr 1 (.l 0)), (4, ptr 2 (.l 0)), (7, slS 4 k), (11, slS 3 n), (12, i64 (.o (n : Int))), (13, i64 (.o i))] bS_d0]
noncomputable def bS_M (os : Array Value) (ts : Array Value) (kk : Int) (n : Nat) (rs : Array Value) (i : Int) (k : Nat) (cs : Array Value) : SMem := mkM 5 [(0, ⟨.ls [.f (.int .i64 (.o kk))], 3, false⟩), (1, ⟨.op os, 46, true⟩), (2, ⟨.op ts, 39, true⟩), (3, ⟨.pop rs, 30, true⟩), (4, ⟨.pop cs, 30, true⟩)]
noncomputable def bS_n (os : Array Value) (ts : Array Value) (kk : Int) (n : Nat) (rs : Array Value) (Q : Int → Nat → Array Value → Prop) (fs : List SFr) (m : SMem) : Prop := (match frNth fs 0 with | some f0 => (match rdI f0 13 with | some i => (match rdP f0 3 with | some p1 => (match rdP f0 4 with | some p2 => (match rdSI f0 11 with | some p3 => (match rdSI f0 7 with | some p4 => (match rdSN f0 7 with | some k => (match rdA m p4 with | some cs => Q i k cs ∧ subOk 1 [(1, p1), (2, p2), (3, p3), (4, p4)] (bS_F os ts kk n rs i k cs) (bS_M os ts kk n rs i k cs) fs m | none => False) | none => False) | none => False) | none => False) | none => False) | none => False) | none => False) | none => False)
noncomputable def bZS (os ts : Array Value) (kk : Int) (n : Nat) (rs : Array Value) (QZ : Int → Prop) (QS : Int → Nat → Array Value → Prop) (fs : List SFr) (m : SMem) : Prop := match fs with | f :: _ => (match f.tm.get 7 with | some (.s (.c (.f (.slice _ _ _ _)))) => bS_n os ts kk n rs QS fs m | _ => bZ_n os ts kk n rs QZ fs m) | [] => False
noncomputable def bT0 (os ts : Array Value) (kk : Int) : Tree := run ERo 1000 1 [callFr 41 Tryd.f41.ntmps [osS os, tbS ts, bC] (Tryd.f41.body.getD .skip)] (rkM kk)
theorem aZ_d0_ok (r : Nat → Option Nat) : TodoOk r aZ_d0 aZ_d0 := TodoOk.it (by kernel_rfl)
theorem aS_d0_ok (r : Nat → Option Nat) : TodoOk r aS_d0 aS_d0 := TodoOk.it (by kernel_rfl)
theorem bZ_d0_ok (r : Nat → Option Nat) : TodoOk r bZ_d0 bZ_d0 := TodoOk.it (by kernel_rfl)
theorem bS_d0_ok (r : Nat → Option Nat) : TodoOk r bS_d0 bS_d0 := TodoOk.it (by kernel_rfl)
theorem aZ_good {A : SV → SMem → Prop} {os : Array Value} {ts : Array Value} {kk : Int} {n : Nat} {rs : Array Value} {Q : Int → Prop} {fs : List SFr} {m : SMem} (H : ∀ i, Q i → Good Tryd.prog A 1 (aZ_F os ts kk n rs i) (aZ_M os ts kk n rs i)) (hb : aZ_n os ts kk n rs Q fs m) : Good Tryd.prog A 1 fs m := by
 unfold aZ_n at hb
 split at hb
 rotate_left
 ·exact hb.elim
 split at hb
 rotate_left
 ·exact hb.elim
 split at hb
 rotate_left
 ·exact hb.elim
 split at hb
 rotate_left
 ·exact hb.elim
 split at hb
 rotate_left
 ·exact hb.elim
 exact Good.of_sub hb.2 (H _ hb.1)
theorem aS_good {A : SV → SMem → Prop} {os : Array Value} {ts : Array Value} {kk : Int} {n : Nat} {rs : Array Value} {Q : Int → Nat → Array Value → Prop} {fs : List SFr} {m : SMem} (H : ∀ i k cs, Q i k cs → Good Tryd.prog A 1 (aS_F os ts kk n rs i k cs) (aS_M os ts kk n rs i k cs)) (hb : aS_n os ts kk n rs Q fs m) : Good Tryd.prog A 1 fs m := by
 unfold aS_n at hb
 split at hb
 rotate_left
 ·exact hb.elim
 split at hb
 rotate_left
 ·exact hb.elim
 split at hb
 rotate_left
 ·exact hb.elim
 split at hb
 rotate_left
 ·exact hb.elim
 split at hb
 rotate_left
 ·exact hb.elim
 split at hb
 rotate_left
 ·exact hb.elim
 split at hb
 rotate_left
 ·exact hb.elim
 split at hb
 rotate_left
 ·exact hb.elim
 exact Good.of_sub hb.2 (H _ _ _ hb.1)
theorem bZ_good {A : SV → SMem → Prop} {os : Array Value} {ts : Array Value} {kk : Int} {n : Nat} {rs : Array Value} {Q : Int → Prop} {fs : List SFr} {m : SMem} (H : ∀ i, Q i → Good Tryd.prog A 1 (bZ_F os ts kk n rs i) (bZ_M os ts kk n rs i)) (hb : bZ_n os ts kk n rs Q fs m) : Good Tryd.prog A 1 fs m := by
 unfold bZ_n at hb
 split at hb
 rotate_left
 ·exact hb.elim
 split at hb
 rotate_left
 ·exact hb.elim
 split at hb
 rotate_left
 ·exact hb.elim
 split at hb
 rotate_left
 ·exact hb.elim
 split at hb
 rotate_left
 ·exact hb.elim
 exact Good.of_sub hb.2 (H _ hb.1)
theorem bS_good {A : SV → SMem → Prop} {os : Array Value} {ts : Array Value} {kk : Int} {n : Nat} {rs : Array Value} {Q : Int → Nat → Array Value → Prop} {fs : List SFr} {m : SMem} (H : ∀ i k cs, Q i k cs → Good Tryd.prog A 1 (bS_F os ts kk n rs i k cs) (bS_M os ts kk n rs i k cs)) (hb : bS_n os ts kk n rs Q fs m) : Good Tryd.prog A 1 fs m := by
 unfold bS_n at hb
 split at hb
 rotate_left
 ·exact hb.elim
 split at hb
 rotate_left
 ·exact hb.elim
 split at hb
 rotate_left
 ·exact hb.elim
 split at hb
 rotate_left
 ·exact hb.elim
 split at hb
 rotate_left
 ·exact hb.elim
 split at hb
 rotate_left
 ·exact hb.elim
 split at hb
 rotate_left
 ·exact hb.elim
 split at hb
 rotate_left
 ·exact hb.elim
 exact Good.of_sub hb.2 (H _ _ _ hb.1)
end Go.Proofs.YtldoopjnjlpbpaaDoor
/- Of owns: Roots, Held: states. -/
namespace Go.Proofs.YtldoopjnjlpbpaaDoor
set_option maxRecDepth 100000
theorem a0E (os ts : Array Value) (kk : Int) : (run ERb 1000 1 [callFr 41 Tryd.f41.ntmps [osS os, tbS ts, aC] (Tryd.f41.body.getD .skip)] (rkM kk)).vc nilR (fun _ _ => False) =
  ((Array.size ts = (448 : Nat) ∧ True) ∧ (TbOk ts ∧ True) ∧ (decide (List.length (lvT ts) = (0 : Nat)) = true → True) ∧ (decide (List.length (lvT ts) = (0 : Nat)) = false → (decide ((0 : Int) < (↑(List.length (lvT ts)) : Int)) = true → False) ∧ (decide ((0 : Int) < (↑(List.length (lvT ts)) : Int)) = false → True))) := by kernel_rfl
theorem a0N (os ts : Array Value) (kk : Int) (n : Nat) (rs : Array Value) (Q : Int → Prop) : (aT0 os ts kk).vc nilR (aZ_n os ts kk n rs Q) =
  ((Array.size ts = (448 : Nat) ∧ True) ∧ (TbOk ts ∧ True) ∧ (decide (List.length (lvT ts) = (0 : Nat)) = true → False) ∧ (decide (List.length (lvT ts) = (0 : Nat)) = false → Q (0 : Int) ∧ CallKind.normal = CallKind.normal ∧ TodoOk (ren 1 [(1, 1), (2, 2), (3, 3)]) aZ_d0 aZ_d0 ∧ Value.slice none (0 : Nat) (0 : Nat) = Value.slice none (0 : Nat) (0 : Nat) ∧ n = List.length (lvT ts) ∧ (0 : Int) = (0 : Int) ∧ Fn.func (42 : Nat) = Fn.func (42 : Nat) ∧ (↑n : Int) = (↑(List.length (lvT ts)) : Int) ∧ (3 : TypeId) = (3 : TypeId) ∧ kk = kk ∧ (46 : TypeId) = (46 : Nat) ∧ os = os ∧ (30 : TypeId) = (30 : TypeId) ∧ rs = u32s (lvT ts) ∧ (39 : TypeId) = (39 : Nat) ∧ ts = ts ∧ True)) := by kernel_rfl
theorem a0F (os ts : Array Value) (kk : Int) (n : Nat) (rs : Array Value) (kF : Nat) (csF : Array Value) (Q : Int → Prop) : (aT0 os ts kk).vc (freshR kF csF) (aZ_n os ts kk n rs Q) =
  ((Array.size ts = (448 : Nat) ∧ True) ∧ (TbOk ts ∧ True) ∧ (decide (List.length (lvT ts) = (0 : Nat)) = true → False) ∧ (decide (List.length (lvT ts) = (0 : Nat)) = false → Q (0 : Int) ∧ CallKind.normal = CallKind.normal ∧ TodoOk (ren 1 [(1, 1), (2, 2), (3, 3)]) aZ_d0 aZ_d0 ∧ Value.slice none (0 : Nat) (0 : Nat) = Value.slice none (0 : Nat) (0 : Nat) ∧ n = List.length (lvT ts) ∧ (0 : Int) = (0 : Int) ∧ Fn.func (42 : Nat) = Fn.func (42 : Nat) ∧ (↑n : Int) = (↑(List.length (lvT ts)) : Int) ∧ (3 : TypeId) = (3 : TypeId) ∧ kk = kk ∧ (46 : TypeId) = (46 : Nat) ∧ os = os ∧ (30 : TypeId) = (30 : TypeId) ∧ rs = u32s (lvT ts) ∧ (39 : TypeId) = (39 : Nat) ∧ ts = ts ∧ True)) := by kernel_rfl
theorem a1 (os ts : Array Value) (kk : Int) (n : Nat) (rs : Array Value) (i : Int) (QZ : Int → Prop) (QS : Int → Nat → Array Value → Prop) : (stepT ERo.go (run ERo 1000) 1 (aZ_F os ts kk n rs i) (aZ_M os ts kk n rs i)).vc nilR (aZS os ts kk n rs QZ QS) =
  ((decide (i < (↑n : Int)) = true → (((0 : Int) ≤ i ∧ i < (↑n : Int)) ∧ True) ∧ (IsInt IntKind.u32 rs ((0 : Nat) + Int.toNat i * 1) ∧ True) ∧ (Array.size ts = (448 : Nat) ∧ True) ∧ (FIn ts ∧ ((0 : Int) ≤ intAt rs ((0 : Nat) + Int.toNat i * 1) ∧ intAt rs ((0 : Nat) + Int.toNat i * 1) < (4294967296 : Int)) ∧ True) ∧ (((rtF ts (intAt rs ((0 : Nat) + Int.toNat i * 1)) == intAt rs ((0 : Nat) + Int.toNat i * 1)) == true) = true → (Array.size os = (128 : Nat) ∧ True) ∧ (Array.size ts = (448 : Nat) ∧ True) ∧ (OsOk os ∧ FIn ts ∧ ((0 : Int) ≤ intAt rs ((0 : Nat) + Int.toNat i * 1) ∧ intAt rs ((0 : Nat) + Int.toNat i * 1) < (4294967296 : Int)) ∧ True) ∧ (((ofK os ts (intAt rs ((0 : Nat) + Int.toNat i * 1)) == (1 : Int)) == true) = true → ((IntKind.wrap IntKind.i64 (ofT os ts (intAt rs ((0 : Nat) + Int.toNat i * 1))) == kk) = true → QS (ari BinOp.add IntKind.i64 i (1 : Int)) (1 : Nat) #[Value.int IntKind.u32 (intAt rs ((0 : Nat) + Int.toNat i * 1))] ∧ CallKind.normal = CallKind.normal ∧ TodoOk (ren 1 [(1, 1), (2, 2), (3, 3), (4, 6)]) aZ_d0 aZ_d0 ∧ (1 : Nat) = (1 : Nat) ∧ n = n ∧ ari BinOp.add IntKind.i64 i (1 : Int) = ari BinOp.add IntKind.i64 i (1 : Int) ∧ Fn.func (42 : Nat) = Fn.func (42 : Nat) ∧ (↑n : Int) = (↑n : Int) ∧ (3 : TypeId) = (3 : TypeId) ∧ kk = kk ∧ (46 : TypeId) = (46 : TypeId) ∧ os = os ∧ (30 : TypeId) = (30 : TypeId) ∧ rs = rs ∧ (39 : TypeId) = (39 : TypeId) ∧ ts = ts ∧ (30 : TypeId) = (30 : Nat) ∧ #[Value.int IntKind.u32 (intAt rs ((0 : Nat) + Int.toNat i * 1))] = #[Value.int IntKind.u32 (intAt rs ((0 : Nat) + Int.toNat i * 1))] ∧ True) ∧ ((IntKind.wrap IntKind.i64 (ofT os ts (intAt rs ((0 : Nat) + Int.toNat i * 1))) == kk) = false → QZ (ari BinOp.add IntKind.i64 i (1 : Int)) ∧ CallKind.normal = CallKind.normal ∧ TodoOk (ren 1 [(1, 1), (2, 2), (3, 3)]) aZ_d0 aZ_d0 ∧ Value.slice none (0 : Nat) (0 : Nat) = Value.slice none (0 : Nat) (0 : Nat) ∧ n = n ∧ ari BinOp.add IntKind.i64 i (1 : Int) = ari BinOp.add IntKind.i64 i (1 : Int) ∧ Fn.func (42 : Nat) = Fn.func (42 : Nat) ∧ (↑n : Int) = (↑n : Int) ∧ (3 : TypeId) = (3 : TypeId) ∧ kk = kk ∧ (46 : TypeId) = (46 : TypeId) ∧ os = os ∧ (30 : TypeId) = (30 : TypeId) ∧ rs = rs ∧ (39 : TypeId) = (39 : TypeId) ∧ ts = ts ∧ True)) ∧ (((ofK os ts (intAt rs ((0 : Nat) + Int.toNat i * 1)) == (1 : Int)) == true) = false → QZ (ari BinOp.add IntKind.i64 i (1 : Int)) ∧ CallKind.normal = CallKind.normal ∧ TodoOk (ren 1 [(1, 1), (2, 2), (3, 3)]) aZ_d0 aZ_d0 ∧ Value.slice none (0 : Nat) (0 : Nat) = Value.slice none (0 : Nat) (0 : Nat) ∧ n = n ∧ ari BinOp.add IntKind.i64 i (1 : Int) = ari BinOp.add IntKind.i64 i (1 : Int) ∧ Fn.func (42 : Nat) = Fn.func (42 : Nat) ∧ (↑n : Int) = (↑n : Int) ∧ (3 : TypeId) = (3 : TypeId) ∧ kk = kk ∧ (46 : TypeId) = (46 : TypeId) ∧ os = os ∧ (30 : TypeId) = (30 : TypeId) ∧ rs = rs ∧ (39 : TypeId) = (39 : TypeId) ∧ ts = ts ∧ True)) ∧ (((rtF ts (intAt rs ((0 : Nat) + Int.toNat i * 1)) == intAt rs ((0 : Nat) + Int.toNat i * 1)) == true) = false → QZ (ari BinOp.add IntKind.i64 i (1 : Int)) ∧ CallKind.normal = CallKind.normal ∧ TodoOk (ren 1 [(1, 1), (2, 2), (3, 3)]) aZ_d0 aZ_d0 ∧ Value.slice none (0 : Nat) (0 : Nat) = Value.slice none (0 : Nat) (0 : Nat) ∧ n = n ∧ ari BinOp.add IntKind.i64 i (1 : Int) = ari BinOp.add IntKind.i64 i (1 : Int) ∧ Fn.func (42 : Nat) = Fn.func (42 : Nat) ∧ (↑n : Int) = (↑n : Int) ∧ (3 : TypeId) = (3 : TypeId) ∧ kk = kk ∧ (46 : TypeId) = (46 : TypeId) ∧ os = os ∧ (30 : TypeId) = (30 : TypeId) ∧ rs = rs ∧ (39 : TypeId) = (39 : TypeId) ∧ ts = ts ∧ True)) ∧ (decide (i < (↑n : Int)) = false → True)) := by kernel_rfl
theorem a2 (os ts : Array Value) (kk : Int) (n : Nat) (rs : Array Value) (i : Int) (kF : Nat) (csF : Array Value) (QZ : Int → Prop) (QS : Int → Nat → Array Value → Prop) : (stepT ERo.go (run ERo 1000) 1 (aZ_F os ts kk n rs i) (aZ_M os ts kk n rs i)).vc (freshR kF csF) (aZS os ts kk n rs QZ QS) =
  ((decide (i < (↑n : Int)) = true → (((0 : Int) ≤ i ∧ i < (↑n : Int)) ∧ True) ∧ (IsInt IntKind.u32 rs ((0 : Nat) + Int.toNat i * 1) ∧ True) ∧ (Array.size ts = (448 : Nat) ∧ True) ∧ (FIn ts ∧ ((0 : Int) ≤ intAt rs ((0 : Nat) + Int.toNat i * 1) ∧ intAt rs ((0 : Nat) + Int.toNat i * 1) < (4294967296 : Int)) ∧ True) ∧ (((rtF ts (intAt rs ((0 : Nat) + Int.toNat i * 1)) == intAt rs ((0 : Nat) + Int.toNat i * 1)) == true) = true → (Array.size os = (128 : Nat) ∧ True) ∧ (Array.size ts = (448 : Nat) ∧ True) ∧ (OsOk os ∧ FIn ts ∧ ((0 : Int) ≤ intAt rs ((0 : Nat) + Int.toNat i * 1) ∧ intAt rs ((0 : Nat) + Int.toNat i * 1) < (4294967296 : Int)) ∧ True) ∧ (((ofK os ts (intAt rs ((0 : Nat) + Int.toNat i * 1)) == (1 : Int)) == true) = true → ((IntKind.wrap IntKind.i64 (ofT os ts (intAt rs ((0 : Nat) + Int.toNat i * 1))) == kk) = true → QS (ari BinOp.add IntKind.i64 i (1 : Int)) (1 : Nat) #[Value.int IntKind.u32 (intAt rs ((0 : Nat) + Int.toNat i * 1))] ∧ CallKind.normal = CallKind.normal ∧ TodoOk (ren 1 [(1, 1), (2, 2), (3, 3), (4, 6)]) aZ_d0 aZ_d0 ∧ (1 : Nat) = (1 : Nat) ∧ n = n ∧ ari BinOp.add IntKind.i64 i (1 : Int) = ari BinOp.add IntKind.i64 i (1 : Int) ∧ Fn.func (42 : Nat) = Fn.func (42 : Nat) ∧ (↑n : Int) = (↑n : Int) ∧ (3 : TypeId) = (3 : TypeId) ∧ kk = kk ∧ (46 : TypeId) = (46 : TypeId) ∧ os = os ∧ (30 : TypeId) = (30 : TypeId) ∧ rs = rs ∧ (39 : TypeId) = (39 : TypeId) ∧ ts = ts ∧ (30 : TypeId) = (30 : Nat) ∧ #[Value.int IntKind.u32 (intAt rs ((0 : Nat) + Int.toNat i * 1))] = #[Value.int IntKind.u32 (intAt rs ((0 : Nat) + Int.toNat i * 1))] ∧ True) ∧ ((IntKind.wrap IntKind.i64 (ofT os ts (intAt rs ((0 : Nat) + Int.toNat i * 1))) == kk) = false → QZ (ari BinOp.add IntKind.i64 i (1 : Int)) ∧ CallKind.normal = CallKind.normal ∧ TodoOk (ren 1 [(1, 1), (2, 2), (3, 3)]) aZ_d0 aZ_d0 ∧ Value.slice none (0 : Nat) (0 : Nat) = Value.slice none (0 : Nat) (0 : Nat) ∧ n = n ∧ ari BinOp.add IntKind.i64 i (1 : Int) = ari BinOp.add IntKind.i64 i (1 : Int) ∧ Fn.func (42 : Nat) = Fn.func (42 : Nat) ∧ (↑n : Int) = (↑n : Int) ∧ (3 : TypeId) = (3 : TypeId) ∧ kk = kk ∧ (46 : TypeId) = (46 : TypeId) ∧ os = os ∧ (30 : TypeId) = (30 : TypeId) ∧ rs = rs ∧ (39 : TypeId) = (39 : TypeId) ∧ ts = ts ∧ True)) ∧ (((ofK os ts (intAt rs ((0 : Nat) + Int.toNat i * 1)) == (1 : Int)) == true) = false → QZ (ari BinOp.add IntKind.i64 i (1 : Int)) ∧ CallKind.normal = CallKind.normal ∧ TodoOk (ren 1 [(1, 1), (2, 2), (3, 3)]) aZ_d0 aZ_d0 ∧ Value.slice none (0 : Nat) (0 : Nat) = Value.slice none (0 : Nat) (0 : Nat) ∧ n = n ∧ ari BinOp.add IntKind.i64 i (1 : Int) = ari BinOp.add IntKind.i64 i (1 : Int) ∧ Fn.func (42 : Nat) = Fn.func (42 : Nat) ∧ (↑n : Int) = (↑n : Int) ∧ (3 : TypeId) = (3 : TypeId) ∧ kk = kk ∧ (46 : TypeId) = (46 : TypeId) ∧ os = os ∧ (30 : TypeId) = (30 : TypeId) ∧ rs = rs ∧ (39 : TypeId) = (39 : TypeId) ∧ ts = ts ∧ True)) ∧ (((rtF ts (intAt rs ((0 : Nat) + Int.toNat i * 1)) == intAt rs ((0 : Nat) + Int.toNat i * 1)) == true) = false → QZ (ari BinOp.add IntKind.i64 i (1 : Int)) ∧ CallKind.normal = CallKind.normal ∧ TodoOk (ren 1 [(1, 1), (2, 2), (3, 3)]) aZ_d0 aZ_d0 ∧ Value.slice none (0 : Nat) (0 : Nat) = Value.slice none (0 : Nat) (0 : Nat) ∧ n = n ∧ ari BinOp.add IntKind.i64 i (1 : Int) = ari BinOp.add IntKind.i64 i (1 : Int) ∧ Fn.func (42 : Nat) = Fn.func (42 : Nat) ∧ (↑n : Int) = (↑n : Int) ∧ (3 : TypeId) = (3 : TypeId) ∧ kk = kk ∧ (46 : TypeId) = (46 : TypeId) ∧ os = os ∧ (30 : TypeId) = (30 : TypeId) ∧ rs = rs ∧ (39 : TypeId) = (39 : TypeId) ∧ ts = ts ∧ True)) ∧ (decide (i < (↑n : Int)) = false → False)) := by kernel_rfl
theorem a3 (os ts : Array Value) (kk : Int) (n : Nat) (rs : Array Value) (i : Int) (k : Nat) (cs : Array Value) (kF : Nat) (csF : Array Value) (QS : Int → Nat → Array Value → Prop) : (stepT ERo.go (run ERo 1000) 1 (aS_F os ts kk n rs i k cs) (aS_M os ts kk n rs i k cs)).vc (freshR kF csF) (aS_n os ts kk n rs QS) =
  ((decide (i < (↑n : Int)) = true → (((0 : Int) ≤ i ∧ i < (↑n : Int)) ∧ True) ∧ (IsInt IntKind.u32 rs ((0 : Nat) + Int.toNat i * 1) ∧ True) ∧ (Array.size ts = (448 : Nat) ∧ True) ∧ (FIn ts ∧ ((0 : Int) ≤ intAt rs ((0 : Nat) + Int.toNat i * 1) ∧ intAt rs ((0 : Nat) + Int.toNat i * 1) < (4294967296 : Int)) ∧ True) ∧ (((rtF ts (intAt rs ((0 : Nat) + Int.toNat i * 1)) == intAt rs ((0 : Nat) + Int.toNat i * 1)) == true) = true → (Array.size os = (128 : Nat) ∧ True) ∧ (Array.size ts = (448 : Nat) ∧ True) ∧ (OsOk os ∧ FIn ts ∧ ((0 : Int) ≤ intAt rs ((0 : Nat) + Int.toNat i * 1) ∧ intAt rs ((0 : Nat) + Int.toNat i * 1) < (4294967296 : Int)) ∧ True) ∧ (((ofK os ts (intAt rs ((0 : Nat) + Int.toNat i * 1)) == (1 : Int)) == true) = true → ((IntKind.wrap IntKind.i64 (ofT os ts (intAt rs ((0 : Nat) + Int.toNat i * 1))) == kk) = true → (((k + 1) * 4 ≤ (140737488355328 : Nat) ∧ k + 1 ≤ (140737488355328 : Nat)) ∧ k * 1 = Array.size cs ∧ True) ∧ QS (ari BinOp.add IntKind.i64 i (1 : Int)) (k + 1) (cs ++ #[Value.int IntKind.u32 (intAt rs ((0 : Nat) + Int.toNat i * 1))]) ∧ CallKind.normal = CallKind.normal ∧ TodoOk (ren 1 [(1, 1), (2, 2), (3, 3), (4, 7)]) aZ_d0 aZ_d0 ∧ k + 1 = k + 1 ∧ n = n ∧ ari BinOp.add IntKind.i64 i (1 : Int) = ari BinOp.add IntKind.i64 i (1 : Int) ∧ Fn.func (42 : Nat) = Fn.func (42 : Nat) ∧ (↑n : Int) = (↑n : Int) ∧ (3 : TypeId) = (3 : TypeId) ∧ kk = kk ∧ (46 : TypeId) = (46 : TypeId) ∧ os = os ∧ (30 : TypeId) = (30 : TypeId) ∧ rs = rs ∧ (39 : TypeId) = (39 : TypeId) ∧ ts = ts ∧ (30 : TypeId) = (30 : Nat) ∧ cs ++ #[Value.int IntKind.u32 (intAt rs ((0 : Nat) + Int.toNat i * 1))] = cs ++ #[Value.int IntKind.u32 (intAt rs ((0 : Nat) + Int.toNat i * 1))] ∧ True) ∧ ((IntKind.wrap IntKind.i64 (ofT os ts (intAt rs ((0 : Nat) + Int.toNat i * 1))) == kk) = false → QS (ari BinOp.add IntKind.i64 i (1 : Int)) k cs ∧ CallKind.normal = CallKind.normal ∧ TodoOk (ren 1 [(1, 1), (2, 2), (3, 3), (4, 4)]) aZ_d0 aZ_d0 ∧ k = k ∧ n = n ∧ ari BinOp.add IntKind.i64 i (1 : Int) = ari BinOp.add IntKind.i64 i (1 : Int) ∧ Fn.func (42 : Nat) = Fn.func (42 : Nat) ∧ (↑n : Int) = (↑n : Int) ∧ (3 : TypeId) = (3 : TypeId) ∧ kk = kk ∧ (46 : TypeId) = (46 : TypeId) ∧ os = os ∧ (30 : TypeId) = (30 : TypeId) ∧ rs = rs ∧ (39 : TypeId) = (39 : TypeId) ∧ ts = ts ∧ (30 : TypeId) = (30 : TypeId) ∧ cs = cs ∧ True)) ∧ (((ofK os ts (intAt rs ((0 : Nat) + Int.toNat i * 1)) == (1 : Int)) == true) = false → QS (ari BinOp.add IntKind.i64 i (1 : Int)) k cs ∧ CallKind.normal = CallKind.normal ∧ TodoOk (ren 1 [(1, 1), (2, 2), (3, 3), (4, 4)]) aZ_d0 aZ_d0 ∧ k = k ∧ n = n ∧ ari BinOp.add IntKind.i64 i (1 : Int) = ari BinOp.add IntKind.i64 i (1 : Int) ∧ Fn.func (42 : Nat) = Fn.func (42 : Nat) ∧ (↑n : Int) = (↑n : Int) ∧ (3 : TypeId) = (3 : TypeId) ∧ kk = kk ∧ (46 : TypeId) = (46 : TypeId) ∧ os = os ∧ (30 : TypeId) = (30 : TypeId) ∧ rs = rs ∧ (39 : TypeId) = (39 : TypeId) ∧ ts = ts ∧ (30 : TypeId) = (30 : TypeId) ∧ cs = cs ∧ True)) ∧ (((rtF ts (intAt rs ((0 : Nat) + Int.toNat i * 1)) == intAt rs ((0 : Nat) + Int.toNat i * 1)) == true) = false → QS (ari BinOp.add IntKind.i64 i (1 : Int)) k cs ∧ CallKind.normal = CallKind.normal ∧ TodoOk (ren 1 [(1, 1), (2, 2), (3, 3), (4, 4)]) aZ_d0 aZ_d0 ∧ k = k ∧ n = n ∧ ari BinOp.add IntKind.i64 i (1 : Int) = ari BinOp.add IntKind.i64 i (1 : Int) ∧ Fn.func (42 : Nat) = Fn.func (42 : Nat) ∧ (↑n : Int) = (↑n : Int) ∧ (3 : TypeId) = (3 : TypeId) ∧ kk = kk ∧ (46 : TypeId) = (46 : TypeId) ∧ os = os ∧ (30 : TypeId) = (30 : TypeId) ∧ rs = rs ∧ (39 : TypeId) = (39 : TypeId) ∧ ts = ts ∧ (30 : TypeId) = (30 : TypeId) ∧ cs = cs ∧ True)) ∧ (decide (i < (↑n : Int)) = false → true = true ∧ k = kF ∧ cs = csF ∧ (30 : TypeId) = (30 : TypeId))) := by kernel_rfl
theorem b0E (os ts : Array Value) (kk : Int) : (run ERb 1000 1 [callFr 41 Tryd.f41.ntmps [osS os, tbS ts, bC] (Tryd.f41.body.getD .skip)] (rkM kk)).vc nilR (fun _ _ => False) =
  ((Array.size ts = (448 : Nat) ∧ True) ∧ (TbOk ts ∧ True) ∧ (decide (List.length (lvT ts) = (0 : Nat)) = true → True) ∧ (decide (List.length (lvT ts) = (0 : Nat)) = false → (decide ((0 : Int) < (↑(List.length (lvT ts)) : Int)) = true → False) ∧ (decide ((0 : Int) < (↑(List.length (lvT ts)) : Int)) = false → True))) := by kernel_rfl
theorem b0N (os ts : Array Value) (kk : Int) (n : Nat) (rs : Array Value) (Q : Int → Prop) : (bT0 os ts kk).vc nilR (bZ_n os ts kk n rs Q) =
  ((Array.size ts = (448 : Nat) ∧ True) ∧ (TbOk ts ∧ True) ∧ (decide (List.length (lvT ts) = (0 : Nat)) = true → False) ∧ (decide (List.length (lvT ts) = (0 : Nat)) = false → Q (0 : Int) ∧ CallKind.normal = CallKind.normal ∧ TodoOk (ren 1 [(1, 1), (2, 2), (3, 3)]) aZ_d0 aZ_d0 ∧ Value.slice none (0 : Nat) (0 : Nat) = Value.slice none (0 : Nat) (0 : Nat) ∧ n = List.length (lvT ts) ∧ (0 : Int) = (0 : Int) ∧ Fn.func (43 : Nat) = Fn.func (43 : Nat) ∧ (↑n : Int) = (↑(List.length (lvT ts)) : Int) ∧ (3 : TypeId) = (3 : TypeId) ∧ kk = kk ∧ (46 : TypeId) = (46 : Nat) ∧ os = os ∧ (30 : TypeId) = (30 : TypeId) ∧ rs = u32s (lvT ts) ∧ (39 : TypeId) = (39 : Nat) ∧ ts = ts ∧ True)) := by kernel_rfl
theorem b0F (os ts : Array Value) (kk : Int) (n : Nat) (rs : Array Value) (kF : Nat) (csF : Array Value) (Q : Int → Prop) : (bT0 os ts kk).vc (freshR kF csF) (bZ_n os ts kk n rs Q) =
  ((Array.size ts = (448 : Nat) ∧ True) ∧ (TbOk ts ∧ True) ∧ (decide (List.length (lvT ts) = (0 : Nat)) = true → False) ∧ (decide (List.length (lvT ts) = (0 : Nat)) = false → Q (0 : Int) ∧ CallKind.normal = CallKind.normal ∧ TodoOk (ren 1 [(1, 1), (2, 2), (3, 3)]) aZ_d0 aZ_d0 ∧ Value.slice none (0 : Nat) (0 : Nat) = Value.slice none (0 : Nat) (0 : Nat) ∧ n = List.length (lvT ts) ∧ (0 : Int) = (0 : Int) ∧ Fn.func (43 : Nat) = Fn.func (43 : Nat) ∧ (↑n : Int) = (↑(List.length (lvT ts)) : Int) ∧ (3 : TypeId) = (3 : TypeId) ∧ kk = kk ∧ (46 : TypeId) = (46 : Nat) ∧ os = os ∧ (30 : TypeId) = (30 : TypeId) ∧ rs = u32s (lvT ts) ∧ (39 : TypeId) = (39 : Nat) ∧ ts = ts ∧ True)) := by kernel_rfl
theorem b1 (os ts : Array Value) (kk : Int) (n : Nat) (rs : Array Value) (i : Int) (QZ : Int → Prop) (QS : Int → Nat → Array Value → Prop) : (stepT ERo.go (run ERo 1000) 1 (bZ_F os ts kk n rs i) (bZ_M os ts kk n rs i)).vc nilR (bZS os ts kk n rs QZ QS) =
  ((decide (i < (↑n : Int)) = true → (((0 : Int) ≤ i ∧ i < (↑n : Int)) ∧ True) ∧ (IsInt IntKind.u32 rs ((0 : Nat) + Int.toNat i * 1) ∧ True) ∧ (Array.size ts = (448 : Nat) ∧ True) ∧ (FIn ts ∧ ((0 : Int) ≤ intAt rs ((0 : Nat) + Int.toNat i * 1) ∧ intAt rs ((0 : Nat) + Int.toNat i * 1) < (4294967296 : Int)) ∧ True) ∧ (((rtF ts (intAt rs ((0 : Nat) + Int.toNat i * 1)) == intAt rs ((0 : Nat) + Int.toNat i * 1)) == true) = true → (Array.size os = (128 : Nat) ∧ True) ∧ (Array.size ts = (448 : Nat) ∧ True) ∧ (OsOk os ∧ FIn ts ∧ ((0 : Int) ≤ intAt rs ((0 : Nat) + Int.toNat i * 1) ∧ intAt rs ((0 : Nat) + Int.toNat i * 1) < (4294967296 : Int)) ∧ True) ∧ (((ofK os ts (intAt rs ((0 : Nat) + Int.toNat i * 1)) == (3 : Int)) == true) = true → (hoB (ofH os ts (intAt rs ((0 : Nat) + Int.toNat i * 1))) kk = true → QS (ari BinOp.add IntKind.i64 i (1 : Int)) (1 : Nat) #[Value.int IntKind.u32 (intAt rs ((0 : Nat) + Int.toNat i * 1))] ∧ CallKind.normal = CallKind.normal ∧ TodoOk (ren 1 [(1, 1), (2, 2), (3, 3), (4, 6)]) aZ_d0 aZ_d0 ∧ (1 : Nat) = (1 : Nat) ∧ n = n ∧ ari BinOp.add IntKind.i64 i (1 : Int) = ari BinOp.add IntKind.i64 i (1 : Int) ∧ Fn.func (43 : Nat) = Fn.func (43 : Nat) ∧ (↑n : Int) = (↑n : Int) ∧ (3 : TypeId) = (3 : TypeId) ∧ kk = kk ∧ (46 : TypeId) = (46 : TypeId) ∧ os = os ∧ (30 : TypeId) = (30 : TypeId) ∧ rs = rs ∧ (39 : TypeId) = (39 : TypeId) ∧ ts = ts ∧ (30 : TypeId) = (30 : Nat) ∧ #[Value.int IntKind.u32 (intAt rs ((0 : Nat) + Int.toNat i * 1))] = #[Value.int IntKind.u32 (intAt rs ((0 : Nat) + Int.toNat i * 1))] ∧ True) ∧ (hoB (ofH os ts (intAt rs ((0 : Nat) + Int.toNat i * 1))) kk = false → QZ (ari BinOp.add IntKind.i64 i (1 : Int)) ∧ CallKind.normal = CallKind.normal ∧ TodoOk (ren 1 [(1, 1), (2, 2), (3, 3)]) aZ_d0 aZ_d0 ∧ Value.slice none (0 : Nat) (0 : Nat) = Value.slice none (0 : Nat) (0 : Nat) ∧ n = n ∧ ari BinOp.add IntKind.i64 i (1 : Int) = ari BinOp.add IntKind.i64 i (1 : Int) ∧ Fn.func (43 : Nat) = Fn.func (43 : Nat) ∧ (↑n : Int) = (↑n : Int) ∧ (3 : TypeId) = (3 : TypeId) ∧ kk = kk ∧ (46 : TypeId) = (46 : TypeId) ∧ os = os ∧ (30 : TypeId) = (30 : TypeId) ∧ rs = rs ∧ (39 : TypeId) = (39 : TypeId) ∧ ts = ts ∧ True)) ∧ (((ofK os ts (intAt rs ((0 : Nat) + Int.toNat i * 1)) == (3 : Int)) == true) = false → QZ (ari BinOp.add IntKind.i64 i (1 : Int)) ∧ CallKind.normal = CallKind.normal ∧ TodoOk (ren 1 [(1, 1), (2, 2), (3, 3)]) aZ_d0 aZ_d0 ∧ Value.slice none (0 : Nat) (0 : Nat) = Value.slice none (0 : Nat) (0 : Nat) ∧ n = n ∧ ari BinOp.add IntKind.i64 i (1 : Int) = ari BinOp.add IntKind.i64 i (1 : Int) ∧ Fn.func (43 : Nat) = Fn.func (43 : Nat) ∧ (↑n : Int) = (↑n : Int) ∧ (3 : TypeId) = (3 : TypeId) ∧ kk = kk ∧ (46 : TypeId) = (46 : TypeId) ∧ os = os ∧ (30 : TypeId) = (30 : TypeId) ∧ rs = rs ∧ (39 : TypeId) = (39 : TypeId) ∧ ts = ts ∧ True)) ∧ (((rtF ts (intAt rs ((0 : Nat) + Int.toNat i * 1)) == intAt rs ((0 : Nat) + Int.toNat i * 1)) == true) = false → QZ (ari BinOp.add IntKind.i64 i (1 : Int)) ∧ CallKind.normal = CallKind.normal ∧ TodoOk (ren 1 [(1, 1), (2, 2), (3, 3)]) aZ_d0 aZ_d0 ∧ Value.slice none (0 : Nat) (0 : Nat) = Value.slice none (0 : Nat) (0 : Nat) ∧ n = n ∧ ari BinOp.add IntKind.i64 i (1 : Int) = ari BinOp.add IntKind.i64 i (1 : Int) ∧ Fn.func (43 : Nat) = Fn.func (43 : Nat) ∧ (↑n : Int) = (↑n : Int) ∧ (3 : TypeId) = (3 : TypeId) ∧ kk = kk ∧ (46 : TypeId) = (46 : TypeId) ∧ os = os ∧ (30 : TypeId) = (30 : TypeId) ∧ rs = rs ∧ (39 : TypeId) = (39 : TypeId) ∧ ts = ts ∧ True)) ∧ (decide (i < (↑n : Int)) = false → True)) := by kernel_rfl
theorem b2 (os ts : Array Value) (kk : Int) (n : Nat) (rs : Array Value) (i : Int) (kF : Nat) (csF : Array Value) (QZ : Int → Prop) (QS : Int → Nat → Array Value → Prop) : (stepT ERo.go (run ERo 1000) 1 (bZ_F os ts kk n rs i) (bZ_M os ts kk n rs i)).vc (freshR kF csF) (bZS os ts kk n rs QZ QS) =
  ((decide (i < (↑n : Int)) = true → (((0 : Int) ≤ i ∧ i < (↑n : Int)) ∧ True) ∧ (IsInt IntKind.u32 rs ((0 : Nat) + Int.toNat i * 1) ∧ True) ∧ (Array.size ts = (448 : Nat) ∧ True) ∧ (FIn ts ∧ ((0 : Int) ≤ intAt rs ((0 : Nat) + Int.toNat i * 1) ∧ intAt rs ((0 : Nat) + Int.toNat i * 1) < (4294967296 : Int)) ∧ True) ∧ (((rtF ts (intAt rs ((0 : Nat) + Int.toNat i * 1)) == intAt rs ((0 : Nat) + Int.toNat i * 1)) == true) = true → (Array.size os = (128 : Nat) ∧ True) ∧ (Array.size ts = (448 : Nat) ∧ True) ∧ (OsOk os ∧ FIn ts ∧ ((0 : Int) ≤ intAt rs ((0 : Nat) + Int.toNat i * 1) ∧ intAt rs ((0 : Nat) + Int.toNat i * 1) < (4294967296 : Int)) ∧ True) ∧ (((ofK os ts (intAt rs ((0 : Nat) + Int.toNat i * 1)) == (3 : Int)) == true) = true → (hoB (ofH os ts (intAt rs ((0 : Nat) + Int.toNat i * 1))) kk = true → QS (ari BinOp.add IntKind.i64 i (1 : Int)) (1 : Nat) #[Value.int IntKind.u32 (intAt rs ((0 : Nat) + Int.toNat i * 1))] ∧ CallKind.normal = CallKind.normal ∧ TodoOk (ren 1 [(1, 1), (2, 2), (3, 3), (4, 6)]) aZ_d0 aZ_d0 ∧ (1 : Nat) = (1 : Nat) ∧ n = n ∧ ari BinOp.add IntKind.i64 i (1 : Int) = ari BinOp.add IntKind.i64 i (1 : Int) ∧ Fn.func (43 : Nat) = Fn.func (43 : Nat) ∧ (↑n : Int) = (↑n : Int) ∧ (3 : TypeId) = (3 : TypeId) ∧ kk = kk ∧ (46 : TypeId) = (46 : TypeId) ∧ os = os ∧ (30 : TypeId) = (30 : TypeId) ∧ rs = rs ∧ (39 : TypeId) = (39 : TypeId) ∧ ts = ts ∧ (30 : TypeId) = (30 : Nat) ∧ #[Value.int IntKind.u32 (intAt rs ((0 : Nat) + Int.toNat i * 1))] = #[Value.int IntKind.u32 (intAt rs ((0 : Nat) + Int.toNat i * 1))] ∧ True) ∧ (hoB (ofH os ts (intAt rs ((0 : Nat) + Int.toNat i * 1))) kk = false → QZ (ari BinOp.add IntKind.i64 i (1 : Int)) ∧ CallKind.normal = CallKind.normal ∧ TodoOk (ren 1 [(1, 1), (2, 2), (3, 3)]) aZ_d0 aZ_d0 ∧ Value.slice none (0 : Nat) (0 : Nat) = Value.slice none (0 : Nat) (0 : Nat) ∧ n = n ∧ ari BinOp.add IntKind.i64 i (1 : Int) = ari BinOp.add IntKind.i64 i (1 : Int) ∧ Fn.func (43 : Nat) = Fn.func (43 : Nat) ∧ (↑n : Int) = (↑n : Int) ∧ (3 : TypeId) = (3 : TypeId) ∧ kk = kk ∧ (46 : TypeId) = (46 : TypeId) ∧ os = os ∧ (30 : TypeId) = (30 : TypeId) ∧ rs = rs ∧ (39 : TypeId) = (39 : TypeId) ∧ ts = ts ∧ True)) ∧ (((ofK os ts (intAt rs ((0 : Nat) + Int.toNat i * 1)) == (3 : Int)) == true) = false → QZ (ari BinOp.add IntKind.i64 i (1 : Int)) ∧ CallKind.normal = CallKind.normal ∧ TodoOk (ren 1 [(1, 1), (2, 2), (3, 3)]) aZ_d0 aZ_d0 ∧ Value.slice none (0 : Nat) (0 : Nat) = Value.slice none (0 : Nat) (0 : Nat) ∧ n = n ∧ ari BinOp.add IntKind.i64 i (1 : Int) = ari BinOp.add IntKind.i64 i (1 : Int) ∧ Fn.func (43 : Nat) = Fn.func (43 : Nat) ∧ (↑n : Int) = (↑n : Int) ∧ (3 : TypeId) = (3 : TypeId) ∧ kk = kk ∧ (46 : TypeId) = (46 : TypeId) ∧ os = os ∧ (30 : TypeId) = (30 : TypeId) ∧ rs = rs ∧ (39 : TypeId) = (39 : TypeId) ∧ ts = ts ∧ True)) ∧ (((rtF ts (intAt rs ((0 : Nat) + Int.toNat i * 1)) == intAt rs ((0 : Nat) + Int.toNat i * 1)) == true) = false → QZ (ari BinOp.add IntKind.i64 i (1 : Int)) ∧ CallKind.normal = CallKind.normal ∧ TodoOk (ren 1 [(1, 1), (2, 2), (3, 3)]) aZ_d0 aZ_d0 ∧ Value.slice none (0 : Nat) (0 : Nat) = Value.slice none (0 : Nat) (0 : Nat) ∧ n = n ∧ ari BinOp.add IntKind.i64 i (1 : Int) = ari BinOp.add IntKind.i64 i (1 : Int) ∧ Fn.func (43 : Nat) = Fn.func (43 : Nat) ∧ (↑n : Int) = (↑n : Int) ∧ (3 : TypeId) = (3 : TypeId) ∧ kk = kk ∧ (46 : TypeId) = (46 : TypeId) ∧ os = os ∧ (30 : TypeId) = (30 : TypeId) ∧ rs = rs ∧ (39 : TypeId) = (39 : TypeId) ∧ ts = ts ∧ True)) ∧ (decide (i < (↑n : Int)) = false → False)) := by kernel_rfl
theorem b3 (os ts : Array Value) (kk : Int) (n : Nat) (rs : Array Value) (i : Int) (k : Nat) (cs : Array Value) (kF : Nat) (csF : Array Value) (QS : Int → Nat → Array Value → Prop) : (stepT ERo.go (run ERo 1000) 1 (bS_F os ts kk n rs i k cs) (bS_M os ts kk n rs i k cs)).vc (freshR kF csF) (bS_n os ts kk n rs QS) =
  ((decide (i < (↑n : Int)) = true → (((0 : Int) ≤ i ∧ i < (↑n : Int)) ∧ True) ∧ (IsInt IntKind.u32 rs ((0 : Nat) + Int.toNat i * 1) ∧ True) ∧ (Array.size ts = (448 : Nat) ∧ True) ∧ (FIn ts ∧ ((0 : Int) ≤ intAt rs ((0 : Nat) + Int.toNat i * 1) ∧ intAt rs ((0 : Nat) + Int.toNat i * 1) < (4294967296 : Int)) ∧ True) ∧ (((rtF ts (intAt rs ((0 : Nat) + Int.toNat i * 1)) == intAt rs ((0 : Nat) + Int.toNat i * 1)) == true) = true → (Array.size os = (128 : Nat) ∧ True) ∧ (Array.size ts = (448 : Nat) ∧ True) ∧ (OsOk os ∧ FIn ts ∧ ((0 : Int) ≤ intAt rs ((0 : Nat) + Int.toNat i * 1) ∧ intAt rs ((0 : Nat) + Int.toNat i * 1) < (4294967296 : Int)) ∧ True) ∧ (((ofK os ts (intAt rs ((0 : Nat) + Int.toNat i * 1)) == (3 : Int)) == true) = true → (hoB (ofH os ts (intAt rs ((0 : Nat) + Int.toNat i * 1))) kk = true → (((k + 1) * 4 ≤ (140737488355328 : Nat) ∧ k + 1 ≤ (140737488355328 : Nat)) ∧ k * 1 = Array.size cs ∧ True) ∧ QS (ari BinOp.add IntKind.i64 i (1 : Int)) (k + 1) (cs ++ #[Value.int IntKind.u32 (intAt rs ((0 : Nat) + Int.toNat i * 1))]) ∧ CallKind.normal = CallKind.normal ∧ TodoOk (ren 1 [(1, 1), (2, 2), (3, 3), (4, 7)]) aZ_d0 aZ_d0 ∧ k + 1 = k + 1 ∧ n = n ∧ ari BinOp.add IntKind.i64 i (1 : Int) = ari BinOp.add IntKind.i64 i (1 : Int) ∧ Fn.func (43 : Nat) = Fn.func (43 : Nat) ∧ (↑n : Int) = (↑n : Int) ∧ (3 : TypeId) = (3 : TypeId) ∧ kk = kk ∧ (46 : TypeId) = (46 : TypeId) ∧ os = os ∧ (30 : TypeId) = (30 : TypeId) ∧ rs = rs ∧ (39 : TypeId) = (39 : TypeId) ∧ ts = ts ∧ (30 : TypeId) = (30 : Nat) ∧ cs ++ #[Value.int IntKind.u32 (intAt rs ((0 : Nat) + Int.toNat i * 1))] = cs ++ #[Value.int IntKind.u32 (intAt rs ((0 : Nat) + Int.toNat i * 1))] ∧ True) ∧ (hoB (ofH os ts (intAt rs ((0 : Nat) + Int.toNat i * 1))) kk = false → QS (ari BinOp.add IntKind.i64 i (1 : Int)) k cs ∧ CallKind.normal = CallKind.normal ∧ TodoOk (ren 1 [(1, 1), (2, 2), (3, 3), (4, 4)]) aZ_d0 aZ_d0 ∧ k = k ∧ n = n ∧ ari BinOp.add IntKind.i64 i (1 : Int) = ari BinOp.add IntKind.i64 i (1 : Int) ∧ Fn.func (43 : Nat) = Fn.func (43 : Nat) ∧ (↑n : Int) = (↑n : Int) ∧ (3 : TypeId) = (3 : TypeId) ∧ kk = kk ∧ (46 : TypeId) = (46 : TypeId) ∧ os = os ∧ (30 : TypeId) = (30 : TypeId) ∧ rs = rs ∧ (39 : TypeId) = (39 : TypeId) ∧ ts = ts ∧ (30 : TypeId) = (30 : TypeId) ∧ cs = cs ∧ True)) ∧ (((ofK os ts (intAt rs ((0 : Nat) + Int.toNat i * 1)) == (3 : Int)) == true) = false → QS (ari BinOp.add IntKind.i64 i (1 : Int)) k cs ∧ CallKind.normal = CallKind.normal ∧ TodoOk (ren 1 [(1, 1), (2, 2), (3, 3), (4, 4)]) aZ_d0 aZ_d0 ∧ k = k ∧ n = n ∧ ari BinOp.add IntKind.i64 i (1 : Int) = ari BinOp.add IntKind.i64 i (1 : Int) ∧ Fn.func (43 : Nat) = Fn.func (43 : Nat) ∧ (↑n : Int) = (↑n : Int) ∧ (3 : TypeId) = (3 : TypeId) ∧ kk = kk ∧ (46 : TypeId) = (46 : TypeId) ∧ os = os ∧ (30 : TypeId) = (30 : TypeId) ∧ rs = rs ∧ (39 : TypeId) = (39 : TypeId) ∧ ts = ts ∧ (30 : TypeId) = (30 : TypeId) ∧ cs = cs ∧ True)) ∧ (((rtF ts (intAt rs ((0 : Nat) + Int.toNat i * 1)) == intAt rs ((0 : Nat) + Int.toNat i * 1)) == true) = false → QS (ari BinOp.add IntKind.i64 i (1 : Int)) k cs ∧ CallKind.normal = CallKind.normal ∧ TodoOk (ren 1 [(1, 1), (2, 2), (3, 3), (4, 4)]) aZ_d0 aZ_d0 ∧ k = k ∧ n = n ∧ ari BinOp.add IntKind.i64 i (1 : Int) = ari BinOp.add IntKind.i64 i (1 : Int) ∧ Fn.func (43 : Nat) = Fn.func (43 : Nat) ∧ (↑n : Int) = (↑n : Int) ∧ (3 : TypeId) = (3 : TypeId) ∧ kk = kk ∧ (46 : TypeId) = (46 : TypeId) ∧ os = os ∧ (30 : TypeId) = (30 : TypeId) ∧ rs = rs ∧ (39 : TypeId) = (39 : TypeId) ∧ ts = ts ∧ (30 : TypeId) = (30 : TypeId) ∧ cs = cs ∧ True)) ∧ (decide (i < (↑n : Int)) = false → true = true ∧ k = kF ∧ cs = csF ∧ (30 : TypeId) = (30 : TypeId))) := by kernel_rfl
end Go.Proofs.YtldoopjnjlpbpaaDoor
/- Of owns: Roots, Held: contracts. No condition. -/
namespace Go.Proofs.YtldoopjnjlpbpaaDoor
set_option maxRecDepth 100000
set_option linter.unusedSimpArgs false
set_option linter.unusedVariables false
theorem ERo_ok : EnvOk ERo := EnvOk.with E0_ok _ _ conP1_ok
theorem ERb_ok : EnvOk ERb := EnvOk.with E0_ok _ _ conP1_ok
theorem bi_i {R R' : Ren} {k : IntKind} {n : SI} {cs : Array Value} (h : (SA.ls [.f (.int k n)]).okM R cs) : (SA.ls [.f (.int k (.o n.den))]).okM R' cs := by
 have h : All2 (SC.ok R) [.f (.int k n)] cs.toList := h
 show All2 (SC.ok R') [.f (.int k (.o n.den))] cs.toList
 revert h
 generalize cs.toList = l
 intro h
 match l, h with
 | [v], h => exact ⟨h.1, trivial⟩
theorem an_nil {R R' : Ren} {l : List Value} (h : All2 (SF.ok R) [] l) : All2 (SF.ok R') [] l := by
 match l, h with
 | [], _ => trivial
theorem rk_mem {k : Int} {q : Nat} {b : SBlk} (hb : getB (rkM k).bl q = some b) : q = 0 ∧ b = ⟨.ls [.f (.int .i64 (.o k))], 3, false⟩ := by
 have hb : getB ((Tr.nil : Tr SBlk).set 0 (some ⟨.ls [.f (.int .i64 (.o k))], 3, false⟩)) q = some b := hb
 rw [getB_set] at hb
 split at hb
 ·rename_i e; cases hb; exact ⟨e, rfl⟩
 ·have hb : (Tr.nil : Tr SBlk).get q = some b := hb
  rw [Tr.get_nil] at hb
  cases hb
section
variable {os ts : Array Value} {kk : Int}
def filP (L : List Int) (P : Int → Bool) (i : Nat) : List Int := (L.take i).filter P
theorem filP_succ {L : List Int} {P : Int → Bool} {i : Nat} (hi : i < L.length) : filP L P (i + 1) = if P (L.getD i 0) = true then filP L P i ++ [L.getD i 0] else filP L P i := by
 unfold filP
 rw [take_one hi, List.filter_append, List.filter_cons, List.filter_nil]
 split <;> simp
theorem filP_le {L : List Int} {P : Int → Bool} (i : Nat) : (filP L P i).length ≤ i := by
 have := List.length_filter_le P (L.take i)
 rw [List.length_take] at this
 unfold filP
 omega
theorem filP_all (L : List Int) (P : Int → Bool) : filP L P L.length = L.filter P := by unfold filP; rw [List.take_length]
theorem filP_pre {L : List Int} {P : Int → Bool} {i j : Nat} (hi : i ≤ j) (e : filP L P j = []) : filP L P i = [] := by
 unfold filP at *
 have h : (L.take i) = (L.take j).take i := by rw [List.take_take, Nat.min_eq_left hi]
 rw [h]
 refine List.filter_eq_nil_iff.2 fun x hx => ?_
 exact List.filter_eq_nil_iff.1 e x (List.mem_of_mem_take hx)
theorem fnRt : E0.fn 41 = some Tryd.f41 := by kernel_rfl
theorem bodyRt : Tryd.f41.body = some (Tryd.f41.body.getD .skip) := by kernel_rfl
def aPr (os ts : Array Value) (kk x : Int) : Bool := (rtF ts x == x) && ((ofK os ts x == 1) && (IntKind.i64.wrap (ofT os ts x) == kk))
theorem aZS_good {n : Nat} {rs : Array Value} {A : SV → SMem → Prop} {QZ : Int → Prop} {QS : Int → Nat → Array Value → Prop} {fs : List SFr} {m : SMem} (hz : ∀ i, QZ i → Good Tryd.prog A 1 (aZ_F os ts kk n rs i) (aZ_M os ts kk n rs i)) (hs : ∀ i k cs, QS i k cs → Good Tryd.prog A 1 (aS_F os ts kk n rs i k cs) (aS_M os ts kk n rs i k cs)) (hb : aZS os ts kk n rs QZ QS fs m) : Good Tryd.prog A 1 fs m := by
 unfold aZS at hb
 split at hb
 ·split at hb
  ·exact aS_good hs hb
  ·exact aZ_good hz hb
 ·exact hb.elim
theorem aS_ok (ho : OsOk os) (hf : FIn ts) : ∀ (w i : Nat), i + w = (lvT ts).length → Good Tryd.prog (freshR (filP (lvT ts) (aPr os ts kk) (lvT ts).length).length (u32s (filP (lvT ts) (aPr os ts kk) (lvT ts).length))) 1 (aS_F os ts kk (lvT ts).length (u32s (lvT ts)) (i : Int) (filP (lvT ts) (aPr os ts kk) i).length (u32s (filP (lvT ts) (aPr os ts kk) i))) (aS_M os ts kk (lvT ts).length (u32s (lvT ts)) (i : Int) (filP (lvT ts) (aPr os ts kk) i).length (u32s (filP (lvT ts) (aPr os ts kk) i))) := by
 have hb := hf.ok
 have hs := hb.sz
 have hos := ho.sz
 have hlen := lv_len ts
 intro w
 induction w with
 | zero =>
  intro i hi
  obtain rfl : i = (lvT ts).length := by omega
  refine past_vc ERo_ok 1000 (a3 os ts kk _ _ _ _ _ (filP (lvT ts) (aPr os ts kk) (lvT ts).length).length (u32s (filP (lvT ts) (aPr os ts kk) (lvT ts).length)) (fun _ _ _ => False)) ?_ (fun _ _ h => h) (fun fs m hb => aS_good (fun _ _ _ h => h.elim) hb)
  have d : decide (((lvT ts).length : Int) < ((lvT ts).length : Int)) = false := decide_eq_false (by omega)
  simp only [d, true_implies, Bool.true_eq_false, Bool.false_eq_true, false_implies, and_true, true_and]
 | succ w ih =>
  intro i hi
  refine past_vc ERo_ok 1000 (a3 os ts kk _ _ (i : Int) _ _ (filP (lvT ts) (aPr os ts kk) (lvT ts).length).length (u32s (filP (lvT ts) (aPr os ts kk) (lvT ts).length)) (fun i' k' c' => i' = ((i + 1 : Nat) : Int) ∧ k' = (filP (lvT ts) (aPr os ts kk) (i + 1)).length ∧ c' = u32s (filP (lvT ts) (aPr os ts kk) (i + 1)))) ?_ (fun _ _ h => h) (fun fs m hb => aS_good (fun i' k' c' ⟨e1, e2, e3⟩ => by rw [e1, e2, e3]; exact ih (i + 1) (by omega)) hb)
  have hi' : i < (lvT ts).length := by omega
  have d : decide ((i : Int) < ((lvT ts).length : Int)) = true := decide_eq_true (by omega)
  have ei : ari .add .i64 (i : Int) 1 = ((i + 1 : Nat) : Int) := by rw [ari_add, i64_in' (by omega) (by omega)]; omega
  have g1 : IsInt .u32 (u32s (lvT ts)) i := isI_of (u32s_at hi')
  have g2 : intAt (u32s (lvT ts)) i = (lvT ts).getD i 0 := intAt_of (u32s_at hi')
  have hx : 0 ≤ (lvT ts).getD i 0 ∧ (lvT ts).getD i 0 < 4294967296 := lv_in hb (.inr (lv_at hb hi'))
  have y0 : 0 ≤ (i : Int) := by omega
  have y1 : (i : Int) < ((lvT ts).length : Int) := by omega
  have hl : (filP (lvT ts) (aPr os ts kk) i).length ≤ i := filP_le i
  have hl1 : (((filP (lvT ts) (aPr os ts kk) i).length + 1) * 4 ≤ 140737488355328 ∧ (filP (lvT ts) (aPr os ts kk) i).length + 1 ≤ 140737488355328) := ⟨by omega, by omega⟩
  rw [filP_succ hi']
  generalize (lvT ts).getD i 0 = x at *
  have eP : aPr os ts kk x = ((rtF ts x == x) && ((ofK os ts x == 1) && (IntKind.i64.wrap (ofT os ts x) == kk))) := rfl
  rw [eP]
  cases c1 : (rtF ts x == x) <;> cases c2 : (ofK os ts x == 1) <;> cases c3 : (IntKind.i64.wrap (ofT os ts x) == kk)
  all_goals
   simp only [Int.toNat_natCast, Nat.mul_one, Nat.zero_add, d, ei, g1, g2, hx, y0, y1, hs, ho, hos, hf, hb, beqT, beqF, u32s_size, u32s_app, u32s_one, List.length_append, List.length_cons, List.length_nil, decide_true, true_implies, and_true, true_and, Bool.true_eq_false, Bool.false_eq_true, false_implies, hl1, c1, c2, c3, Bool.and_true, Bool.and_false, Bool.true_and, Bool.false_and, Bool.and_self, if_true, if_false, aZ_d0_ok, aS_d0_ok, aZ_d0_ok, aS_d0_ok]
theorem aZ_s (ho : OsOk os) (hf : FIn ts) (hne : filP (lvT ts) (aPr os ts kk) (lvT ts).length ≠ []) : ∀ (w i : Nat), i + w = (lvT ts).length → (filP (lvT ts) (aPr os ts kk) i) = [] → Good Tryd.prog (freshR (filP (lvT ts) (aPr os ts kk) (lvT ts).length).length (u32s (filP (lvT ts) (aPr os ts kk) (lvT ts).length))) 1 (aZ_F os ts kk (lvT ts).length (u32s (lvT ts)) (i : Int)) (aZ_M os ts kk (lvT ts).length (u32s (lvT ts)) (i : Int)) := by
 have hb := hf.ok
 have hs := hb.sz
 have hos := ho.sz
 have hlen := lv_len ts
 intro w
 induction w with
 | zero =>
  intro i hi he
  obtain rfl : i = (lvT ts).length := by omega
  exact absurd he hne
 | succ w ih =>
  intro i hi he
  refine past_vc ERo_ok 1000 (a2 os ts kk _ _ (i : Int) (filP (lvT ts) (aPr os ts kk) (lvT ts).length).length (u32s (filP (lvT ts) (aPr os ts kk) (lvT ts).length)) (fun i' => i' = ((i + 1 : Nat) : Int) ∧ (filP (lvT ts) (aPr os ts kk) (i + 1)) = []) (fun i' k' c' => i' = ((i + 1 : Nat) : Int) ∧ k' = (filP (lvT ts) (aPr os ts kk) (i + 1)).length ∧ c' = u32s (filP (lvT ts) (aPr os ts kk) (i + 1)))) ?_ (fun _ _ h => h) (fun fs m hb' => aZS_good (fun i' ⟨e1, e2⟩ => by rw [e1]; exact ih (i + 1) (by omega) e2) (fun i' k' c' ⟨e1, e2, e3⟩ => by rw [e1, e2, e3]; exact aS_ok ho hf w (i + 1) (by omega)) hb')
  have hi' : i < (lvT ts).length := by omega
  have d : decide ((i : Int) < ((lvT ts).length : Int)) = true := decide_eq_true (by omega)
  have ei : ari .add .i64 (i : Int) 1 = ((i + 1 : Nat) : Int) := by rw [ari_add, i64_in' (by omega) (by omega)]; omega
  have g1 : IsInt .u32 (u32s (lvT ts)) i := isI_of (u32s_at hi')
  have g2 : intAt (u32s (lvT ts)) i = (lvT ts).getD i 0 := intAt_of (u32s_at hi')
  have hx : 0 ≤ (lvT ts).getD i 0 ∧ (lvT ts).getD i 0 < 4294967296 := lv_in hb (.inr (lv_at hb hi'))
  have y0 : 0 ≤ (i : Int) := by omega
  have y1 : (i : Int) < ((lvT ts).length : Int) := by omega
  rw [filP_succ hi', he]
  generalize (lvT ts).getD i 0 = x at *
  have eP : aPr os ts kk x = ((rtF ts x == x) && ((ofK os ts x == 1) && (IntKind.i64.wrap (ofT os ts x) == kk))) := rfl
  rw [eP]
  cases c1 : (rtF ts x == x) <;> cases c2 : (ofK os ts x == 1) <;> cases c3 : (IntKind.i64.wrap (ofT os ts x) == kk)
  all_goals
   simp only [Int.toNat_natCast, Nat.mul_one, Nat.zero_add, d, ei, g1, g2, hx, y0, y1, hs, ho, hos, hf, hb, beqT, beqF, u32s_size, u32s_app, u32s_one, List.length_append, List.length_cons, List.length_nil, decide_true, true_implies, and_true, true_and, Bool.true_eq_false, Bool.false_eq_true, false_implies, c1, c2, c3, List.nil_append, Bool.and_true, Bool.and_false, Bool.true_and, Bool.false_and, Bool.and_self, if_true, if_false, aZ_d0_ok, aS_d0_ok, aZ_d0_ok, aS_d0_ok]
theorem aZ_nn (ho : OsOk os) (hf : FIn ts) (hne : filP (lvT ts) (aPr os ts kk) (lvT ts).length = []) : ∀ (w i : Nat), i + w = (lvT ts).length → Good Tryd.prog nilR 1 (aZ_F os ts kk (lvT ts).length (u32s (lvT ts)) (i : Int)) (aZ_M os ts kk (lvT ts).length (u32s (lvT ts)) (i : Int)) := by
 have hb := hf.ok
 have hs := hb.sz
 have hos := ho.sz
 have hlen := lv_len ts
 intro w
 induction w with
 | zero =>
  intro i hi
  obtain rfl : i = (lvT ts).length := by omega
  refine past_vc ERo_ok 1000 (a1 os ts kk _ _ _ (fun _ => False) (fun _ _ _ => False)) ?_ (fun _ _ h => h) (fun fs m hb => aZS_good (fun _ h => h.elim) (fun _ _ _ h => h.elim) hb)
  have d : decide (((lvT ts).length : Int) < ((lvT ts).length : Int)) = false := decide_eq_false (by omega)
  simp only [d, true_implies, Bool.true_eq_false, Bool.false_eq_true, false_implies, and_true, true_and]
 | succ w ih =>
  intro i hi
  refine past_vc ERo_ok 1000 (a1 os ts kk _ _ (i : Int) (fun i' => i' = ((i + 1 : Nat) : Int)) (fun _ _ _ => False)) ?_ (fun _ _ h => h) (fun fs m hb' => aZS_good (fun i' e1 => by rw [e1]; exact ih (i + 1) (by omega)) (fun _ _ _ h => h.elim) hb')
  have hi' : i < (lvT ts).length := by omega
  have d : decide ((i : Int) < ((lvT ts).length : Int)) = true := decide_eq_true (by omega)
  have ei : ari .add .i64 (i : Int) 1 = ((i + 1 : Nat) : Int) := by rw [ari_add, i64_in' (by omega) (by omega)]; omega
  have g1 : IsInt .u32 (u32s (lvT ts)) i := isI_of (u32s_at hi')
  have g2 : intAt (u32s (lvT ts)) i = (lvT ts).getD i 0 := intAt_of (u32s_at hi')
  have hx : 0 ≤ (lvT ts).getD i 0 ∧ (lvT ts).getD i 0 < 4294967296 := lv_in hb (.inr (lv_at hb hi'))
  have y0 : 0 ≤ (i : Int) := by omega
  have y1 : (i : Int) < ((lvT ts).length : Int) := by omega
  have he := filP_pre (i := i + 1) (by omega) hne
  have hP : aPr os ts kk ((lvT ts).getD i 0) = false := by
   rw [filP_succ hi'] at he
   split at he
   ·simp at he
   ·rename_i k; simpa using k
  generalize (lvT ts).getD i 0 = x at *
  have eP : aPr os ts kk x = ((rtF ts x == x) && ((ofK os ts x == 1) && (IntKind.i64.wrap (ofT os ts x) == kk))) := rfl
  rw [eP] at hP
  revert hP
  cases c1 : (rtF ts x == x) <;> cases c2 : (ofK os ts x == 1) <;> cases c3 : (IntKind.i64.wrap (ofT os ts x) == kk)
  all_goals
   simp only [Int.toNat_natCast, Nat.mul_one, Nat.zero_add, d, ei, g1, g2, hx, y0, y1, hs, ho, hos, hf, hb, beqT, beqF, u32s_size, u32s_app, u32s_one, List.length_append, List.length_cons, List.length_nil, decide_true, true_implies, and_true, true_and, Bool.true_eq_false, Bool.false_eq_true, false_implies, c1, c2, c3, Bool.and_true, Bool.and_false, Bool.true_and, Bool.false_and, Bool.and_self, if_true, if_false, implies_true, aZ_d0_ok, aS_d0_ok, aZ_d0_ok, aS_d0_ok]
theorem a_con {m : SMem} {i : Nat} {n0 : SI} {w0 : Bool} (hb0 : getB m.bl i = some ⟨.ls [.f (.int .i64 n0)], 3, w0⟩) : Con E0 41 [osS os, tbS ts, .s (.c (.fn (.func 42) [] [.ptr i (.l 0)]))] m (.need [OsOk os, FIn ts] (rowT (filP (lvT ts) (aPr os ts n0.den) (lvT ts).length) 30 m)) := by
 have hm : ∀ q b, getB (rkM n0.den).bl q = some b → q < (rkM n0.den).next ∧ b.wr = false ∧ ∃ d, getB m.bl ((fun q => i) q) = some d ∧ b.ty = d.ty ∧ ∀ R cs, d.arr.okM R cs → b.arr.okM (pull (fun q => i) (rkM n0.den).next R) cs := by
  intro q b hb
  obtain ⟨rfl, rfl⟩ := rk_mem hb
  exact ⟨(show 0 < 1 by decide), rfl, _, hb0, rfl, fun R cs' h => bi_i h⟩
 have hl : ∀ R vs, All2 (SV.ok R) [osS os, tbS ts, .s (.c (.fn (.func 42) [] [.ptr i (.l 0)]))] vs → All2 (SV.ok (pull (fun q => i) (rkM n0.den).next R)) [osS os, tbS ts, aC] vs := by
  intro R vs ha
  match vs, ha with
  | [u, u', v], ha =>
   obtain ⟨h0, h0', ⟨a, b, e, h1, h2⟩, _⟩ := ha
   refine ⟨h0, h0', ⟨a, b, e, an_nil h1, ?_⟩, trivial⟩
   revert h2
   generalize b.toList = l
   intro h2
   match l, h2 with
   | [c0], ⟨q0, _⟩ => exact ⟨(let ⟨g, e1, e2⟩ := q0; ⟨g, (by unfold pull; exact e1), e2⟩), trivial⟩
 refine Con.asked fun hq => ?_
 have ho : OsOk os := hq _ (by simp)
 have hf : FIn ts := hq _ (by simp)
 have hb := hf.ok
 have hs := hb.sz
 have hos := ho.sz
 refine Con.two (fun hz => ?_) (fun hz => ?_)
 ·have he : filP (lvT ts) (aPr os ts n0.den) (lvT ts).length = [] := List.eq_nil_of_length_eq_zero (of_decide_eq_true hz)
  refine Con.readV (q := []) E0_ok fnRt bodyRt rfl _ hm hl (A := nilR) (fun _ => ?_) ?_
  ·cases c : decide ((lvT ts).length = 0) with
   | true =>
    refine run_vc ERb_ok 1000 (a0E os ts n0.den) ?_ (fun s m h => h) fun fs m hb => hb.elim
    simp only [c, hs, hb, hos, true_implies, Bool.true_eq_false, Bool.false_eq_true, false_implies, and_true, true_and]
   | false =>
    refine run_vc ERo_ok 1000 (a0N os ts n0.den (lvT ts).length (u32s (lvT ts)) (fun i => i = ((0 : Nat) : Int))) ?_ (fun s m h => h) fun fs m hb => aZ_good (fun i e => by rw [e]; exact aZ_nn ho hf he _ 0 (Nat.zero_add _)) hb
    simp only [c, hs, hb, hos, true_implies, Bool.true_eq_false, Bool.false_eq_true, false_implies, and_true, true_and, aZ_d0_ok, aS_d0_ok, aZ_d0_ok, aS_d0_ok]
    rfl
  ·intro s m' R R' v hs hv
   unfold nilR at hs
   split at hs
   ·exact hv
   ·exact hs.elim
 ·have he : filP (lvT ts) (aPr os ts n0.den) (lvT ts).length ≠ [] := fun e => by
   have := of_decide_eq_false hz
   rw [e] at this
   exact this rfl
  have hl0 : (lvT ts).length ≠ 0 := fun e => by
   have e0 := List.eq_nil_of_length_eq_zero e
   apply he
   unfold filP
   rw [e0]
   rfl
  have c : decide ((lvT ts).length = 0) = false := decide_eq_false hl0
  refine Con.readN (q := []) E0_ok fnRt bodyRt rfl _ hm hl rfl fun _ => (run_vc ERo_ok 1000 (a0F os ts n0.den (lvT ts).length (u32s (lvT ts)) (filP (lvT ts) (aPr os ts n0.den) (lvT ts).length).length (u32s (filP (lvT ts) (aPr os ts n0.den) (lvT ts).length)) (fun i => i = ((0 : Nat) : Int))) ?_ (fun s m h => h) fun fs m hb => aZ_good (A := freshR (filP (lvT ts) (aPr os ts n0.den) (lvT ts).length).length (u32s (filP (lvT ts) (aPr os ts n0.den) (lvT ts).length))) (fun i e => by rw [e]; exact aZ_s ho hf he _ 0 (Nat.zero_add _) rfl) hb).mono ?_
  ·simp only [c, hs, hb, hos, true_implies, Bool.true_eq_false, Bool.false_eq_true, false_implies, and_true, true_and, aZ_d0_ok, aS_d0_ok, aZ_d0_ok, aS_d0_ok]
   rfl
  ·intro s m' hs
   unfold freshR at hs
   split at hs
   ·rename_i id nn
    split at hs
    ·rename_i ds ty hb
     obtain ⟨h1, rfl, rfl, rfl⟩ := hs
     exact ⟨id, Nat.le_of_ble_eq_true h1, rfl, hb⟩
    ·exact hs.elim
   ·exact hs.elim
def bPr (os ts : Array Value) (kk x : Int) : Bool := (rtF ts x == x) && ((ofK os ts x == 3) && hoB (ofH os ts x) kk)
theorem bZS_good {n : Nat} {rs : Array Value} {A : SV → SMem → Prop} {QZ : Int → Prop} {QS : Int → Nat → Array Value → Prop} {fs : List SFr} {m : SMem} (hz : ∀ i, QZ i → Good Tryd.prog A 1 (bZ_F os ts kk n rs i) (bZ_M os ts kk n rs i)) (hs : ∀ i k cs, QS i k cs → Good Tryd.prog A 1 (bS_F os ts kk n rs i k cs) (bS_M os ts kk n rs i k cs)) (hb : bZS os ts kk n rs QZ QS fs m) : Good Tryd.prog A 1 fs m := by
 unfold bZS at hb
 split at hb
 ·split at hb
  ·exact bS_good hs hb
  ·exact bZ_good hz hb
 ·exact hb.elim
theorem bS_ok (ho : OsOk os) (hf : FIn ts) : ∀ (w i : Nat), i + w = (lvT ts).length → Good Tryd.prog (freshR (filP (lvT ts) (bPr os ts kk) (lvT ts).length).length (u32s (filP (lvT ts) (bPr os ts kk) (lvT ts).length))) 1 (bS_F os ts kk (lvT ts).length (u32s (lvT ts)) (i : Int) (filP (lvT ts) (bPr os ts kk) i).length (u32s (filP (lvT ts) (bPr os ts kk) i))) (bS_M os ts kk (lvT ts).length (u32s (lvT ts)) (i : Int) (filP (lvT ts) (bPr os ts kk) i).length (u32s (filP (lvT ts) (bPr os ts kk) i))) := by
 have hb := hf.ok
 have hs := hb.sz
 have hos := ho.sz
 have hlen := lv_len ts
 intro w
 induction w with
 | zero =>
  intro i hi
  obtain rfl : i = (lvT ts).length := by omega
  refine past_vc ERo_ok 1000 (b3 os ts kk _ _ _ _ _ (filP (lvT ts) (bPr os ts kk) (lvT ts).length).length (u32s (filP (lvT ts) (bPr os ts kk) (lvT ts).length)) (fun _ _ _ => False)) ?_ (fun _ _ h => h) (fun fs m hb => bS_good (fun _ _ _ h => h.elim) hb)
  have d : decide (((lvT ts).length : Int) < ((lvT ts).length : Int)) = false := decide_eq_false (by omega)
  simp only [d, true_implies, Bool.true_eq_false, Bool.false_eq_true, false_implies, and_true, true_and]
 | succ w ih =>
  intro i hi
  refine past_vc ERo_ok 1000 (b3 os ts kk _ _ (i : Int) _ _ (filP (lvT ts) (bPr os ts kk) (lvT ts).length).length (u32s (filP (lvT ts) (bPr os ts kk) (lvT ts).length)) (fun i' k' c' => i' = ((i + 1 : Nat) : Int) ∧ k' = (filP (lvT ts) (bPr os ts kk) (i + 1)).length ∧ c' = u32s (filP (lvT ts) (bPr os ts kk) (i + 1)))) ?_ (fun _ _ h => h) (fun fs m hb => bS_good (fun i' k' c' ⟨e1, e2, e3⟩ => by rw [e1, e2, e3]; exact ih (i + 1) (by omega)) hb)
  have hi' : i < (lvT ts).length := by omega
  have d : decide ((i : Int) < ((lvT ts).length : Int)) = true := decide_eq_true (by omega)
  have ei : ari .add .i64 (i : Int) 1 = ((i + 1 : Nat) : Int) := by rw [ari_add, i64_in' (by omega) (by omega)]; omega
  have g1 : IsInt .u32 (u32s (lvT ts)) i := isI_of (u32s_at hi')
  have g2 : intAt (u32s (lvT ts)) i = (lvT ts).getD i 0 := intAt_of (u32s_at hi')
  have hx : 0 ≤ (lvT ts).getD i 0 ∧ (lvT ts).getD i 0 < 4294967296 := lv_in hb (.inr (lv_at hb hi'))
  have y0 : 0 ≤ (i : Int) := by omega
  have y1 : (i : Int) < ((lvT ts).length : Int) := by omega
  have hl : (filP (lvT ts) (bPr os ts kk) i).length ≤ i := filP_le i
  have hl1 : (((filP (lvT ts) (bPr os ts kk) i).length + 1) * 4 ≤ 140737488355328 ∧ (filP (lvT ts) (bPr os ts kk) i).length + 1 ≤ 140737488355328) := ⟨by omega, by omega⟩
  rw [filP_succ hi']
  generalize (lvT ts).getD i 0 = x at *
  have eP : bPr os ts kk x = ((rtF ts x == x) && ((ofK os ts x == 3) && hoB (ofH os ts x) kk)) := rfl
  rw [eP]
  cases c1 : (rtF ts x == x) <;> cases c2 : (ofK os ts x == 3) <;> cases c3 : hoB (ofH os ts x) kk
  all_goals
   simp only [Int.toNat_natCast, Nat.mul_one, Nat.zero_add, d, ei, g1, g2, hx, y0, y1, hs, ho, hos, hf, hb, beqT, beqF, u32s_size, u32s_app, u32s_one, List.length_append, List.length_cons, List.length_nil, decide_true, true_implies, and_true, true_and, Bool.true_eq_false, Bool.false_eq_true, false_implies, hl1, c1, c2, c3, Bool.and_true, Bool.and_false, Bool.true_and, Bool.false_and, Bool.and_self, if_true, if_false, bZ_d0_ok, bS_d0_ok, aZ_d0_ok, aS_d0_ok]
theorem bZ_s (ho : OsOk os) (hf : FIn ts) (hne : filP (lvT ts) (bPr os ts kk) (lvT ts).length ≠ []) : ∀ (w i : Nat), i + w = (lvT ts).length → (filP (lvT ts) (bPr os ts kk) i) = [] → Good Tryd.prog (freshR (filP (lvT ts) (bPr os ts kk) (lvT ts).length).length (u32s (filP (lvT ts) (bPr os ts kk) (lvT ts).length))) 1 (bZ_F os ts kk (lvT ts).length (u32s (lvT ts)) (i : Int)) (bZ_M os ts kk (lvT ts).length (u32s (lvT ts)) (i : Int)) := by
 have hb := hf.ok
 have hs := hb.sz
 have hos := ho.sz
 have hlen := lv_len ts
 intro w
 induction w with
 | zero =>
  intro i hi he
  obtain rfl : i = (lvT ts).length := by omega
  exact absurd he hne
 | succ w ih =>
  intro i hi he
  refine past_vc ERo_ok 1000 (b2 os ts kk _ _ (i : Int) (filP (lvT ts) (bPr os ts kk) (lvT ts).length).length (u32s (filP (lvT ts) (bPr os ts kk) (lvT ts).length)) (fun i' => i' = ((i + 1 : Nat) : Int) ∧ (filP (lvT ts) (bPr os ts kk) (i + 1)) = []) (fun i' k' c' => i' = ((i + 1 : Nat) : Int) ∧ k' = (filP (lvT ts) (bPr os ts kk) (i + 1)).length ∧ c' = u32s (filP (lvT ts) (bPr os ts kk) (i + 1)))) ?_ (fun _ _ h => h) (fun fs m hb' => bZS_good (fun i' ⟨e1, e2⟩ => by rw [e1]; exact ih (i + 1) (by omega) e2) (fun i' k' c' ⟨e1, e2, e3⟩ => by rw [e1, e2, e3]; exact bS_ok ho hf w (i + 1) (by omega)) hb')
  have hi' : i < (lvT ts).length := by omega
  have d : decide ((i : Int) < ((lvT ts).length : Int)) = true := decide_eq_true (by omega)
  have ei : ari .add .i64 (i : Int) 1 = ((i + 1 : Nat) : Int) := by rw [ari_add, i64_in' (by omega) (by omega)]; omega
  have g1 : IsInt .u32 (u32s (lvT ts)) i := isI_of (u32s_at hi')
  have g2 : intAt (u32s (lvT ts)) i = (lvT ts).getD i 0 := intAt_of (u32s_at hi')
  have hx : 0 ≤ (lvT ts).getD i 0 ∧ (lvT ts).getD i 0 < 4294967296 := lv_in hb (.inr (lv_at hb hi'))
  have y0 : 0 ≤ (i : Int) := by omega
  have y1 : (i : Int) < ((lvT ts).length : Int) := by omega
  rw [filP_succ hi', he]
  generalize (lvT ts).getD i 0 = x at *
  have eP : bPr os ts kk x = ((rtF ts x == x) && ((ofK os ts x == 3) && hoB (ofH os ts x) kk)) := rfl
  rw [eP]
  cases c1 : (rtF ts x == x) <;> cases c2 : (ofK os ts x == 3) <;> cases c3 : hoB (ofH os ts x) kk
  all_goals
   simp only [Int.toNat_natCast, Nat.mul_one, Nat.zero_add, d, ei, g1, g2, hx, y0, y1, hs, ho, hos, hf, hb, beqT, beqF, u32s_size, u32s_app, u32s_one, List.length_append, List.length_cons, List.length_nil, decide_true, true_implies, and_true, true_and, Bool.true_eq_false, Bool.false_eq_true, false_implies, c1, c2, c3, List.nil_append, Bool.and_true, Bool.and_false, Bool.true_and, Bool.false_and, Bool.and_self, if_true, if_false, bZ_d0_ok, bS_d0_ok, aZ_d0_ok, aS_d0_ok]
theorem bZ_nn (ho : OsOk os) (hf : FIn ts) (hne : filP (lvT ts) (bPr os ts kk) (lvT ts).length = []) : ∀ (w i : Nat), i + w = (lvT ts).length → Good Tryd.prog nilR 1 (bZ_F os ts kk (lvT ts).length (u32s (lvT ts)) (i : Int)) (bZ_M os ts kk (lvT ts).length (u32s (lvT ts)) (i : Int)) := by
 have hb := hf.ok
 have hs := hb.sz
 have hos := ho.sz
 have hlen := lv_len ts
 intro w
 induction w with
 | zero =>
  intro i hi
  obtain rfl : i = (lvT ts).length := by omega
  refine past_vc ERo_ok 1000 (b1 os ts kk _ _ _ (fun _ => False) (fun _ _ _ => False)) ?_ (fun _ _ h => h) (fun fs m hb => bZS_good (fun _ h => h.elim) (fun _ _ _ h => h.elim) hb)
  have d : decide (((lvT ts).length : Int) < ((lvT ts).length : Int)) = false := decide_eq_false (by omega)
  simp only [d, true_implies, Bool.true_eq_false, Bool.false_eq_true, false_implies, and_true, true_and]
 | succ w ih =>
  intro i hi
  refine past_vc ERo_ok 1000 (b1 os ts kk _ _ (i : Int) (fun i' => i' = ((i + 1 : Nat) : Int)) (fun _ _ _ => False)) ?_ (fun _ _ h => h) (fun fs m hb' => bZS_good (fun i' e1 => by rw [e1]; exact ih (i + 1) (by omega)) (fun _ _ _ h => h.elim) hb')
  have hi' : i < (lvT ts).length := by omega
  have d : decide ((i : Int) < ((lvT ts).length : Int)) = true := decide_eq_true (by omega)
  have ei : ari .add .i64 (i : Int) 1 = ((i + 1 : Nat) : Int) := by rw [ari_add, i64_in' (by omega) (by omega)]; omega
  have g1 : IsInt .u32 (u32s (lvT ts)) i := isI_of (u32s_at hi')
  have g2 : intAt (u32s (lvT ts)) i = (lvT ts).getD i 0 := intAt_of (u32s_at hi')
  have hx : 0 ≤ (lvT ts).getD i 0 ∧ (lvT ts).getD i 0 < 4294967296 := lv_in hb (.inr (lv_at hb hi'))
  have y0 : 0 ≤ (i : Int) := by omega
  have y1 : (i : Int) < ((lvT ts).length : Int) := by omega
  have he := filP_pre (i := i + 1) (by omega) hne
  have hP : bPr os ts kk ((lvT ts).getD i 0) = false := by
   rw [filP_succ hi'] at he
   split at he
   ·simp at he
   ·rename_i k; simpa using k
  generalize (lvT ts).getD i 0 = x at *
  have eP : bPr os ts kk x = ((rtF ts x == x) && ((ofK os ts x == 3) && hoB (ofH os ts x) kk)) := rfl
  rw [eP] at hP
  revert hP
  cases c1 : (rtF ts x == x) <;> cases c2 : (ofK os ts x == 3) <;> cases c3 : hoB (ofH os ts x) kk
  all_goals
   simp only [Int.toNat_natCast, Nat.mul_one, Nat.zero_add, d, ei, g1, g2, hx, y0, y1, hs, ho, hos, hf, hb, beqT, beqF, u32s_size, u32s_app, u32s_one, List.length_append, List.length_cons, List.length_nil, decide_true, true_implies, and_true, true_and, Bool.true_eq_false, Bool.false_eq_true, false_implies, c1, c2, c3, Bool.and_true, Bool.and_false, Bool.true_and, Bool.false_and, Bool.and_self, if_true, if_false, implies_true, bZ_d0_ok, bS_d0_ok, aZ_d0_ok, aS_d0_ok]
theorem b_con {m : SMem} {i : Nat} {n0 : SI} {w0 : Bool} (hb0 : getB m.bl i = some ⟨.ls [.f (.int .i64 n0)], 3, w0⟩) : Con E0 41 [osS os, tbS ts, .s (.c (.fn (.func 43) [] [.ptr i (.l 0)]))] m (.need [OsOk os, FIn ts] (rowT (filP (lvT ts) (bPr os ts n0.den) (lvT ts).length) 30 m)) := by
 have hm : ∀ q b, getB (rkM n0.den).bl q = some b → q < (rkM n0.den).next ∧ b.wr = false ∧ ∃ d, getB m.bl ((fun q => i) q) = some d ∧ b.ty = d.ty ∧ ∀ R cs, d.arr.okM R cs → b.arr.okM (pull (fun q => i) (rkM n0.den).next R) cs := by
  intro q b hb
  obtain ⟨rfl, rfl⟩ := rk_mem hb
  exact ⟨(show 0 < 1 by decide), rfl, _, hb0, rfl, fun R cs' h => bi_i h⟩
 have hl : ∀ R vs, All2 (SV.ok R) [osS os, tbS ts, .s (.c (.fn (.func 43) [] [.ptr i (.l 0)]))] vs → All2 (SV.ok (pull (fun q => i) (rkM n0.den).next R)) [osS os, tbS ts, bC] vs := by
  intro R vs ha
  match vs, ha with
  | [u, u', v], ha =>
   obtain ⟨h0, h0', ⟨a, b, e, h1, h2⟩, _⟩ := ha
   refine ⟨h0, h0', ⟨a, b, e, an_nil h1, ?_⟩, trivial⟩
   revert h2
   generalize b.toList = l
   intro h2
   match l, h2 with
   | [c0], ⟨q0, _⟩ => exact ⟨(let ⟨g, e1, e2⟩ := q0; ⟨g, (by unfold pull; exact e1), e2⟩), trivial⟩
 refine Con.asked fun hq => ?_
 have ho : OsOk os := hq _ (by simp)
 have hf : FIn ts := hq _ (by simp)
 have hb := hf.ok
 have hs := hb.sz
 have hos := ho.sz
 refine Con.two (fun hz => ?_) (fun hz => ?_)
 ·have he : filP (lvT ts) (bPr os ts n0.den) (lvT ts).length = [] := List.eq_nil_of_length_eq_zero (of_decide_eq_true hz)
  refine Con.readV (q := []) E0_ok fnRt bodyRt rfl _ hm hl (A := nilR) (fun _ => ?_) ?_
  ·cases c : decide ((lvT ts).length = 0) with
   | true =>
    refine run_vc ERb_ok 1000 (b0E os ts n0.den) ?_ (fun s m h => h) fun fs m hb => hb.elim
    simp only [c, hs, hb, hos, true_implies, Bool.true_eq_false, Bool.false_eq_true, false_implies, and_true, true_and]
   | false =>
    refine run_vc ERo_ok 1000 (b0N os ts n0.den (lvT ts).length (u32s (lvT ts)) (fun i => i = ((0 : Nat) : Int))) ?_ (fun s m h => h) fun fs m hb => bZ_good (fun i e => by rw [e]; exact bZ_nn ho hf he _ 0 (Nat.zero_add _)) hb
    simp only [c, hs, hb, hos, true_implies, Bool.true_eq_false, Bool.false_eq_true, false_implies, and_true, true_and, bZ_d0_ok, bS_d0_ok, aZ_d0_ok, aS_d0_ok]
    rfl
  ·intro s m' R R' v hs hv
   unfold nilR at hs
   split at hs
   ·exact hv
   ·exact hs.elim
 ·have he : filP (lvT ts) (bPr os ts n0.den) (lvT ts).length ≠ [] := fun e => by
   have := of_decide_eq_false hz
   rw [e] at this
   exact this rfl
  have hl0 : (lvT ts).length ≠ 0 := fun e => by
   have e0 := List.eq_nil_of_length_eq_zero e
   apply he
   unfold filP
   rw [e0]
   rfl
  have c : decide ((lvT ts).length = 0) = false := decide_eq_false hl0
  refine Con.readN (q := []) E0_ok fnRt bodyRt rfl _ hm hl rfl fun _ => (run_vc ERo_ok 1000 (b0F os ts n0.den (lvT ts).length (u32s (lvT ts)) (filP (lvT ts) (bPr os ts n0.den) (lvT ts).length).length (u32s (filP (lvT ts) (bPr os ts n0.den) (lvT ts).length)) (fun i => i = ((0 : Nat) : Int))) ?_ (fun s m h => h) fun fs m hb => bZ_good (A := freshR (filP (lvT ts) (bPr os ts n0.den) (lvT ts).length).length (u32s (filP (lvT ts) (bPr os ts n0.den) (lvT ts).length))) (fun i e => by rw [e]; exact bZ_s ho hf he _ 0 (Nat.zero_add _) rfl) hb).mono ?_
  ·simp only [c, hs, hb, hos, true_implies, Bool.true_eq_false, Bool.false_eq_true, false_implies, and_true, true_and, bZ_d0_ok, bS_d0_ok, aZ_d0_ok, aS_d0_ok]
   rfl
  ·intro s m' hs
   unfold freshR at hs
   split at hs
   ·rename_i id nn
    split at hs
    ·rename_i ds ty hb
     obtain ⟨h1, rfl, rfl, rfl⟩ := hs
     exact ⟨id, Nat.le_of_ble_eq_true h1, rfl, hb⟩
    ·exact hs.elim
   ·exact hs.elim
end
end Go.Proofs.YtldoopjnjlpbpaaDoor
/- Of owns: Roots, Held, what stands how often in a row, what was said before: states. No condition. -/
namespace Go.Proofs.YtldoopjnjlpbpaaDoor
set_option linter.unusedVariables false
noncomputable def conP2 (g : FuncId) (l : List SV) (m : SMem) : Option Tree := match g, l with
 | 41, [.s (.agg (.op os)), .s (.agg (.op ts)), .s (.c (.fn (.func 42) [] [.ptr i (.l 0)]))] => (match getB m.bl i with | some ⟨.ls [.f (.int .i64 n0)], 3, _⟩ => some (.need [OsOk os, FIn ts] (rowT (filP (lvT ts) (aPr os ts n0.den) (lvT ts).length) 30 m)) | _ => none)
 | 41, [.s (.agg (.op os)), .s (.agg (.op ts)), .s (.c (.fn (.func 43) [] [.ptr i (.l 0)]))] => (match getB m.bl i with | some ⟨.ls [.f (.int .i64 n0)], 3, _⟩ => some (.need [OsOk os, FIn ts] (rowT (filP (lvT ts) (bPr os ts n0.den) (lvT ts).length) 30 m)) | _ => none)
 | g, l => conP1 g l m
noncomputable def EP2 : Env := ⟨Tryd.prog, fnOf, conP2, haltAt []⟩
noncomputable def EIn : Env := ⟨Tryd.prog, fnOf, conP1, haltAt [40 * 1000 + 3]⟩
noncomputable def EBf : Env := ⟨Tryd.prog, fnOf, conP1, haltAt [10 * 1000 + 2]⟩
noncomputable def r0S (n : Nat) : SV := .s (.c (.f (.slice 0 (.l 0) (.o n) (.full 1))))
noncomputable def acS (off n : Nat) : SV := .s (.c (.f (.slice 0 (.o off) (.o n) .any)))
noncomputable def inM (rs : Array Value) : SMem := mkM 1 [(0, ⟨.pop rs, 30, false⟩)]
noncomputable def acM (cs : Array Value) (ty : TypeId) : SMem := mkM 1 [(0, ⟨.raw cs, ty, false⟩)]
noncomputable def iL_d0 : List SIt := sekF Tryd.f40 3
noncomputable def iL_F (n : Nat) (rs : Array Value) (h : Int) (i : Int) (c : Int) : List SFr := [frOf 40 Tryd.f40 [(0, r0S n), (1, .s (.c (.f (.int .u32 (.o h))))), (5, i64 (.o c)), (6, i64 (.o i))] iL_d0]
noncomputable def iL_M (n : Nat) (rs : Array Value) (h : Int) (i : Int) (c : Int) : SMem := mkM 1 [(0, ⟨.pop rs, 30, false⟩)]
noncomputable def iL_n (n : Nat) (rs : Array Value) (h : Int) (Q : Int → Int → Prop) (fs : List SFr) (m : SMem) : Prop := (match frNth fs 0 with | some f0 => (match rdI f0 6 with | some i => (match rdI f0 5 with | some c => Q i c ∧ subOk 1 [] (iL_F n rs h i c) (iL_M n rs h i c) fs m | none => False) | none => False) | none => False)
noncomputable def bL_d0 : List SIt := sekF Tryd.f10 2
noncomputable def bL_F (off : Nat) (n : Nat) (cs : Array Value) (ty : TypeId) (a : Int) (i : Int) : List SFr := [frOf 10 Tryd.f10 [(0, acS off n), (1, .s (.c (.f (.int .u32 (.o a))))), (5, i64 (.o i))] bL_d0]
noncomputable def bL_M (off : Nat) (n : Nat) (cs : Array Value) (ty : TypeId) (a : Int) (i : Int) : SMem := mkM 1 [(0, ⟨.raw cs, ty, false⟩)]
noncomputable def bL_n (off : Nat) (n : Nat) (cs : Array Value) (ty : TypeId) (a : Int) (Q : Int → Prop) (fs : List SFr) (m : SMem) : Prop := (match frNth fs 0 with | some f0 => (match rdI f0 5 with | some i => Q i ∧ subOk 1 [] (bL_F off n cs ty a i) (bL_M off n cs ty a i) fs m | none => False) | none => False)
noncomputable def in0_t (n : Nat) (rs : Array Value) (h : Int) : Tree := run EIn 1000 1 [callFr 40 Tryd.f40.ntmps [r0S n, u32 h] (Tryd.f40.body.getD .skip)] (inM rs)
noncomputable def in0_x (n : Nat) (rs : Array Value) (h : Int) (QiL : Int → Int → Prop) (fs : List SFr) (m : SMem) : Prop := iL_n n rs h QiL fs m
noncomputable def in1_t (n : Nat) (rs : Array Value) (h : Int) (i : Int) (c : Int) : Tree := stepT EIn.go (run EIn 1000) 1 (iL_F n rs h i c) (iL_M n rs h i c)
noncomputable def in1_x (n : Nat) (rs : Array Value) (h : Int) (i : Int) (c : Int) (QiL : Int → Int → Prop) (fs : List SFr) (m : SMem) : Prop := iL_n n rs h QiL fs m
noncomputable def bf0_t (off : Nat) (n : Nat) (cs : Array Value) (ty : TypeId) (a : Int) : Tree := run EBf 1000 1 [callFr 10 Tryd.f10.ntmps [acS off n, u32 a] (Tryd.f10.body.getD .skip)] (acM cs ty)
noncomputable def bf0_x (off : Nat) (n : Nat) (cs : Array Value) (ty : TypeId) (a : Int) (QbL : Int → Prop) (fs : List SFr) (m : SMem) : Prop := bL_n off n cs ty a QbL fs m
noncomputable def bf1_t (off : Nat) (n : Nat) (cs : Array Value) (ty : TypeId) (a : Int) (i : Int) : Tree := stepT EBf.go (run EBf 1000) 1 (bL_F off n cs ty a i) (bL_M off n cs ty a i)
noncomputable def bf1_x (off : Nat) (n : Nat) (cs : Array Value) (ty : TypeId) (a : Int) (i : Int) (QbL : Int → Prop) (fs : List SFr) (m : SMem) : Prop := bL_n off n cs ty a QbL fs m
theorem iL_d0_ok (r : Nat → Option Nat) : TodoOk r iL_d0 iL_d0 := TodoOk.it (by kernel_rfl)
theorem bL_d0_ok (r : Nat → Option Nat) : TodoOk r bL_d0 bL_d0 := TodoOk.it (by kernel_rfl)
theorem iL_good {A : SV → SMem → Prop} {n : Nat} {rs : Array Value} {h : Int} {Q : Int → Int → Prop} {fs : List SFr} {m : SMem} (H : ∀ i c, Q i c → Good Tryd.prog A 1 (iL_F n rs h i c) (iL_M n rs h i c)) (hb : iL_n n rs h Q fs m) : Good Tryd.prog A 1 fs m := by
 unfold iL_n at hb
 split at hb
 rotate_left
 ·exact hb.elim
 split at hb
 rotate_left
 ·exact hb.elim
 split at hb
 rotate_left
 ·exact hb.elim
 exact Good.of_sub hb.2 (H _ _ hb.1)
theorem bL_good {A : SV → SMem → Prop} {off : Nat} {n : Nat} {cs : Array Value} {ty : TypeId} {a : Int} {Q : Int → Prop} {fs : List SFr} {m : SMem} (H : ∀ i, Q i → Good Tryd.prog A 1 (bL_F off n cs ty a i) (bL_M off n cs ty a i)) (hb : bL_n off n cs ty a Q fs m) : Good Tryd.prog A 1 fs m := by
 unfold bL_n at hb
 split at hb
 rotate_left
 ·exact hb.elim
 split at hb
 rotate_left
 ·exact hb.elim
 exact Good.of_sub hb.2 (H _ hb.1)
theorem in0_go {A : SV → SMem → Prop} {n : Nat} {rs : Array Value} {h : Int} {QiL : Int → Int → Prop} {fs : List SFr} {m : SMem} (hiL : ∀ i' c', QiL i' c' → Good Tryd.prog A 1 (iL_F n rs h i' c') (iL_M n rs h i' c')) (hb : in0_x n rs h QiL fs m) : Good Tryd.prog A 1 fs m := by
 unfold in0_x at hb
 exact iL_good hiL hb
theorem in1_go {A : SV → SMem → Prop} {n : Nat} {rs : Array Value} {h : Int} {i : Int} {c : Int} {QiL : Int → Int → Prop} {fs : List SFr} {m : SMem} (hiL : ∀ i' c', QiL i' c' → Good Tryd.prog A 1 (iL_F n rs h i' c') (iL_M n rs h i' c')) (hb : in1_x n rs h i c QiL fs m) : Good Tryd.prog A 1 fs m := by
 unfold in1_x at hb
 exact iL_good hiL hb
theorem bf0_go {A : SV → SMem → Prop} {off : Nat} {n : Nat} {cs : Array Value} {ty : TypeId} {a : Int} {QbL : Int → Prop} {fs : List SFr} {m : SMem} (hbL : ∀ i', QbL i' → Good Tryd.prog A 1 (bL_F off n cs ty a i') (bL_M off n cs ty a i')) (hb : bf0_x off n cs ty a QbL fs m) : Good Tryd.prog A 1 fs m := by
 unfold bf0_x at hb
 exact bL_good hbL hb
theorem bf1_go {A : SV → SMem → Prop} {off : Nat} {n : Nat} {cs : Array Value} {ty : TypeId} {a : Int} {i : Int} {QbL : Int → Prop} {fs : List SFr} {m : SMem} (hbL : ∀ i', QbL i' → Good Tryd.prog A 1 (bL_F off n cs ty a i') (bL_M off n cs ty a i')) (hb : bf1_x off n cs ty a i QbL fs m) : Good Tryd.prog A 1 fs m := by
 unfold bf1_x at hb
 exact bL_good hbL hb
end Go.Proofs.YtldoopjnjlpbpaaDoor
/- Of owns: Roots, Held, what stands how often in a row, what was said before: states. -/
namespace Go.Proofs.YtldoopjnjlpbpaaDoor
set_option maxRecDepth 100000
theorem ra0 (os ts : Array Value) (k : Int) : (run EP2 1000 0 [callFr 19 Tryd.f19.ntmps [osS os, tbS ts, i64 (.o k)] (Tryd.f19.body.getD .skip)] e0M).vc nilK (fun _ _ => False) =
  ((Array.size os = (128 : Nat) ∧ True) ∧ (Array.size ts = (448 : Nat) ∧ True) ∧ (OsOk os ∧ FIn ts ∧ True) ∧ (decide (List.length (filP (lvT ts) (aPr os ts k) (List.length (lvT ts))) = (0 : Nat)) = true → True) ∧ (decide (List.length (filP (lvT ts) (aPr os ts k) (List.length (lvT ts))) = (0 : Nat)) = false → False)) := by kernel_rfl
theorem ra1 (os ts : Array Value) (k : Int) (kF : Nat) (csF : Array Value) : (run EP2 1000 0 [callFr 19 Tryd.f19.ntmps [osS os, tbS ts, i64 (.o k)] (Tryd.f19.body.getD .skip)] e0M).vc (freshA kF csF 30) (fun _ _ => False) =
  ((Array.size os = (128 : Nat) ∧ True) ∧ (Array.size ts = (448 : Nat) ∧ True) ∧ (OsOk os ∧ FIn ts ∧ True) ∧ (decide (List.length (filP (lvT ts) (aPr os ts k) (List.length (lvT ts))) = (0 : Nat)) = true → False) ∧ (decide (List.length (filP (lvT ts) (aPr os ts k) (List.length (lvT ts))) = (0 : Nat)) = false → kF = List.length (filP (lvT ts) (aPr os ts k) (List.length (lvT ts))) ∧ (30 : TypeId) = (30 : TypeId) ∧ csF = u32s (filP (lvT ts) (aPr os ts k) (List.length (lvT ts))) ∧ True)) := by kernel_rfl
theorem rb0 (os ts : Array Value) (k : Int) : (run EP2 1000 0 [callFr 20 Tryd.f20.ntmps [osS os, tbS ts, i64 (.o k)] (Tryd.f20.body.getD .skip)] e0M).vc nilK (fun _ _ => False) =
  ((Array.size os = (128 : Nat) ∧ True) ∧ (Array.size ts = (448 : Nat) ∧ True) ∧ (OsOk os ∧ FIn ts ∧ True) ∧ (decide (List.length (filP (lvT ts) (bPr os ts k) (List.length (lvT ts))) = (0 : Nat)) = true → True) ∧ (decide (List.length (filP (lvT ts) (bPr os ts k) (List.length (lvT ts))) = (0 : Nat)) = false → False)) := by kernel_rfl
theorem rb1 (os ts : Array Value) (k : Int) (kF : Nat) (csF : Array Value) : (run EP2 1000 0 [callFr 20 Tryd.f20.ntmps [osS os, tbS ts, i64 (.o k)] (Tryd.f20.body.getD .skip)] e0M).vc (freshA kF csF 30) (fun _ _ => False) =
  ((Array.size os = (128 : Nat) ∧ True) ∧ (Array.size ts = (448 : Nat) ∧ True) ∧ (OsOk os ∧ FIn ts ∧ True) ∧ (decide (List.length (filP (lvT ts) (bPr os ts k) (List.length (lvT ts))) = (0 : Nat)) = true → False) ∧ (decide (List.length (filP (lvT ts) (bPr os ts k) (List.length (lvT ts))) = (0 : Nat)) = false → kF = List.length (filP (lvT ts) (bPr os ts k) (List.length (lvT ts))) ∧ (30 : TypeId) = (30 : TypeId) ∧ csF = u32s (filP (lvT ts) (bPr os ts k) (List.length (lvT ts))) ∧ True)) := by kernel_rfl
theorem inZ (h : Int) : (run EP2 1000 0 [callFr 40 Tryd.f40.ntmps [nlS, u32 h] (Tryd.f40.body.getD .skip)] e0M).vc (retOk 0 [] (i64 (.l 0)) e0M) (fun _ _ => False) =
  (True) := by kernel_rfl
theorem inF0 (n : Nat) (rs : Array Value) (h o : Int) (Q : Int → Int → Prop) : (in0_t n rs h).vc (retOk 1 [] (i64 (.o o)) (inM rs)) (in0_x n rs h Q) =
  (Q (0 : Int) (0 : Int) ∧ CallKind.normal = CallKind.normal ∧ TodoOk (ren 1 []) iL_d0 iL_d0 ∧ n = n ∧ h = h ∧ (0 : Int) = (0 : Int) ∧ (0 : Int) = (0 : Int) ∧ (30 : TypeId) = (30 : TypeId) ∧ rs = rs ∧ True) := by kernel_rfl
theorem inF (n : Nat) (rs : Array Value) (h i c o : Int) (Q : Int → Int → Prop) : (in1_t n rs h i c).vc (retOk 1 [] (i64 (.o o)) (inM rs)) (in1_x n rs h i c Q) =
  ((decide (i < (↑n : Int)) = true → (((0 : Int) ≤ i ∧ i < (↑n : Int)) ∧ True) ∧ (IsInt IntKind.u32 rs ((0 : Nat) + Int.toNat i * 1) ∧ True) ∧ ((intAt rs ((0 : Nat) + Int.toNat i * 1) == h) = true → Q (ari BinOp.add IntKind.i64 i (1 : Int)) (ari BinOp.add IntKind.i64 c (1 : Int)) ∧ CallKind.normal = CallKind.normal ∧ TodoOk (ren 1 []) iL_d0 iL_d0 ∧ n = n ∧ h = h ∧ ari BinOp.add IntKind.i64 c (1 : Int) = ari BinOp.add IntKind.i64 c (1 : Int) ∧ ari BinOp.add IntKind.i64 i (1 : Int) = ari BinOp.add IntKind.i64 i (1 : Int) ∧ (30 : TypeId) = (30 : TypeId) ∧ rs = rs ∧ True) ∧ ((intAt rs ((0 : Nat) + Int.toNat i * 1) == h) = false → Q (ari BinOp.add IntKind.i64 i (1 : Int)) c ∧ CallKind.normal = CallKind.normal ∧ TodoOk (ren 1 []) iL_d0 iL_d0 ∧ n = n ∧ h = h ∧ c = c ∧ ari BinOp.add IntKind.i64 i (1 : Int) = ari BinOp.add IntKind.i64 i (1 : Int) ∧ (30 : TypeId) = (30 : TypeId) ∧ rs = rs ∧ True)) ∧ (decide (i < (↑n : Int)) = false → o = c ∧ (30 : TypeId) = (30 : TypeId) ∧ rs = rs ∧ True)) := by kernel_rfl
theorem bfF0 (off n : Nat) (cs : Array Value) (ty : TypeId) (a : Int) (o : Bool) (Q : Int → Prop) : (bf0_t off n cs ty a).vc (isB o) (bf0_x off n cs ty a Q) =
  (Q (0 : Int) ∧ CallKind.normal = CallKind.normal ∧ TodoOk (ren 1 []) bL_d0 bL_d0 ∧ off = off ∧ n = n ∧ a = a ∧ (0 : Int) = (0 : Int) ∧ ty = ty ∧ cs = cs ∧ True) := by kernel_rfl
theorem bfF (off n : Nat) (cs : Array Value) (ty : TypeId) (a i : Int) (o : Bool) (Q : Int → Prop) : (bf1_t off n cs ty a i).vc (isB o) (bf1_x off n cs ty a i Q) =
  ((decide (i < (↑n : Int)) = true → (((0 : Int) ≤ i ∧ i < (↑n : Int)) ∧ True) ∧ (IsInt IntKind.u8 cs (off + Int.toNat i * 5) ∧ True) ∧ ((decide (intAt cs (off + Int.toNat i * 5) > (9 : Int)) == true) = true → (((0 : Int) ≤ i ∧ i < (↑n : Int)) ∧ True) ∧ (IsInt IntKind.u32 cs (off + Int.toNat i * 5 + 1) ∧ True) ∧ ((intAt cs (off + Int.toNat i * 5 + 1) == a) = true → true = o) ∧ ((intAt cs (off + Int.toNat i * 5 + 1) == a) = false → Q (ari BinOp.add IntKind.i64 i (1 : Int)) ∧ CallKind.normal = CallKind.normal ∧ TodoOk (ren 1 []) bL_d0 bL_d0 ∧ off = off ∧ n = n ∧ a = a ∧ ari BinOp.add IntKind.i64 i (1 : Int) = ari BinOp.add IntKind.i64 i (1 : Int) ∧ ty = ty ∧ cs = cs ∧ True)) ∧ ((decide (intAt cs (off + Int.toNat i * 5) > (9 : Int)) == true) = false → Q (ari BinOp.add IntKind.i64 i (1 : Int)) ∧ CallKind.normal = CallKind.normal ∧ TodoOk (ren 1 []) bL_d0 bL_d0 ∧ off = off ∧ n = n ∧ a = a ∧ ari BinOp.add IntKind.i64 i (1 : Int) = ari BinOp.add IntKind.i64 i (1 : Int) ∧ ty = ty ∧ cs = cs ∧ True)) ∧ (decide (i < (↑n : Int)) = false → false = o)) := by kernel_rfl
end Go.Proofs.YtldoopjnjlpbpaaDoor
/- Of owns: Roots, Held, what stands how often in a row, what was said before: contracts. No condition. -/
namespace Go.Proofs.YtldoopjnjlpbpaaDoor
set_option maxRecDepth 100000
set_option linter.unusedSimpArgs false
set_option linter.unusedVariables false
theorem conP2_ok : ∀ g l m t, conP2 g l m = some t → Con E0 g l m t := by
 intro g l m t h
 unfold conP2 at h
 split at h
 ·rename_i os ts i
  split at h
  ·rename_i n0 w0 h0; cases h
   exact a_con h0
  ·cases h
 ·rename_i os ts i
  split at h
  ·rename_i n0 w0 h0; cases h
   exact b_con h0
  ·cases h
 ·exact conP1_ok _ _ _ _ h
theorem EP2_ok : EnvOk EP2 := EnvOk.with E0_ok _ _ conP2_ok
theorem EIn_ok : EnvOk EIn := EnvOk.with E0_ok _ _ conP1_ok
theorem EBf_ok : EnvOk EBf := EnvOk.with E0_ok _ _ conP1_ok
section
variable {os ts : Array Value}
def rkL (os ts : Array Value) (k : Int) : List Int := filP (lvT ts) (aPr os ts k) (lvT ts).length
def hkL (os ts : Array Value) (k : Int) : List Int := filP (lvT ts) (bPr os ts k) (lvT ts).length
theorem roots_con (k : Int) (m : SMem) : Con E0 19 [osS os, tbS ts, i64 (.o k)] m (.need [OsOk os, FIn ts] (rowT (rkL os ts k) 30 m)) := by
 refine Con.asked fun hq => ?_
 have ho : OsOk os := hq _ (by simp)
 have hf : FIn ts := hq _ (by simp)
 have hs := hf.ok.sz
 have hos := ho.sz
 refine Con.two (fun hz => ?_) (fun hz => ?_)
 ·refine (show Con E0 19 [osS os, tbS ts, i64 (.o k)] m (needs [] _) from Con.pure E0_ok (by kernel_rfl : E0.fn 19 = some Tryd.f19) (by kernel_rfl : Tryd.f19.body = some (Tryd.f19.body.getD .skip)) (by kernel_rfl) (by kernel_rfl) fun hq => ?_)
  refine (run_vc EP2_ok 1000 (ra0 os ts k) ?_ (fun s m h => h) fun fs m hm => hm.elim).mono ?_
  ·have c0 : decide ((filP (lvT ts) (aPr os ts k) (lvT ts).length).length = 0) = true := hz
   simp only [c0, hs, hos, ho, hf, true_implies, Bool.true_eq_false, false_implies, and_true, true_and]
  ·intro s m' hs
   unfold nilK at hs
   split at hs
   ·rfl
   ·exact hs.elim
 ·refine (show Con E0 19 [osS os, tbS ts, i64 (.o k)] m (needs [] _) from Con.fresh E0_ok (by kernel_rfl : E0.fn 19 = some Tryd.f19) (by kernel_rfl : Tryd.f19.body = some (Tryd.f19.body.getD .skip)) (by kernel_rfl) rfl fun _ => ?_)
  refine Good.retX ((run_vc EP2_ok 1000 (ra1 os ts k (rkL os ts k).length (u32s (rkL os ts k))) ?_ (fun s m h => h) fun fs m hm => hm.elim).mono fun s m h => ?_)
  ·have c0 : decide ((filP (lvT ts) (aPr os ts k) (lvT ts).length).length = 0) = false := hz
   simp only [c0, hs, hos, ho, hf, true_implies, Bool.false_eq_true, false_implies, and_true, true_and]
   exact ⟨rfl, rfl⟩
  ·unfold freshA at h
   split at h
   ·exact ⟨_, h⟩
   ·exact h.elim
theorem held_con (k : Int) (m : SMem) : Con E0 20 [osS os, tbS ts, i64 (.o k)] m (.need [OsOk os, FIn ts] (rowT (hkL os ts k) 30 m)) := by
 refine Con.asked fun hq => ?_
 have ho : OsOk os := hq _ (by simp)
 have hf : FIn ts := hq _ (by simp)
 have hs := hf.ok.sz
 have hos := ho.sz
 refine Con.two (fun hz => ?_) (fun hz => ?_)
 ·refine (show Con E0 20 [osS os, tbS ts, i64 (.o k)] m (needs [] _) from Con.pure E0_ok (by kernel_rfl : E0.fn 20 = some Tryd.f20) (by kernel_rfl : Tryd.f20.body = some (Tryd.f20.body.getD .skip)) (by kernel_rfl) (by kernel_rfl) fun hq => ?_)
  refine (run_vc EP2_ok 1000 (rb0 os ts k) ?_ (fun s m h => h) fun fs m hm => hm.elim).mono ?_
  ·have c0 : decide ((filP (lvT ts) (bPr os ts k) (lvT ts).length).length = 0) = true := hz
   simp only [c0, hs, hos, ho, hf, true_implies, Bool.true_eq_false, false_implies, and_true, true_and]
  ·intro s m' hs
   unfold nilK at hs
   split at hs
   ·rfl
   ·exact hs.elim
 ·refine (show Con E0 20 [osS os, tbS ts, i64 (.o k)] m (needs [] _) from Con.fresh E0_ok (by kernel_rfl : E0.fn 20 = some Tryd.f20) (by kernel_rfl : Tryd.f20.body = some (Tryd.f20.body.getD .skip)) (by kernel_rfl) rfl fun _ => ?_)
  refine Good.retX ((run_vc EP2_ok 1000 (rb1 os ts k (hkL os ts k).length (u32s (hkL os ts k))) ?_ (fun s m h => h) fun fs m hm => hm.elim).mono fun s m h => ?_)
  ·have c0 : decide ((filP (lvT ts) (bPr os ts k) (lvT ts).length).length = 0) = false := hz
   simp only [c0, hs, hos, ho, hf, true_implies, Bool.false_eq_true, false_implies, and_true, true_and]
   exact ⟨rfl, rfl⟩
  ·unfold freshA at h
   split at h
   ·exact ⟨_, h⟩
   ·exact h.elim
end
def intV : Value → Int
 | .int _ n => n
 | _ => 0
def ints (rs : Array Value) : List Int := rs.toList.map intV
theorem ints_u32s (l : List Int) : ints (u32s l) = l := by
 unfold ints u32s
 rw [List.map_map]
 conv => rhs; rw [← List.map_id l]
 exact List.map_congr_left fun _ _ => rfl
def inN (l : List Int) (h : Int) : Nat := (l.filter fun x => x == h).length
theorem inN_take {l : List Int} {h : Int} {i : Nat} (hi : i < l.length) : inN (l.take (i + 1)) h = if (l.getD i 0 == h) = true then inN (l.take i) h + 1 else inN (l.take i) h := by
 unfold inN
 rw [take_one hi, List.filter_append, List.filter_cons, List.filter_nil]
 split <;> simp
theorem inN_le (l : List Int) (h : Int) (i : Nat) : inN (l.take i) h ≤ i := by
 have := List.length_filter_le (fun x => x == h) (l.take i)
 rw [List.length_take] at this
 unfold inN
 omega
theorem iL_ok {l : List Int} (hl : l.length ≤ 32) (h : Int) : ∀ (w i : Nat), i + w = l.length → Good Tryd.prog (retOk 1 [] (i64 (.o (inN l h : Int))) (inM (u32s l))) 1 (iL_F l.length (u32s l) h (i : Int) (inN (l.take i) h : Int)) (iL_M l.length (u32s l) h (i : Int) (inN (l.take i) h : Int)) := by
 intro w
 induction w with
 | zero =>
  intro i hi
  obtain rfl : i = l.length := by omega
  refine past_vc EIn_ok 1000 (inF _ _ h _ _ (inN l h : Int) (fun _ _ => False)) ?_ (fun _ _ h => h) (fun fs m hb => in1_go (fun _ _ h => h.elim) hb)
  have d : decide ((l.length : Int) < (l.length : Int)) = false := decide_eq_false (by omega)
  simp only [d, List.take_length, true_implies, Bool.true_eq_false, Bool.false_eq_true, false_implies, and_true, true_and]
 | succ w ih =>
  intro i hi
  have hi' : i < l.length := by omega
  refine past_vc EIn_ok 1000 (inF _ _ h (i : Int) _ (inN l h : Int) (fun i' c' => i' = ((i + 1 : Nat) : Int) ∧ c' = (inN (l.take (i + 1)) h : Int))) ?_ (fun _ _ h => h) (fun fs m hb => in1_go (fun i' c' ⟨e1, e2⟩ => by rw [e1, e2]; exact ih (i + 1) (by omega)) hb)
  have d : decide ((i : Int) < (l.length : Int)) = true := decide_eq_true (by omega)
  have ei : ari .add .i64 (i : Int) 1 = ((i + 1 : Nat) : Int) := by rw [ari_add, i64_in' (by omega) (by omega)]; omega
  have hle := inN_le l h i
  have ec : ari .add .i64 (inN (l.take i) h : Int) 1 = ((inN (l.take i) h + 1 : Nat) : Int) := by rw [ari_add, i64_in' (by omega) (by omega)]; omega
  have g1 : IsInt .u32 (u32s l) i := isI_of (u32s_at hi')
  have g2 : intAt (u32s l) i = l.getD i 0 := intAt_of (u32s_at hi')
  have y0 : 0 ≤ (i : Int) := by omega
  have y1 : (i : Int) < (l.length : Int) := by omega
  rw [inN_take hi']
  cases c : (l.getD i 0 == h)
  all_goals
   simp only [Int.toNat_natCast, Nat.mul_one, Nat.zero_add, d, ei, ec, g1, g2, y0, y1, c, if_true, if_false, decide_true, true_implies, Bool.true_eq_false, Bool.false_eq_true, false_implies, and_true, true_and, iL_d0_ok]
theorem fnIn : E0.fn 40 = some Tryd.f40 := by kernel_rfl
theorem bodyIn : Tryd.f40.body = some (Tryd.f40.body.getD .skip) := by kernel_rfl
theorem in_nil (h : Int) (m : SMem) : Con E0 40 [nlS, u32 h] m (needs [] (.ret (i64 (.l 0)) m)) := by
 refine Con.pure E0_ok fnIn bodyIn (by kernel_rfl) (by kernel_rfl) fun hq => ?_
 refine (Good.ret [] (run_vc EP2_ok 1000 (inZ h) ?_ (fun s m h => h) fun _ _ h => h.elim)).mono fun _ _ h => h.1
 trivial
theorem in_con {m : SMem} {i : Nat} {n1 : SN} {rs : Array Value} {ty : TypeId} {w0 : Bool} (h : Int) (hty : ty = 30) (hb0 : getB m.bl i = some ⟨.pop rs, ty, w0⟩) : Con E0 40 [.s (.c (.f (.slice i (.l 0) n1 (.full 1)))), u32 h] m (needs [rs = u32s (ints rs), n1.den = (ints rs).length, (ints rs).length ≤ 32] (.ret (i64 (.o (inN (ints rs) h : Int))) m)) := by
 subst hty
 refine Con.asked fun hq => ?_
 have e1 : rs = u32s (ints rs) := hq _ (by simp)
 have e2 : n1.den = (ints rs).length := hq _ (by simp)
 have e3 : (ints rs).length ≤ 32 := hq _ (by simp)
 generalize ints rs = l at *
 subst e1
 have hm : ∀ q b, getB (inM (u32s l)).bl q = some b → q < (inM (u32s l)).next ∧ b.wr = false ∧ ∃ d, getB m.bl ((fun q => i) q) = some d ∧ b.ty = d.ty ∧ ∀ R cs, d.arr.okM R cs → b.arr.okM (pull (fun q => i) (inM (u32s l)).next R) cs := by
  intro q b hb
  have hb : getB ((Tr.nil : Tr SBlk).set 0 (some ⟨.pop (u32s l), 30, false⟩)) q = some b := hb
  rw [getB_set] at hb
  split at hb
  ·rename_i e; cases hb; subst e; exact ⟨(show 0 < 1 by decide), rfl, _, hb0, rfl, fun R cs h => h⟩
  ·have hb : (Tr.nil : Tr SBlk).get q = some b := hb
   rw [Tr.get_nil] at hb
   cases hb
 have hl : ∀ R vs, All2 (SV.ok R) [.s (.c (.f (.slice i (.l 0) n1 (.full 1)))), u32 h] vs → All2 (SV.ok (pull (fun q => i) (inM (u32s l)).next R)) [r0S l.length, u32 h] vs := by
  intro R vs ha
  match vs, ha with
  | [u, v], ha =>
   obtain ⟨⟨g, cp, k1, k2, k3, k4⟩, h1, _⟩ := ha
   refine ⟨⟨g, cp, by unfold pull; exact k1, by rw [k2, e2], k3, by rw [e2] at k4; exact k4⟩, h1, trivial⟩
 refine (show Con E0 40 _ m (needs [] _) from Con.readV E0_ok fnIn bodyIn rfl (fun q => i) hm hl (A := fun s m => s = i64 (.o (inN l h : Int)) ∧ m = inM (u32s l)) (fun _ => ?_) (fun s m' R R' v hs hv => by rw [hs.1] at hv; exact hv))
 refine Good.ret [] (run_vc EIn_ok 1000 (inF0 l.length (u32s l) h (inN l h : Int) (fun i c => i = ((0 : Nat) : Int) ∧ c = (inN (l.take 0) h : Int))) ?_ (fun s m h => h) fun fs m hb => in0_go (fun i c ⟨a, b⟩ => by rw [a, b]; exact iL_ok e3 h _ 0 (Nat.zero_add _)) hb)
 simp only [and_true, true_and, iL_d0_ok]
 exact ⟨rfl, rfl⟩
def ActOk (cs : Array Value) (p : Nat) : Prop := IsInt .u8 cs p ∧ IsInt .u32 cs (p + 1) ∧ IsInt .u32 cs (p + 2) ∧ IsInt .u32 cs (p + 3) ∧ IsInt .i64 cs (p + 4) ∧ (0 ≤ intAt cs p ∧ intAt cs p ≤ 255) ∧ inH (intAt cs (p + 1)) ∧ inH (intAt cs (p + 2)) ∧ inH (intAt cs (p + 3))
def ActsOk (cs : Array Value) (off n : Nat) : Prop := ∀ i, i < n → ActOk cs (off + i * 5)
def sdB (cs : Array Value) (p : Nat) (a : Int) : Bool := decide (intAt cs p > 9) && (intAt cs (p + 1) == a)
def bfB (cs : Array Value) (off n : Nat) (a : Int) : Bool := (List.range n).any fun i => sdB cs (off + i * 5) a
theorem bfB_iff {cs : Array Value} {off n : Nat} {a : Int} : bfB cs off n a = true ↔ ∃ i, i < n ∧ sdB cs (off + i * 5) a = true := by
 unfold bfB
 rw [List.any_eq_true]
 constructor
 ·rintro ⟨i, h1, h2⟩; exact ⟨i, List.mem_range.1 h1, h2⟩
 ·rintro ⟨i, h1, h2⟩; exact ⟨i, List.mem_range.2 h1, h2⟩
theorem bL_ok {cs : Array Value} {off n : Nat} {ty : TypeId} (ha : ActsOk cs off n) (hn : n ≤ 1000) (a : Int) {o : Bool} (ho : bfB cs off n a = o) : ∀ (w i : Nat), i + w = n → (∀ j, j < i → sdB cs (off + j * 5) a = false) → Good Tryd.prog (isB o) 1 (bL_F off n cs ty a (i : Int)) (bL_M off n cs ty a (i : Int)) := by
 intro w
 induction w with
 | zero =>
  intro i hi hj
  obtain rfl : i = n := by omega
  refine past_vc EBf_ok 1000 (bfF off i cs ty a (i : Int) o (fun _ => False)) ?_ (fun _ _ h => h) (fun fs m hb => bf1_go (fun _ h => h.elim) hb)
  have d : decide ((i : Int) < (i : Int)) = false := decide_eq_false (by omega)
  have eo : o = false := by
   rw [← ho]
   cases c : bfB cs off i a with
   | false => rfl
   | true =>
    obtain ⟨j, h1, h2⟩ := bfB_iff.1 c
    rw [hj j h1] at h2
    cases h2
  simp only [d, eo, true_implies, Bool.true_eq_false, Bool.false_eq_true, false_implies, and_true, true_and]
 | succ w ih =>
  intro i hi hj
  have hi' : i < n := by omega
  obtain ⟨a0, a1, _⟩ := ha i hi'
  have d : decide ((i : Int) < (n : Int)) = true := decide_eq_true (by omega)
  have ei : ari .add .i64 (i : Int) 1 = ((i + 1 : Nat) : Int) := by rw [ari_add, i64_in' (by omega) (by omega)]; omega
  have y0 : 0 ≤ (i : Int) := by omega
  have y1 : (i : Int) < (n : Int) := by omega
  have nx : sdB cs (off + i * 5) a = false → ∀ j, j < i + 1 → sdB cs (off + j * 5) a = false := fun h j hj' => by
   by_cases e : j = i
   ·rw [e]; exact h
   ·exact hj j (by omega)
  refine past_vc EBf_ok 1000 (bfF off n cs ty a (i : Int) o (fun i' => i' = ((i + 1 : Nat) : Int) ∧ sdB cs (off + i * 5) a = false)) ?_ (fun _ _ h => h) (fun fs m hb => bf1_go (fun i' ⟨e1, e2⟩ => by rw [e1]; exact ih (i + 1) (by omega) (nx e2)) hb)
  unfold sdB
  simp only [Int.toNat_natCast]
  cases c1 : decide (intAt cs (off + i * 5) > 9) <;> cases c2 : (intAt cs (off + i * 5 + 1) == a)
  ·simp only [d, ei, y0, y1, a0, a1, c1, c2, beqT, Bool.false_and, decide_true, true_implies, Bool.true_eq_false, Bool.false_eq_true, false_implies, and_true, true_and, bL_d0_ok]
  ·simp only [d, ei, y0, y1, a0, a1, c1, c2, beqT, Bool.false_and, decide_true, true_implies, Bool.true_eq_false, Bool.false_eq_true, false_implies, and_true, true_and, bL_d0_ok]
  ·simp only [d, ei, y0, y1, a0, a1, c1, c2, beqT, Bool.and_false, decide_true, true_implies, Bool.true_eq_false, Bool.false_eq_true, false_implies, and_true, true_and, bL_d0_ok]
  ·have eo : o = true := by
    rw [← ho]
    exact bfB_iff.2 ⟨i, hi', by unfold sdB; rw [c1, c2]; rfl⟩
   simp only [d, ei, y0, y1, a0, a1, c1, c2, eo, beqT, Bool.and_true, decide_true, true_implies, Bool.true_eq_false, Bool.false_eq_true, false_implies, and_true, true_and, bL_d0_ok]
theorem isB_okF {b : Bool} {s : SV} {m : SMem} {R R' : Ren} {v : Value} (hs : isB b s m) (hv : s.ok R v) : (sB (.o b)).ok R' v := by
 unfold isB at hs
 split at hs
 ·have hv : v = .bool _ := hv
  rw [hv, hs]; rfl
 ·exact hs.elim
theorem fnBf : E0.fn 10 = some Tryd.f10 := by kernel_rfl
theorem bodyBf : Tryd.f10.body = some (Tryd.f10.body.getD .skip) := by kernel_rfl
theorem before_con {m : SMem} {i : Nat} {o1 n1 : SN} {cs : Array Value} {ty : TypeId} {w0 : Bool} (a : Int) (hb0 : getB m.bl i = some ⟨.raw cs, ty, w0⟩) : Con E0 10 [.s (.c (.f (.slice i o1 n1 .any))), u32 a] m (needs [ActsOk cs o1.den n1.den, n1.den ≤ 1000] (.ret (sB (.o (bfB cs o1.den n1.den a))) m)) := by
 have hm : ∀ q b, getB (acM cs ty).bl q = some b → q < (acM cs ty).next ∧ b.wr = false ∧ ∃ d, getB m.bl ((fun q => i) q) = some d ∧ b.ty = d.ty ∧ ∀ R cs', d.arr.okM R cs' → b.arr.okM (pull (fun q => i) (acM cs ty).next R) cs' := by
  intro q b hb
  have hb : getB ((Tr.nil : Tr SBlk).set 0 (some ⟨.raw cs, ty, false⟩)) q = some b := hb
  rw [getB_set] at hb
  split at hb
  ·rename_i e; cases hb; subst e; exact ⟨(show 0 < 1 by decide), rfl, _, hb0, rfl, fun R cs h => h⟩
  ·have hb : (Tr.nil : Tr SBlk).get q = some b := hb
   rw [Tr.get_nil] at hb
   cases hb
 have hl : ∀ R vs, All2 (SV.ok R) [.s (.c (.f (.slice i o1 n1 .any))), u32 a] vs → All2 (SV.ok (pull (fun q => i) (acM cs ty).next R)) [acS o1.den n1.den, u32 a] vs := by
  intro R vs ha
  match vs, ha with
  | [u, v], ha =>
   obtain ⟨⟨g, cp, k1, k2, k3, k4⟩, h1, _⟩ := ha
   exact ⟨⟨g, cp, by unfold pull; exact k1, k2, k3, k4⟩, h1, trivial⟩
 refine Con.readV E0_ok fnBf bodyBf rfl (fun q => i) hm hl (A := isB (bfB cs o1.den n1.den a)) (fun hq => ?_) (fun s m' R R' v hs hv => isB_okF hs hv)
 have ha : ActsOk cs o1.den n1.den := hq _ (by simp)
 have hn : n1.den ≤ 1000 := hq _ (by simp)
 refine run_vc EBf_ok 1000 (bfF0 o1.den n1.den cs ty a (bfB cs o1.den n1.den a) (fun i => i = ((0 : Nat) : Int))) ?_ (fun s m h => h) fun fs m hb => bf0_go (fun i e => by rw [e]; exact bL_ok ha hn a rfl _ 0 (Nat.zero_add _) (fun j hj => absurd hj (Nat.not_lt_zero _))) hb
 simp only [and_true, true_and, bL_d0_ok]
 rfl
end Go.Proofs.YtldoopjnjlpbpaaDoor
/- Of owns: each tree is one task's at most: states. No condition. -/
namespace Go.Proofs.YtldoopjnjlpbpaaDoor
set_option linter.unusedVariables false
noncomputable def conP3 (g : FuncId) (l : List SV) (m : SMem) : Option Tree := match g, l with
 | 19, [.s (.agg (.op os)), .s (.agg (.op ts)), .s (.c (.f (.int .i64 k)))] => some (.need [OsOk os, FIn ts] (rowT (rkL os ts k.den) 30 m))
 | 20, [.s (.agg (.op os)), .s (.agg (.op ts)), .s (.c (.f (.int .i64 k)))] => some (.need [OsOk os, FIn ts] (rowT (hkL os ts k.den) 30 m))
 | 40, [.s (.c (.f (.lit (.slice none 0 0)))), .s (.c (.f (.int .u32 _)))] => some (.ret (i64 (.l 0)) m)
 | 40, [.s (.c (.f (.slice i (.l 0) n1 (.full 1)))), .s (.c (.f (.int .u32 h)))] => (match getB m.bl i with | some ⟨.pop rs, 30, _⟩ => some (.need [rs = u32s (ints rs), n1.den = (ints rs).length, (ints rs).length ≤ 32] (.ret (i64 (.o (inN (ints rs) h.den : Int))) m)) | _ => none)
 | 10, [.s (.c (.f (.slice i o1 n1 .any))), .s (.c (.f (.int .u32 a)))] => (match getB m.bl i with | some ⟨.raw cs, _, _⟩ => some (.need [ActsOk cs o1.den n1.den, n1.den ≤ 1000] (.ret (sB (.o (bfB cs o1.den n1.den a.den))) m)) | _ => none)
 | g, l => conP2 g l m
noncomputable def EOn : Env := ⟨Tryd.prog, fnOf, conP3, haltAt [18 * 1000 + 3, 18 * 1000 + 10]⟩
noncomputable def EOz : Env := ⟨Tryd.prog, fnOf, conP3, haltAt [18 * 1000 + 5]⟩
noncomputable def oO_d0 : List SIt := sekF Tryd.f18 3
noncomputable def oO_F (os : Array Value) (ts : Array Value) (n : Nat) (rs : Array Value) (i : Int) : List SFr := [frOf 18 Tryd.f18 [(2, ptr 0 (.l 0)), (3, ptr 1 (.l 0)), (5, slS 2 n), (6, i64 (.o i))] oO_d0]
noncomputable def oO_M (os : Array Value) (ts : Array Value) (n : Nat) (rs : Array Value) (i : Int) : SMem := mkM 3 [(0, ⟨.op ts, 39, true⟩), (1, ⟨.op os, 46, true⟩), (2, ⟨.pop rs, 30, true⟩)]
noncomputable def oO_n (os : Array Value) (ts : Array Value) (n : Nat) (rs : Array Value) (Q : Int → Prop) (fs : List SFr) (m : SMem) : Prop := (match frNth fs 0 with | some f0 => (match rdI f0 6 with | some i => (match rdP f0 2 with | some p0 => (match rdP f0 3 with | some p1 => (match rdSI f0 5 with | some p2 => Q i ∧ subOk 0 [(0, p0), (1, p1), (2, p2)] (oO_F os ts n rs i) (oO_M os ts n rs i) fs m | none => False) | none => False) | none => False) | none => False) | none => False)
noncomputable def oI_d0 : List SIt := sekF Tryd.f18 10
noncomputable def oI_F (os : Array Value) (ts : Array Value) (n : Nat) (rs : Array Value) (i : Int) (a : Int) (b : Int) (k : Int) : List SFr := [frOf 18 Tryd.f18 [(2, ptr 0 (.l 0)), (3, ptr 1 (.l 0)), (5, slS 2 n), (6, i64 (.o i)), (8, i64 (.o a)), (9, i64 (.o b)), (10, i64 (.o k))] oI_d0]
noncomputable def oI_M (os : Array Value) (ts : Array Value) (n : Nat) (rs : Array Value) (i : Int) (a : Int) (b : Int) (k : Int) : SMem := mkM 3 [(0, ⟨.op ts, 39, true⟩), (1, ⟨.op os, 46, true⟩), (2, ⟨.pop rs, 30, true⟩)]
noncomputable def oI_n (os : Array Value) (ts : Array Value) (n : Nat) (rs : Array Value) (Q : Int → Int → Int → Int → Prop) (fs : List SFr) (m : SMem) : Prop := (match frNth fs 0 with | some f0 => (match rdI f0 6 with | some i => (match rdI f0 8 with | some a => (match rdI f0 9 with | some b => (match rdI f0 10 with | some k => (match rdP f0 2 with | some p0 => (match rdP f0 3 with | some p1 => (match rdSI f0 5 with | some p2 => Q i a b k ∧ subOk 0 [(0, p0), (1, p1), (2, p2)] (oI_F os ts n rs i a b k) (oI_M os ts n rs i a b k) fs m | none => False) | none => False) | none => False) | none => False) | none => False) | none => False) | none => False) | none => False)
noncomputable def on0_t (os : Array Value) (ts : Array Value) (n : Nat) (rs : Array Value) : Tree := run EOn 1000 0 [callFr 18 Tryd.f18.ntmps [tbS ts, osS os] (Tryd.f18.body.getD .skip)] e0M
noncomputable def on0_x (os : Array Value) (ts : Array Value) (n : Nat) (rs : Array Value) (QoO : Int → Prop) (fs : List SFr) (m : SMem) : Prop := oO_n os ts n rs QoO fs m
noncomputable def oo1_t (os ts : Array Value) (n : Nat) (rs : Array Value) (i : Int) : Tree := stepT EOn.go (run EOn 1000) 0 (oO_F os ts n rs i) (oO_M os ts n rs i)
noncomputable def oi1_t (os ts : Array Value) (n : Nat) (rs : Array Value) (i a b k : Int) : Tree := stepT EOn.go (run EOn 1000) 0 (oI_F os ts n rs i a b k) (oI_M os ts n rs i a b k)
noncomputable def oX (os ts : Array Value) (n : Nat) (rs : Array Value) (QO : Int → Prop) (QI : Int → Int → Int → Int → Prop) (fs : List SFr) (m : SMem) : Prop := match Nat.beq (atR fs) (18 * 1000 + 3) with | true => oO_n os ts n rs QO fs m | false => oI_n os ts n rs QI fs m
theorem oO_d0_ok (r : Nat → Option Nat) : TodoOk r oO_d0 oO_d0 := TodoOk.it (by kernel_rfl)
theorem oI_d0_ok (r : Nat → Option Nat) : TodoOk r oI_d0 oI_d0 := TodoOk.it (by kernel_rfl)
theorem oO_good {A : SV → SMem → Prop} {os : Array Value} {ts : Array Value} {n : Nat} {rs : Array Value} {Q : Int → Prop} {fs : List SFr} {m : SMem} (H : ∀ i, Q i → Good Tryd.prog A 0 (oO_F os ts n rs i) (oO_M os ts n rs i)) (hb : oO_n os ts n rs Q fs m) : Good Tryd.prog A 0 fs m := by
 unfold oO_n at hb
 split at hb
 rotate_left
 ·exact hb.elim
 split at hb
 rotate_left
 ·exact hb.elim
 split at hb
 rotate_left
 ·exact hb.elim
 split at hb
 rotate_left
 ·exact hb.elim
 split at hb
 rotate_left
 ·exact hb.elim
 exact Good.of_sub hb.2 (H _ hb.1)
theorem oI_good {A : SV → SMem → Prop} {os : Array Value} {ts : Array Value} {n : Nat} {rs : Array Value} {Q : Int → Int → Int → Int → Prop} {fs : List SFr} {m : SMem} (H : ∀ i a b k, Q i a b k → Good Tryd.prog A 0 (oI_F os ts n rs i a b k) (oI_M os ts n rs i a b k)) (hb : oI_n os ts n rs Q fs m) : Good Tryd.prog A 0 fs m := by
 unfold oI_n at hb
 split at hb
 rotate_left
 ·exact hb.elim
 split at hb
 rotate_left
 ·exact hb.elim
 split at hb
 rotate_left
 ·exact hb.elim
 split at hb
 rotate_left
 ·exact hb.elim
 split at hb
 rotate_left
 ·exact hb.elim
 split at hb
 rotate_left
 ·exact hb.elim
 split at hb
 rotate_left
 ·exact hb.elim
 split at hb
 rotate_left
 ·exact hb.elim
 exact Good.of_sub hb.2 (H _ _ _ _ hb.1)
theorem on0_go {A : SV → SMem → Prop} {os : Array Value} {ts : Array Value} {n : Nat} {rs : Array Value} {QoO : Int → Prop} {fs : List SFr} {m : SMem} (hoO : ∀ i', QoO i' → Good Tryd.prog A 0 (oO_F os ts n rs i') (oO_M os ts n rs i')) (hb : on0_x os ts n rs QoO fs m) : Good Tryd.prog A 0 fs m := by
 unfold on0_x at hb
 exact oO_good hoO hb
end Go.Proofs.YtldoopjnjlpbpaaDoor
/- Of owns: each tree is one task's at most: states. -/
namespace Go.Proofs.YtldoopjnjlpbpaaDoor
set_option maxRecDepth 100000
theorem onF0 (os ts : Array Value) (n : Nat) (rs : Array Value) (Q : Int → Prop) : (on0_t os ts n rs).vc (isB true) (on0_x os ts n rs Q) =
  ((Array.size ts = (448 : Nat) ∧ True) ∧ (TbOk ts ∧ True) ∧ (decide (List.length (lvT ts) = (0 : Nat)) = true → False) ∧ (decide (List.length (lvT ts) = (0 : Nat)) = false → Q (0 : Int) ∧ CallKind.normal = CallKind.normal ∧ TodoOk (ren 0 [(0, 0), (1, 1), (2, 2)]) oO_d0 oO_d0 ∧ n = List.length (lvT ts) ∧ (0 : Int) = (0 : Int) ∧ (39 : TypeId) = (39 : Nat) ∧ ts = ts ∧ (46 : TypeId) = (46 : Nat) ∧ os = os ∧ (30 : TypeId) = (30 : TypeId) ∧ rs = u32s (lvT ts) ∧ True)) := by kernel_rfl
theorem onZ (os ts : Array Value) : (run EOz 1000 0 [callFr 18 Tryd.f18.ntmps [tbS ts, osS os] (Tryd.f18.body.getD .skip)] e0M).vc (isB true) (fun _ _ => False) =
  ((Array.size ts = (448 : Nat) ∧ True) ∧ (TbOk ts ∧ True) ∧ (decide (List.length (lvT ts) = (0 : Nat)) = true → true = true) ∧ (decide (List.length (lvT ts) = (0 : Nat)) = false → (decide ((0 : Int) < (↑(List.length (lvT ts)) : Int)) = true → False) ∧ (decide ((0 : Int) < (↑(List.length (lvT ts)) : Int)) = false → true = true))) := by kernel_rfl
theorem onO (os ts : Array Value) (n : Nat) (rs : Array Value) (i : Int) (QO : Int → Prop) (QI : Int → Int → Int → Int → Prop) : (oo1_t os ts n rs i).vc (isB true) (oX os ts n rs QO QI) =
  ((decide (i < (↑n : Int)) = true → (Array.size os = (128 : Nat) ∧ True) ∧ (Array.size ts = (448 : Nat) ∧ True) ∧ (((0 : Int) ≤ i ∧ i < (↑n : Int)) ∧ True) ∧ (IsInt IntKind.u32 rs ((0 : Nat) + Int.toNat i * 1) ∧ True) ∧ (OsOk os ∧ FIn ts ∧ ((0 : Int) ≤ intAt rs ((0 : Nat) + Int.toNat i * 1) ∧ intAt rs ((0 : Nat) + Int.toNat i * 1) < (4294967296 : Int)) ∧ True) ∧ (Array.size os = (128 : Nat) ∧ True) ∧ (Array.size ts = (448 : Nat) ∧ True) ∧ (Array.size ts = (448 : Nat) ∧ True) ∧ (((0 : Int) ≤ i ∧ i < (↑n : Int)) ∧ True) ∧ (IsInt IntKind.u32 rs ((0 : Nat) + Int.toNat i * 1) ∧ True) ∧ (FIn ts ∧ ((0 : Int) ≤ intAt rs ((0 : Nat) + Int.toNat i * 1) ∧ intAt rs ((0 : Nat) + Int.toNat i * 1) < (4294967296 : Int)) ∧ True) ∧ (OsOk os ∧ FIn ts ∧ ((0 : Int) ≤ rtF ts (intAt rs ((0 : Nat) + Int.toNat i * 1)) ∧ rtF ts (intAt rs ((0 : Nat) + Int.toNat i * 1)) < (4294967296 : Int)) ∧ True) ∧ (((!(ofK os ts (intAt rs ((0 : Nat) + Int.toNat i * 1)) == ofK os ts (rtF ts (intAt rs ((0 : Nat) + Int.toNat i * 1))) && (ofT os ts (intAt rs ((0 : Nat) + Int.toNat i * 1)) == ofT os ts (rtF ts (intAt rs ((0 : Nat) + Int.toNat i * 1))) && ofH os ts (intAt rs ((0 : Nat) + Int.toNat i * 1)) == ofH os ts (rtF ts (intAt rs ((0 : Nat) + Int.toNat i * 1)))))) == false) = true → ((decide (ofK os ts (intAt rs ((0 : Nat) + Int.toNat i * 1)) > (3 : Int)) == false) = true → (((ofK os ts (intAt rs ((0 : Nat) + Int.toNat i * 1)) != (3 : Int)) == true) = true → (((ofH os ts (intAt rs ((0 : Nat) + Int.toNat i * 1)) != (0 : Int)) == false) = true → (((ofK os ts (intAt rs ((0 : Nat) + Int.toNat i * 1)) != (1 : Int)) == true) = true → ((ofT os ts (intAt rs ((0 : Nat) + Int.toNat i * 1)) != (0 : Int)) = true → false = true) ∧ ((ofT os ts (intAt rs ((0 : Nat) + Int.toNat i * 1)) != (0 : Int)) = false → QI i (0 : Int) (0 : Int) (0 : Int) ∧ CallKind.normal = CallKind.normal ∧ TodoOk (ren 0 [(0, 0), (1, 1), (2, 2)]) oI_d0 oI_d0 ∧ n = n ∧ (0 : Int) = (0 : Int) ∧ (0 : Int) = (0 : Int) ∧ i = i ∧ (0 : Int) = (0 : Int) ∧ (39 : TypeId) = (39 : TypeId) ∧ ts = ts ∧ (46 : TypeId) = (46 : TypeId) ∧ os = os ∧ (30 : TypeId) = (30 : TypeId) ∧ rs = rs ∧ True)) ∧ (((ofK os ts (intAt rs ((0 : Nat) + Int.toNat i * 1)) != (1 : Int)) == true) = false → QI i (0 : Int) (0 : Int) (0 : Int) ∧ CallKind.normal = CallKind.normal ∧ TodoOk (ren 0 [(0, 0), (1, 1), (2, 2)]) oI_d0 oI_d0 ∧ n = n ∧ (0 : Int) = (0 : Int) ∧ (0 : Int) = (0 : Int) ∧ i = i ∧ (0 : Int) = (0 : Int) ∧ (39 : TypeId) = (39 : TypeId) ∧ ts = ts ∧ (46 : TypeId) = (46 : TypeId) ∧ os = os ∧ (30 : TypeId) = (30 : TypeId) ∧ rs = rs ∧ True)) ∧ (((ofH os ts (intAt rs ((0 : Nat) + Int.toNat i * 1)) != (0 : Int)) == false) = false → false = true)) ∧ (((ofK os ts (intAt rs ((0 : Nat) + Int.toNat i * 1)) != (3 : Int)) == true) = false → (((ofK os ts (intAt rs ((0 : Nat) + Int.toNat i * 1)) != (1 : Int)) == true) = true → ((ofT os ts (intAt rs ((0 : Nat) + Int.toNat i * 1)) != (0 : Int)) = true → false = true) ∧ ((ofT os ts (intAt rs ((0 : Nat) + Int.toNat i * 1)) != (0 : Int)) = false → QI i (0 : Int) (0 : Int) (0 : Int) ∧ CallKind.normal = CallKind.normal ∧ TodoOk (ren 0 [(0, 0), (1, 1), (2, 2)]) oI_d0 oI_d0 ∧ n = n ∧ (0 : Int) = (0 : Int) ∧ (0 : Int) = (0 : Int) ∧ i = i ∧ (0 : Int) = (0 : Int) ∧ (39 : TypeId) = (39 : TypeId) ∧ ts = ts ∧ (46 : TypeId) = (46 : TypeId) ∧ os = os ∧ (30 : TypeId) = (30 : TypeId) ∧ rs = rs ∧ True)) ∧ (((ofK os ts (intAt rs ((0 : Nat) + Int.toNat i * 1)) != (1 : Int)) == true) = false → QI i (0 : Int) (0 : Int) (0 : Int) ∧ CallKind.normal = CallKind.normal ∧ TodoOk (ren 0 [(0, 0), (1, 1), (2, 2)]) oI_d0 oI_d0 ∧ n = n ∧ (0 : Int) = (0 : Int) ∧ (0 : Int) = (0 : Int) ∧ i = i ∧ (0 : Int) = (0 : Int) ∧ (39 : TypeId) = (39 : TypeId) ∧ ts = ts ∧ (46 : TypeId) = (46 : TypeId) ∧ os = os ∧ (30 : TypeId) = (30 : TypeId) ∧ rs = rs ∧ True))) ∧ ((decide (ofK os ts (intAt rs ((0 : Nat) + Int.toNat i * 1)) > (3 : Int)) == false) = false → false = true)) ∧ (((!(ofK os ts (intAt rs ((0 : Nat) + Int.toNat i * 1)) == ofK os ts (rtF ts (intAt rs ((0 : Nat) + Int.toNat i * 1))) && (ofT os ts (intAt rs ((0 : Nat) + Int.toNat i * 1)) == ofT os ts (rtF ts (intAt rs ((0 : Nat) + Int.toNat i * 1))) && ofH os ts (intAt rs ((0 : Nat) + Int.toNat i * 1)) == ofH os ts (rtF ts (intAt rs ((0 : Nat) + Int.toNat i * 1)))))) == false) = false → false = true)) ∧ (decide (i < (↑n : Int)) = false → true = true)) := by kernel_rfl
theorem onI (os ts : Array Value) (n : Nat) (rs : Array Value) (i a b k : Int) (QO : Int → Prop) (QI : Int → Int → Int → Int → Prop) : (oi1_t os ts n rs i a b k).vc (isB true) (oX os ts n rs QO QI) =
  ((decide (k < (8 : Int)) = true → (Array.size os = (128 : Nat) ∧ True) ∧ (Array.size ts = (448 : Nat) ∧ True) ∧ (OsOk os ∧ FIn ts ∧ True) ∧ (decide (List.length (rkL os ts k) = (0 : Nat)) = true → (((0 : Int) ≤ i ∧ i < (↑n : Int)) ∧ True) ∧ (IsInt IntKind.u32 rs ((0 : Nat) + Int.toNat i * 1) ∧ True) ∧ (Array.size os = (128 : Nat) ∧ True) ∧ (Array.size ts = (448 : Nat) ∧ True) ∧ (OsOk os ∧ FIn ts ∧ True) ∧ (decide (List.length (hkL os ts k) = (0 : Nat)) = true → (((0 : Int) ≤ i ∧ i < (↑n : Int)) ∧ True) ∧ (IsInt IntKind.u32 rs ((0 : Nat) + Int.toNat i * 1) ∧ True) ∧ QI i (ari BinOp.add IntKind.i64 a (0 : Int)) (ari BinOp.add IntKind.i64 b (0 : Int)) (ari BinOp.add IntKind.i64 k (1 : Int)) ∧ CallKind.normal = CallKind.normal ∧ TodoOk (ren 0 [(0, 0), (1, 1), (2, 2)]) oI_d0 oI_d0 ∧ n = n ∧ ari BinOp.add IntKind.i64 b (0 : Int) = ari BinOp.add IntKind.i64 b (0 : Int) ∧ ari BinOp.add IntKind.i64 a (0 : Int) = ari BinOp.add IntKind.i64 a (0 : Int) ∧ i = i ∧ ari BinOp.add IntKind.i64 k (1 : Int) = ari BinOp.add IntKind.i64 k (1 : Int) ∧ (39 : TypeId) = (39 : TypeId) ∧ ts = ts ∧ (46 : TypeId) = (46 : TypeId) ∧ os = os ∧ (30 : TypeId) = (30 : TypeId) ∧ rs = rs ∧ True) ∧ (decide (List.length (hkL os ts k) = (0 : Nat)) = false → (((0 : Int) ≤ i ∧ i < (↑n : Int)) ∧ True) ∧ (IsInt IntKind.u32 rs ((0 : Nat) + Int.toNat i * 1) ∧ True) ∧ (u32s (hkL os ts k) = u32s (ints (u32s (hkL os ts k))) ∧ List.length (hkL os ts k) = List.length (ints (u32s (hkL os ts k))) ∧ List.length (ints (u32s (hkL os ts k))) ≤ (32 : Nat) ∧ True) ∧ QI i (ari BinOp.add IntKind.i64 a (0 : Int)) (ari BinOp.add IntKind.i64 b (↑(inN (ints (u32s (hkL os ts k))) (intAt rs ((0 : Nat) + Int.toNat i * 1))) : Int)) (ari BinOp.add IntKind.i64 k (1 : Int)) ∧ CallKind.normal = CallKind.normal ∧ TodoOk (ren 0 [(0, 0), (1, 1), (2, 2)]) oI_d0 oI_d0 ∧ n = n ∧ ari BinOp.add IntKind.i64 b (↑(inN (ints (u32s (hkL os ts k))) (intAt rs ((0 : Nat) + Int.toNat i * 1))) : Int) = ari BinOp.add IntKind.i64 b (↑(inN (ints (u32s (hkL os ts k))) (intAt rs ((0 : Nat) + Int.toNat i * 1))) : Int) ∧ ari BinOp.add IntKind.i64 a (0 : Int) = ari BinOp.add IntKind.i64 a (0 : Int) ∧ i = i ∧ ari BinOp.add IntKind.i64 k (1 : Int) = ari BinOp.add IntKind.i64 k (1 : Int) ∧ (39 : TypeId) = (39 : TypeId) ∧ ts = ts ∧ (46 : TypeId) = (46 : TypeId) ∧ os = os ∧ (30 : TypeId) = (30 : TypeId) ∧ rs = rs ∧ True)) ∧ (decide (List.length (rkL os ts k) = (0 : Nat)) = false → (((0 : Int) ≤ i ∧ i < (↑n : Int)) ∧ True) ∧ (IsInt IntKind.u32 rs ((0 : Nat) + Int.toNat i * 1) ∧ True) ∧ (u32s (rkL os ts k) = u32s (ints (u32s (rkL os ts k))) ∧ List.length (rkL os ts k) = List.length (ints (u32s (rkL os ts k))) ∧ List.length (ints (u32s (rkL os ts k))) ≤ (32 : Nat) ∧ True) ∧ (Array.size os = (128 : Nat) ∧ True) ∧ (Array.size ts = (448 : Nat) ∧ True) ∧ (OsOk os ∧ FIn ts ∧ True) ∧ (decide (List.length (hkL os ts k) = (0 : Nat)) = true → (((0 : Int) ≤ i ∧ i < (↑n : Int)) ∧ True) ∧ (IsInt IntKind.u32 rs ((0 : Nat) + Int.toNat i * 1) ∧ True) ∧ QI i (ari BinOp.add IntKind.i64 a (↑(inN (ints (u32s (rkL os ts k))) (intAt rs ((0 : Nat) + Int.toNat i * 1))) : Int)) (ari BinOp.add IntKind.i64 b (0 : Int)) (ari BinOp.add IntKind.i64 k (1 : Int)) ∧ CallKind.normal = CallKind.normal ∧ TodoOk (ren 0 [(0, 0), (1, 1), (2, 2)]) oI_d0 oI_d0 ∧ n = n ∧ ari BinOp.add IntKind.i64 b (0 : Int) = ari BinOp.add IntKind.i64 b (0 : Int) ∧ ari BinOp.add IntKind.i64 a (↑(inN (ints (u32s (rkL os ts k))) (intAt rs ((0 : Nat) + Int.toNat i * 1))) : Int) = ari BinOp.add IntKind.i64 a (↑(inN (ints (u32s (rkL os ts k))) (intAt rs ((0 : Nat) + Int.toNat i * 1))) : Int) ∧ i = i ∧ ari BinOp.add IntKind.i64 k (1 : Int) = ari BinOp.add IntKind.i64 k (1 : Int) ∧ (39 : TypeId) = (39 : TypeId) ∧ ts = ts ∧ (46 : TypeId) = (46 : TypeId) ∧ os = os ∧ (30 : TypeId) = (30 : TypeId) ∧ rs = rs ∧ True) ∧ (decide (List.length (hkL os ts k) = (0 : Nat)) = false → (((0 : Int) ≤ i ∧ i < (↑n : Int)) ∧ True) ∧ (IsInt IntKind.u32 rs ((0 : Nat) + Int.toNat i * 1) ∧ True) ∧ (u32s (hkL os ts k) = u32s (ints (u32s (hkL os ts k))) ∧ List.length (hkL os ts k) = List.length (ints (u32s (hkL os ts k))) ∧ List.length (ints (u32s (hkL os ts k))) ≤ (32 : Nat) ∧ True) ∧ QI i (ari BinOp.add IntKind.i64 a (↑(inN (ints (u32s (rkL os ts k))) (intAt rs ((0 : Nat) + Int.toNat i * 1))) : Int)) (ari BinOp.add IntKind.i64 b (↑(inN (ints (u32s (hkL os ts k))) (intAt rs ((0 : Nat) + Int.toNat i * 1))) : Int)) (ari BinOp.add IntKind.i64 k (1 : Int)) ∧ CallKind.normal = CallKind.normal ∧ TodoOk (ren 0 [(0, 0), (1, 1), (2, 2)]) oI_d0 oI_d0 ∧ n = n ∧ ari BinOp.add IntKind.i64 b (↑(inN (ints (u32s (hkL os ts k))) (intAt rs ((0 : Nat) + Int.toNat i * 1))) : Int) = ari BinOp.add IntKind.i64 b (↑(inN (ints (u32s (hkL os ts k))) (intAt rs ((0 : Nat) + Int.toNat i * 1))) : Int) ∧ ari BinOp.add IntKind.i64 a (↑(inN (ints (u32s (rkL os ts k))) (intAt rs ((0 : Nat) + Int.toNat i * 1))) : Int) = ari BinOp.add IntKind.i64 a (↑(inN (ints (u32s (rkL os ts k))) (intAt rs ((0 : Nat) + Int.toNat i * 1))) : Int) ∧ i = i ∧ ari BinOp.add IntKind.i64 k (1 : Int) = ari BinOp.add IntKind.i64 k (1 : Int) ∧ (39 : TypeId) = (39 : TypeId) ∧ ts = ts ∧ (46 : TypeId) = (46 : TypeId) ∧ os = os ∧ (30 : TypeId) = (30 : TypeId) ∧ rs = rs ∧ True))) ∧ (decide (k < (8 : Int)) = false → ((decide (a > (1 : Int)) == false) = true → (((a == (1 : Int)) == true) = true → (decide (b > (0 : Int)) = true → false = true) ∧ (decide (b > (0 : Int)) = false → QO (ari BinOp.add IntKind.i64 i (1 : Int)) ∧ CallKind.normal = CallKind.normal ∧ TodoOk (ren 0 [(0, 0), (1, 1), (2, 2)]) oO_d0 oO_d0 ∧ n = n ∧ ari BinOp.add IntKind.i64 i (1 : Int) = ari BinOp.add IntKind.i64 i (1 : Int) ∧ (39 : TypeId) = (39 : TypeId) ∧ ts = ts ∧ (46 : TypeId) = (46 : TypeId) ∧ os = os ∧ (30 : TypeId) = (30 : TypeId) ∧ rs = rs ∧ True)) ∧ (((a == (1 : Int)) == true) = false → QO (ari BinOp.add IntKind.i64 i (1 : Int)) ∧ CallKind.normal = CallKind.normal ∧ TodoOk (ren 0 [(0, 0), (1, 1), (2, 2)]) oO_d0 oO_d0 ∧ n = n ∧ ari BinOp.add IntKind.i64 i (1 : Int) = ari BinOp.add IntKind.i64 i (1 : Int) ∧ (39 : TypeId) = (39 : TypeId) ∧ ts = ts ∧ (46 : TypeId) = (46 : TypeId) ∧ os = os ∧ (30 : TypeId) = (30 : TypeId) ∧ rs = rs ∧ True)) ∧ ((decide (a > (1 : Int)) == false) = false → false = true))) := by kernel_rfl
end Go.Proofs.YtldoopjnjlpbpaaDoor
/- Of owns: each tree is one task's at most: contract. No condition. -/
namespace Go.Proofs.YtldoopjnjlpbpaaDoor
set_option maxRecDepth 100000
set_option linter.unusedSimpArgs false
set_option linter.unusedVariables false
theorem conP3_ok : ∀ g l m t, conP3 g l m = some t → Con E0 g l m t := by
 intro g l m t h
 unfold conP3 at h
 split at h
 ·rename_i os ts k; cases h
  refine Con.asked fun hq => Con.args (l' := [osS os, tbS ts, i64 (.o k.den)]) (fun R vs ha => by
   match vs, ha with
   | [v, w, z], ha => exact ⟨ha.1, ha.2.1, ha.2.2.1, trivial⟩) ?_
  intro A hs
  exact roots_con k.den m A ⟨fun p hp => hq p hp, hs⟩
 ·rename_i os ts k; cases h
  refine Con.asked fun hq => Con.args (l' := [osS os, tbS ts, i64 (.o k.den)]) (fun R vs ha => by
   match vs, ha with
   | [v, w, z], ha => exact ⟨ha.1, ha.2.1, ha.2.2.1, trivial⟩) ?_
  intro A hs
  exact held_con k.den m A ⟨fun p hp => hq p hp, hs⟩
 ·rename_i h0; cases h
  refine Con.args (l' := [nlS, u32 h0.den]) (fun R vs ha => by
   match vs, ha with
   | [v, w], ha => exact ⟨ha.1, ha.2.1, trivial⟩) ?_
  intro A hs
  exact in_nil h0.den m A hs
 ·rename_i i n1 h0
  split at h
  ·rename_i rs w0 hb0; cases h
   refine Con.asked fun hq => Con.args (l' := [.s (.c (.f (.slice i (.l 0) n1 (.full 1)))), u32 h0.den]) (fun R vs ha => by
    match vs, ha with
    | [v, w], ha => exact ⟨ha.1, ha.2.1, trivial⟩) ?_
   intro A hs
   exact in_con h0.den rfl hb0 A ⟨fun p hp => hq p hp, hs⟩
  ·cases h
 ·rename_i i o1 n1 a0
  split at h
  ·rename_i cs ty w0 hb0; cases h
   refine Con.asked fun hq => Con.args (l' := [.s (.c (.f (.slice i o1 n1 .any))), u32 a0.den]) (fun R vs ha => by
    match vs, ha with
    | [v, w], ha => exact ⟨ha.1, ha.2.1, trivial⟩) ?_
   intro A hs
   exact before_con a0.den hb0 A ⟨fun p hp => hq p hp, hs⟩
  ·cases h
 ·exact conP2_ok _ _ _ _ h
theorem EOn_ok : EnvOk EOn := EnvOk.with E0_ok _ _ conP3_ok
theorem EOz_ok : EnvOk EOz := EnvOk.with E0_ok _ _ conP3_ok
theorem inN_nd {x : Int} : ∀ {l : List Int}, l.Nodup → inN l x ≤ 1
 | [], _ => Nat.zero_le _
 | y :: l, h => by
  rw [List.nodup_cons] at h
  unfold inN
  rw [List.filter_cons]
  split
  ·rename_i e
   have e : y = x := eq_of_beq e
   have z : l.filter (fun a => a == x) = [] := by
    rw [List.filter_eq_nil_iff]
    intro a ha k
    exact h.1 (by rw [e, ← eq_of_beq k]; exact ha)
   rw [z]
   exact Nat.le_refl _
  ·exact inN_nd h.2
theorem inN_fil {L : List Int} {P : Int → Bool} {x : Int} (hn : L.Nodup) : inN (L.filter P) x ≤ if P x = true then 1 else 0 := by
 split
 ·exact inN_nd (hn.filter _)
 ·rename_i k
  have z : (L.filter P).filter (fun a => a == x) = [] := by
   rw [List.filter_eq_nil_iff]
   intro a ha e
   rw [List.mem_filter] at ha
   rw [← eq_of_beq e] at k
   exact k ha.2
  unfold inN
  rw [z]
  exact Nat.le_refl _
def smN (f : Nat → Nat) : Nat → Nat
 | 0 => 0
 | k + 1 => smN f k + f k
theorem sm_zero {f : Nat → Nat} (h : ∀ j, f j = 0) : ∀ k, smN f k = 0
 | 0 => rfl
 | k + 1 => by show smN f k + f k = 0; rw [sm_zero h k, h k]
theorem sm_one {f : Nat → Nat} {d : Int} (h : ∀ j, f j ≤ if d = (j : Int) then 1 else 0) : ∀ k, smN f k ≤ if 0 ≤ d ∧ d < (k : Int) then 1 else 0
 | 0 => Nat.zero_le _
 | k + 1 => by
  have a := sm_one h k
  have b := h k
  show smN f k + f k ≤ _
  by_cases e : d = (k : Int)
  ·rw [if_neg (by omega)] at a
   rw [if_pos e] at b
   rw [if_pos (by omega)]
   omega
  ·rw [if_neg e] at b
   by_cases c : 0 ≤ d ∧ d < (k : Int)
   ·rw [if_pos c] at a
    rw [if_pos (by omega)]
    omega
   ·rw [if_neg c] at a
    omega
theorem sm_le {f : Nat → Nat} (h : ∀ j, f j ≤ 1) : ∀ k, smN f k ≤ k
 | 0 => Nat.le_refl _
 | k + 1 => by
  have a := sm_le h k
  have b := h k
  show smN f k + f k ≤ _
  omega
structure ON (os : Array Value) : Prop where
 k : ∀ s, s < 32 → oK os s ≤ 3
 h : ∀ s, s < 32 → oK os s ≠ 3 → oH os s = 0
 t : ∀ s, s < 32 → oK os s ≠ 1 → oT os s = 0
section
variable {os ts : Array Value}
theorem is_lt {h : Int} (c : isO os ts h = true) : sl (rtF ts h) < 32 := by
 unfold isO at c
 rw [Bool.and_eq_true] at c
 have c1 := c.1
 unfold slotOk at c1
 have c2 := of_decide_eq_true c1
 unfold sl slotI
 rw [if_pos c.1]
 omega
theorem ON.kk (hn : ON os) (h : Int) : ofK os ts h ≤ 3 := by
 unfold ofK
 split
 ·rename_i c; exact hn.k _ (is_lt c)
 ·decide
theorem ON.hh (hn : ON os) (h : Int) (c : ofK os ts h ≠ 3) : ofH os ts h = 0 := by
 unfold ofK at c
 unfold ofH
 split
 ·rename_i d; rw [if_pos d] at c; exact hn.h _ (is_lt d) c
 ·rfl
theorem ON.tt (hn : ON os) (h : Int) (c : ofK os ts h ≠ 1) : ofT os ts h = 0 := by
 unfold ofK at c
 unfold ofT
 split
 ·rename_i d; rw [if_pos d] at c; exact hn.t _ (is_lt d) c
 ·rfl
theorem rt_rt (hf : FIn ts) {x : Int} (hx : x ∈ lvT ts) : rtF ts (rtF ts x) = rtF ts x ∧ rtF ts x ∈ lvT ts := by
 have hb := hf.ok
 have hg := (lv_mem hb).1 hx
 have er : rtF ts x = rtL (upF ts) x := if_pos hg
 have hm := (rt_mem hf.fo _ (.inr hx) hx).1
 have hl := ch_sub hf.fo _ (.inr hx) _ hm
 rw [er]
 refine ⟨?_, hl⟩
 have hg2 := (lv_mem hb).1 hl
 have e2 : rtF ts (rtL (upF ts) x) = rtL (upF ts) (rtL (upF ts) x) := if_pos hg2
 rw [e2]
 first
  | exact rt_ch hf.fo _ (.inr hx) hm
  | exact (rt_ch hf.fo _ (.inr hx) hm).symm
def fA (os ts : Array Value) (x : Int) (k : Nat) : Nat := inN (rkL os ts (k : Int)) x
def fB (os ts : Array Value) (x : Int) (k : Nat) : Nat := inN (hkL os ts (k : Int)) x
theorem rk_len (k : Int) : (rkL os ts k).length ≤ 32 := Nat.le_trans (filP_le _) (lv_len ts)
theorem hk_len (k : Int) : (hkL os ts k).length ≤ 32 := Nat.le_trans (filP_le _) (lv_len ts)
theorem fA_le (hf : FIn ts) (x : Int) (k : Nat) : fA os ts x k ≤ if aPr os ts (k : Int) x = true then 1 else 0 := by
 unfold fA rkL
 rw [filP_all]
 exact inN_fil hf.fo.nd
theorem fB_le (hf : FIn ts) (x : Int) (k : Nat) : fB os ts x k ≤ if bPr os ts (k : Int) x = true then 1 else 0 := by
 unfold fB hkL
 rw [filP_all]
 exact inN_fil hf.fo.nd
theorem fA_one (hf : FIn ts) (x : Int) (k : Nat) : fA os ts x k ≤ 1 := by
 have := fA_le (os := os) hf x k
 split at this <;> omega
theorem fB_one (hf : FIn ts) (x : Int) (k : Nat) : fB os ts x k ≤ 1 := by
 have := fB_le (os := os) hf x k
 split at this <;> omega
theorem sums_ok (hf : FIn ts) (x : Int) (k : Nat) : smN (fA os ts x) k ≤ 1 ∧ (smN (fA os ts x) k = 1 → smN (fB os ts x) k = 0) := by
 by_cases c : ofK os ts x = 1
 ·constructor
  ·have := sm_one (f := fA os ts x) (d := IntKind.i64.wrap (ofT os ts x)) (fun j => by
    have := fA_le (os := os) hf x j
    by_cases e : IntKind.i64.wrap (ofT os ts x) = (j : Int)
    ·rw [if_pos e]; exact fA_one hf x j
    ·rw [if_neg (by unfold aPr; simp [e])] at this
     omega) k
   split at this <;> omega
  ·intro _
   refine sm_zero (fun j => ?_) k
   have := fB_le (os := os) hf x j
   rw [if_neg (by unfold bPr; simp [c])] at this
   omega
 ·have z : smN (fA os ts x) k = 0 := by
   refine sm_zero (fun j => ?_) k
   have := fA_le (os := os) hf x j
   rw [if_neg (by unfold aPr; simp [c])] at this
   omega
  rw [z]
  exact ⟨by omega, fun h => by cases h⟩
theorem oX_good {n : Nat} {rs : Array Value} {A : SV → SMem → Prop} {QO : Int → Prop} {QI : Int → Int → Int → Int → Prop} {fs : List SFr} {m : SMem} (hO : ∀ i, QO i → Good Tryd.prog A 0 (oO_F os ts n rs i) (oO_M os ts n rs i)) (hI : ∀ i a b k, QI i a b k → Good Tryd.prog A 0 (oI_F os ts n rs i a b k) (oI_M os ts n rs i a b k)) (hb : oX os ts n rs QO QI fs m) : Good Tryd.prog A 0 fs m := by
 unfold oX at hb
 split at hb
 ·exact oO_good hO hb
 ·exact oI_good hI hb
theorem oI_ok (ho : OsOk os) (hf : FIn ts) {i : Nat} (hi : i < (lvT ts).length) (hO : Good Tryd.prog (isB true) 0 (oO_F os ts (lvT ts).length (u32s (lvT ts)) ((i + 1 : Nat) : Int)) (oO_M os ts (lvT ts).length (u32s (lvT ts)) ((i + 1 : Nat) : Int))) : ∀ (w k : Nat), k + w = 8 → Good Tryd.prog (isB true) 0 (oI_F os ts (lvT ts).length (u32s (lvT ts)) (i : Int) (smN (fA os ts ((lvT ts).getD i 0)) k : Int) (smN (fB os ts ((lvT ts).getD i 0)) k : Int) (k : Int)) (oI_M os ts (lvT ts).length (u32s (lvT ts)) (i : Int) (smN (fA os ts ((lvT ts).getD i 0)) k : Int) (smN (fB os ts ((lvT ts).getD i 0)) k : Int) (k : Int)) := by
 have hb := hf.ok
 have hs := hb.sz
 have hos := ho.sz
 have hlen := lv_len ts
 have g1 : IsInt .u32 (u32s (lvT ts)) i := isI_of (u32s_at hi)
 have g2 : intAt (u32s (lvT ts)) i = (lvT ts).getD i 0 := intAt_of (u32s_at hi)
 have hx : 0 ≤ (lvT ts).getD i 0 ∧ (lvT ts).getD i 0 < 4294967296 := lv_in hb (.inr (lv_at hb hi))
 have y0 : 0 ≤ (i : Int) := by omega
 have y1 : (i : Int) < ((lvT ts).length : Int) := by omega
 generalize (lvT ts).getD i 0 = x at *
 intro w
 induction w with
 | zero =>
  intro k hk
  obtain rfl : k = 8 := by omega
  refine past_vc EOn_ok 1000 (onI os ts _ _ (i : Int) _ _ _ (fun i' => i' = ((i + 1 : Nat) : Int)) (fun _ _ _ _ => False)) ?_ (fun _ _ h => h) (fun fs m hb => oX_good (fun i' a => by rw [a]; exact hO) (fun _ _ _ _ h => h.elim) hb)
  have d : decide (((8 : Nat) : Int) < 8) = false := rfl
  have ei : ari .add .i64 (i : Int) 1 = ((i + 1 : Nat) : Int) := by rw [ari_add, i64_in' (by omega) (by omega)]; omega
  obtain ⟨s1, s2⟩ := sums_ok (os := os) hf x 8
  have d1 : decide (((smN (fA os ts x) 8 : Nat) : Int) > 1) = false := decide_eq_false (by omega)
  by_cases c : smN (fA os ts x) 8 = 1
  ·have d2 : (((smN (fA os ts x) 8 : Nat) : Int) == 1) = true := by rw [c]; rfl
   have d3 : decide (((smN (fB os ts x) 8 : Nat) : Int) > 0) = false := decide_eq_false (by rw [s2 c]; omega)
   simp only [d, d1, d2, d3, ei, beq_self_eq_true, Bool.false_eq_true, Bool.true_eq_false, false_implies, true_implies, and_true, true_and, oO_d0_ok]
  ·have d2 : (((smN (fA os ts x) 8 : Nat) : Int) == 1) = false := beq_eq_false_iff_ne.2 (fun e => c (by omega))
   simp only [d, d1, d2, ei, beq_self_eq_true, beqT, beqF, Bool.false_eq_true, Bool.true_eq_false, false_implies, true_implies, and_true, true_and, oO_d0_ok]
 | succ w ih =>
  intro k hk
  refine past_vc EOn_ok 1000 (onI os ts _ _ (i : Int) _ _ (k : Int) (fun _ => False) (fun i' a' b' k' => i' = (i : Int) ∧ a' = (smN (fA os ts x) (k + 1) : Int) ∧ b' = (smN (fB os ts x) (k + 1) : Int) ∧ k' = ((k + 1 : Nat) : Int))) ?_ (fun _ _ h => h) (fun fs m hb => oX_good (fun _ h => h.elim) (fun i' a' b' k' ⟨a, b, c, d⟩ => by rw [a, b, c, d]; exact ih (k + 1) (by omega)) hb)
  have d : decide ((k : Int) < 8) = true := decide_eq_true (by omega)
  have ek : ari .add .i64 (k : Int) 1 = ((k + 1 : Nat) : Int) := by rw [ari_add, i64_in' (by omega) (by omega)]; omega
  have a1 := fA_one (os := os) hf x k
  have b1 := fB_one (os := os) hf x k
  have a2 := sm_le (fA_one (os := os) hf x) k
  have b2 := sm_le (fB_one (os := os) hf x) k
  have eA : ari .add .i64 ((smN (fA os ts x) k : Nat) : Int) ((inN (rkL os ts (k : Int)) x : Nat) : Int) = ((smN (fA os ts x) (k + 1) : Nat) : Int) := by
   show ari .add .i64 ((smN (fA os ts x) k : Nat) : Int) ((fA os ts x k : Nat) : Int) = ((smN (fA os ts x) k + fA os ts x k : Nat) : Int)
   rw [ari_add, i64_in' (by omega) (by omega)]; omega
  have eB : ari .add .i64 ((smN (fB os ts x) k : Nat) : Int) ((inN (hkL os ts (k : Int)) x : Nat) : Int) = ((smN (fB os ts x) (k + 1) : Nat) : Int) := by
   show ari .add .i64 ((smN (fB os ts x) k : Nat) : Int) ((fB os ts x k : Nat) : Int) = ((smN (fB os ts x) k + fB os ts x k : Nat) : Int)
   rw [ari_add, i64_in' (by omega) (by omega)]; omega
  have zA : decide ((rkL os ts (k : Int)).length = 0) = true → ari .add .i64 ((smN (fA os ts x) k : Nat) : Int) 0 = ((smN (fA os ts x) (k + 1) : Nat) : Int) := fun e => by
   rw [List.eq_nil_of_length_eq_zero (of_decide_eq_true e)] at eA
   exact eA
  have zB : decide ((hkL os ts (k : Int)).length = 0) = true → ari .add .i64 ((smN (fB os ts x) k : Nat) : Int) 0 = ((smN (fB os ts x) (k + 1) : Nat) : Int) := fun e => by
   rw [List.eq_nil_of_length_eq_zero (of_decide_eq_true e)] at eB
   exact eB
  have lA := rk_len (os := os) (ts := ts) (k : Int)
  have lB := hk_len (os := os) (ts := ts) (k : Int)
  cases cA : decide ((rkL os ts (k : Int)).length = 0) <;> cases cB : decide ((hkL os ts (k : Int)).length = 0)
  ·simp only [d, ek, ints_u32s, Int.toNat_natCast, Nat.mul_one, Nat.zero_add, g1, g2, y0, y1, hs, hos, ho, hf, eA, eB, lA, lB, Bool.false_eq_true, Bool.true_eq_false, false_implies, true_implies, and_true, true_and, oI_d0_ok]
  ·simp only [d, ek, ints_u32s, Int.toNat_natCast, Nat.mul_one, Nat.zero_add, g1, g2, y0, y1, hs, hos, ho, hf, eA, zB cB, lA, lB, Bool.false_eq_true, Bool.true_eq_false, false_implies, true_implies, and_true, true_and, oI_d0_ok]
  ·simp only [d, ek, ints_u32s, Int.toNat_natCast, Nat.mul_one, Nat.zero_add, g1, g2, y0, y1, hs, hos, ho, hf, zA cA, eB, lA, lB, Bool.false_eq_true, Bool.true_eq_false, false_implies, true_implies, and_true, true_and, oI_d0_ok]
  ·simp only [d, ek, ints_u32s, Int.toNat_natCast, Nat.mul_one, Nat.zero_add, g1, g2, y0, y1, hs, hos, ho, hf, zA cA, zB cB, lA, lB, Bool.false_eq_true, Bool.true_eq_false, false_implies, true_implies, and_true, true_and, oI_d0_ok]
theorem oO_ok (ho : OsOk os) (hf : FIn ts) (hn : ON os) : ∀ (w i : Nat), i + w = (lvT ts).length → Good Tryd.prog (isB true) 0 (oO_F os ts (lvT ts).length (u32s (lvT ts)) (i : Int)) (oO_M os ts (lvT ts).length (u32s (lvT ts)) (i : Int)) := by
 have hb := hf.ok
 have hs := hb.sz
 have hos := ho.sz
 have hlen := lv_len ts
 intro w
 induction w with
 | zero =>
  intro i hi
  obtain rfl : i = (lvT ts).length := by omega
  refine past_vc EOn_ok 1000 (onO os ts _ _ _ (fun _ => False) (fun _ _ _ _ => False)) ?_ (fun _ _ h => h) (fun fs m hb => oX_good (fun _ h => h.elim) (fun _ _ _ _ h => h.elim) hb)
  have d : decide (((lvT ts).length : Int) < ((lvT ts).length : Int)) = false := decide_eq_false (by omega)
  simp only [d, Bool.false_eq_true, Bool.true_eq_false, false_implies, true_implies, and_true, true_and]
 | succ w ih =>
  intro i hi
  have hi' : i < (lvT ts).length := by omega
  have hh : (lvT ts).getD i 0 ∈ lvT ts := lv_at hb hi'
  have next := oI_ok ho hf hi' (ih (i + 1) (by omega)) 8 0 rfl
  refine past_vc EOn_ok 1000 (onO os ts _ _ (i : Int) (fun _ => False) (fun i' a' b' k' => i' = (i : Int) ∧ a' = ((0 : Nat) : Int) ∧ b' = ((0 : Nat) : Int) ∧ k' = ((0 : Nat) : Int))) ?_ (fun _ _ h => h) (fun fs m hb => oX_good (fun _ h => h.elim) (fun i' a' b' k' ⟨a, b, c, d⟩ => by rw [a, b, c, d]; exact next) hb)
  have d : decide ((i : Int) < ((lvT ts).length : Int)) = true := decide_eq_true (by omega)
  have g1 : IsInt .u32 (u32s (lvT ts)) i := isI_of (u32s_at hi')
  have g2 : intAt (u32s (lvT ts)) i = (lvT ts).getD i 0 := intAt_of (u32s_at hi')
  have hx : 0 ≤ (lvT ts).getD i 0 ∧ (lvT ts).getD i 0 < 4294967296 := lv_in hb (.inr hh)
  have y0 : 0 ≤ (i : Int) := by omega
  have y1 : (i : Int) < ((lvT ts).length : Int) := by omega
  obtain ⟨e1, e2⟩ := rt_rt hf hh
  have hr : 0 ≤ rtF ts ((lvT ts).getD i 0) ∧ rtF ts ((lvT ts).getD i 0) < 4294967296 := lv_in hb (.inr e2)
  generalize (lvT ts).getD i 0 = x at *
  have k1 : ofK os ts (rtF ts x) = ofK os ts x := by unfold ofK isO; rw [e1]
  have k2 : ofT os ts (rtF ts x) = ofT os ts x := by unfold ofT isO; rw [e1]
  have k3 : ofH os ts (rtF ts x) = ofH os ts x := by unfold ofH isO; rw [e1]
  have d1 : decide (ofK os ts x > 3) = false := decide_eq_false (by have := hn.kk (ts := ts) x; omega)
  have z : ((0 : Nat) : Int) = 0 := rfl
  by_cases c3 : ofK os ts x = 3
  ·have d2 : (ofK os ts x != 3) = false := by rw [c3]; rfl
   have d3 : (ofK os ts x != 1) = true := by rw [c3]; rfl
   have d4 : (ofT os ts x != 0) = false := by rw [hn.tt x (by omega)]; rfl
   simp only [d, Int.toNat_natCast, Nat.mul_one, Nat.zero_add, g1, g2, hx, hr, y0, y1, hs, hos, ho, hf, k1, k2, k3, d1, d2, d3, d4, z, beq_self_eq_true, beqT, beqF, Bool.and_self, Bool.not_true, Bool.not_false, decide_true, Bool.false_eq_true, Bool.true_eq_false, false_implies, true_implies, and_true, true_and, oI_d0_ok]
  ·have d2 : (ofK os ts x != 3) = true := bne_iff_ne.2 c3
   have d5 : (ofH os ts x != 0) = false := by rw [hn.hh x c3]; rfl
   by_cases c1 : ofK os ts x = 1
   ·have d3 : (ofK os ts x != 1) = false := by rw [c1]; rfl
    simp only [d, Int.toNat_natCast, Nat.mul_one, Nat.zero_add, g1, g2, hx, hr, y0, y1, hs, hos, ho, hf, k1, k2, k3, d1, d2, d3, d5, z, beq_self_eq_true, beqT, beqF, Bool.and_self, Bool.not_true, Bool.not_false, decide_true, Bool.false_eq_true, Bool.true_eq_false, false_implies, true_implies, and_true, true_and, oI_d0_ok]
   ·have d3 : (ofK os ts x != 1) = true := bne_iff_ne.2 c1
    have d4 : (ofT os ts x != 0) = false := by rw [hn.tt x c1]; rfl
    simp only [d, Int.toNat_natCast, Nat.mul_one, Nat.zero_add, g1, g2, hx, hr, y0, y1, hs, hos, ho, hf, k1, k2, k3, d1, d2, d3, d4, d5, z, beq_self_eq_true, beqT, beqF, Bool.and_self, Bool.not_true, Bool.not_false, decide_true, Bool.false_eq_true, Bool.true_eq_false, false_implies, true_implies, and_true, true_and, oI_d0_ok]
theorem one_con (m : SMem) : Con E0 18 [tbS ts, osS os] m (needs [OsOk os, FIn ts, ON os] (.ret (sB (.l true)) m)) := by
 refine Con.readV (ms := e0M) (l' := [tbS ts, osS os]) E0_ok (by kernel_rfl : E0.fn 18 = some Tryd.f18) (by kernel_rfl : Tryd.f18.body = some (Tryd.f18.body.getD .skip)) rfl (fun _ => 0) (fun q b hb => by cases hb) (fun R vs hv => ok_anys (by kernel_rfl) hv) (A := isB true) (fun hq => ?_) (fun s m' R R' v hs hv => isB_ok hs hv)
 have ho : OsOk os := hq _ (by simp)
 have hf : FIn ts := hq _ (by simp)
 have hn : ON os := hq _ (by simp)
 have hb := hf.ok
 have hs := hb.sz
 cases c : decide ((lvT ts).length = 0) with
 | true =>
  refine run_vc EOz_ok 1000 (onZ os ts) ?_ (fun s m h => h) fun fs m hm => hm.elim
  simp only [c, hs, hb, Bool.false_eq_true, Bool.true_eq_false, false_implies, true_implies, and_true, true_and]
 | false =>
  refine run_vc EOn_ok 1000 (onF0 os ts (lvT ts).length (u32s (lvT ts)) (fun i => i = ((0 : Nat) : Int))) ?_ (fun s m h => h) fun fs m hm => on0_go (fun i e1 => by
   rw [e1]
   exact oO_ok ho hf hn _ 0 (Nat.zero_add _)) hm
  simp only [c, hs, hb, Bool.false_eq_true, Bool.true_eq_false, false_implies, true_implies, and_true, true_and, oO_d0_ok]
  first | rfl | exact ⟨rfl, rfl⟩
end
end Go.Proofs.YtldoopjnjlpbpaaDoor
/- Of owns: OwnOne: the law's states. No condition. -/
namespace Go.Proofs.YtldoopjnjlpbpaaDoor
set_option linter.unusedVariables false
noncomputable def zO : Array Value := #[Value.int IntKind.u32 (0 : Int), Value.int IntKind.u8 (0 : Int), Value.int IntKind.u8 (0 : Int), Value.int IntKind.u8 (0 : Int), Value.int IntKind.u32 (0 : Int), Value.int IntKind.u8 (0 : Int), Value.int IntKind.u8 (0 : Int), Value.int IntKind.u8 (0 : Int), Value.int IntKind.u32 (0 : Int), Value.int IntKind.u8 (0 : Int), Value.int IntKind.u8 (0 : Int), Value.int IntKind.u8 (0 : Int), Value.int IntKind.u32 (0 : Int), Value.int IntKind.u8 (0 : Int), Value.int IntKind.u8 (0 : Int), Value.int IntKind.u8 (0 : Int), Value.int IntKind.u32 (0 : Int), Value.int IntKind.u8 (0 : Int), Value.int IntKind.u8 (0 : Int), Value.int IntKind.u8 (0 : Int), Value.int IntKind.u32 (0 : Int), Value.int IntKind.u8 (0 : Int), Value.int IntKind.u8 (0 : Int), Value.int IntKind.u8 (0 : Int), Value.int IntKind.u32 (0 : Int), Value.int IntKind.u8 (0 : Int), Value.int IntKind.u8 (0 : Int), Value.int IntKind.u8 (0 : Int), Value.int IntKind.u32 (0 : Int), Value.int IntKind.u8 (0 : Int), Value.int IntKind.u8 (0 : Int), Value.int IntKind.u8 (0 : Int), Value.int IntKind.u32 (0 : Int), Value.int IntKind.u8 (0 : Int), Value.int IntKind.u8 (0 : Int), Value.int IntKind.u8 (0 : Int), Value.int IntKind.u32 (0 : Int), Value.int IntKind.u8 (0 : Int), Value.int IntKind.u8 (0 : Int), Value.int IntKind.u8 (0 : Int), Value.int IntKind.u32 (0 : Int), Value.int IntKind.u8 (0 : Int), Value.int IntKind.u8 (0 : Int), Value.int IntKind.u8 (0 : Int), Value.int IntKind.u32 (0 : Int), Value.int IntKind.u8 (0 : Int), Value.int IntKind.u8 (0 : Int), Value.int IntKind.u8 (0 : Int), Value.int IntKind.u32 (0 : Int), Value.int IntKind.u8 (0 : Int), Value.int IntKind.u8 (0 : Int), Value.int IntKind.u8 (0 : Int), Value.int IntKind.u32 (0 : Int), Value.int IntKind.u8 (0 : Int), Value.int IntKind.u8 (0 : Int), Value.int IntKind.u8 (0 : Int), Value.int IntKind.u32 (0 : Int), Value.int IntKind.u8 (0 : Int), Value.int IntKind.u8 (0 : Int), Value.int IntKind.u8 (0 : Int), Value.int IntKind.u32 (0 : Int), Value.int IntKind.u8 (0 : Int), Value.int IntKind.u8 (0 : Int), Value.int IntKind.u8 (0 : Int), Value.int IntKind.u32 (0 : Int), Value.int IntKind.u8 (0 : Int), Value.int IntKind.u8 (0 : Int), Value.int IntKind.u8 (0 : Int), Value.int IntKind.u32 (0 : Int), Value.int IntKind.u8 (0 : Int), Value.int IntKind.u8 (0 : Int), Value.int IntKind.u8 (0 : Int), Value.int IntKind.u32 (0 : Int), Value.int IntKind.u8 (0 : Int), Value.int IntKind.u8 (0 : Int), Value.int IntKind.u8 (0 : Int), Value.int IntKind.u32 (0 : Int), Value.int IntKind.u8 (0 : Int), Value.int IntKind.u8 (0 : Int), Value.int IntKind.u8 (0 : Int), Value.int IntKind.u32 (0 : Int), Value.int IntKind.u8 (0 : Int), Value.int IntKind.u8 (0 : Int), Value.int IntKind.u8 (0 : Int), Value.int IntKind.u32 (0 : Int), Value.int IntKind.u8 (0 : Int), Value.int IntKind.u8 (0 : Int), Value.int IntKind.u8 (0 : Int), Value.int IntKind.u32 (0 : Int), Value.int IntKind.u8 (0 : Int), Value.int IntKind.u8 (0 : Int), Value.int IntKind.u8 (0 : Int), Value.int IntKind.u32 (0 : Int), Value.int IntKind.u8 (0 : Int), Value.int IntKind.u8 (0 : Int), Value.int IntKind.u8 (0 : Int), Value.int IntKind.u32 (0 : Int), Value.int IntKind.u8 (0 : Int), Value.int IntKind.u8 (0 : Int), Value.int IntKind.u8 (0 : Int), Value.int IntKind.u32 (0 : Int), Value.int IntKind.u8 (0 : Int), Value.int IntKind.u8 (0 : Int), Value.int IntKind.u8 (0 : Int), Value.int IntKind.u32 (0 : Int), Value.int IntKind.u8 (0 : Int), Value.int IntKind.u8 (0 : Int), Value.int IntKind.u8 (0 : Int), Value.int IntKind.u32 (0 : Int), Value.int IntKind.u8 (0 : Int), Value.int IntKind.u8 (0 : Int), Value.int IntKind.u8 (0 : Int), Value.int IntKind.u32 (0 : Int), Value.int IntKind.u8 (0 : Int), Value.int IntKind.u8 (0 : Int), Value.int IntKind.u8 (0 : Int), Value.int IntKind.u32 (0 : Int), Value.int IntKind.u8 (0 : Int), Value.int IntKind.u8 (0 : Int), Value.int IntKind.u8 (0 : Int), Value.int IntKind.u32 (0 : Int), Value.int IntKind.u8 (0 : Int), Value.int IntKind.u8 (0 : Int), Value.int IntKind.u8 (0 : Int), Value.int IntKind.u32 (0 : Int), Value.int IntKind.u8 (0 : Int), Value.int IntKind.u8 (0 : Int), Value.int IntKind.u8 (0 : Int)]
theorem zO_sz : zO.size = 128 := by kernel_rfl
def cA (cs : Array Value) (off : Nat) (i : Int) : Int := intAt cs (off + Int.toNat i * 5 + 1)
def cQ (cs : Array Value) (off : Nat) (i : Int) : Int := intAt cs (off + Int.toNat i * 5 + 4)
def cD (cs : Array Value) (off : Nat) (i : Int) : Int := intAt cs (off + Int.toNat i * 5)
noncomputable def eS : SV := .s (.c (.f .e0))
noncomputable def conP4 (g : FuncId) (l : List SV) (m : SMem) : Option Tree := match g, l with
 | 4, [] => some (.ret (sB (.l true)) m)
 | 18, [.s (.agg (.op ts)), .s (.agg (.op os))] => some (.need [OsOk os, FIn ts, ON os] (.ret (sB (.l true)) m))
 | 12, [.s (.agg (.op os)), .s (.agg (.op ts)), .s (.c (.f (.int .u32 h))), .s (.c (.f (.int .i64 t)))] => some (.need [OsOk os, FIn ts, inH h.den] (.ret (opS (gvT os ts h.den t.den) (gvE ts h.den t.den)) m))
 | 13, [.s (.agg (.op os)), .s (.agg (.op ts)), .s (.c (.f (.int .u32 h))), .s (.c (.f (.int .i64 t)))] => some (.need [OsOk os, FIn ts, inH h.den] (.ret (opS (frT os ts h.den t.den) (gvE ts h.den t.den)) m))
 | 14, [.s (.agg (.op os)), .s (.agg (.op ts)), .s (.c (.f (.int .u32 h)))] => some (.need [OsOk os, FIn ts, inH h.den] (.ret (opS (fyT os ts h.den) (mrE ts h.den)) m))
 | 15, [.s (.agg (.op os)), .s (.agg (.op ts)), .s (.c (.f (.int .u32 h))), .s (.c (.f (.int .i64 t)))] => some (.need [OsOk os, FIn ts, inH h.den] (.ret (opS (hdT os ts h.den t.den) (hdE os ts h.den t.den)) m))
 | 16, [.s (.agg (.op os)), .s (.agg (.op ts)), .s (.c (.f (.int .u32 h))), .s (.c (.f (.int .i64 t)))] => some (.need [OsOk os, FIn ts, inH h.den] (.ret (opS3 (odT os ts h.den t.den) (odN os ts h.den t.den) (odE os ts h.den t.den)) m))
 | g, l => conP3 g l m
noncomputable def EL : Env := ⟨Tryd.prog, fnOf, conP4, haltAt [3 * 1000 + 6, 3 * 1000 + 41]⟩
noncomputable def EW : Env := ⟨Tryd.prog, fnOf, conP4, haltAt []⟩
noncomputable def pL_d0 : List SIt := sekF Tryd.f3 6
noncomputable def pL_F (off : Nat) (n : Nat) (cs : Array Value) (ty : TypeId) (i : Int) (ts : Array Value) (os : Array Value) : List SFr := [frOf 3 Tryd.f3 [(0, acS off n), (3, ptr 1 (.l 0)), (4, ptr 2 (.l 0)), (5, i64 (.o i))] pL_d0]
noncomputable def pL_M (off : Nat) (n : Nat) (cs : Array Value) (ty : TypeId) (i : Int) (ts : Array Value) (os : Array Value) : SMem := mkM 3 [(0, ⟨.raw cs, ty, false⟩), (1, ⟨.op ts, 39, true⟩), (2, ⟨.op os, 46, true⟩)]
noncomputable def pL_n (off : Nat) (n : Nat) (cs : Array Value) (ty : TypeId) (Q : Int → Array Value → Array Value → Prop) (fs : List SFr) (m : SMem) : Prop := (match frNth fs 0 with | some f0 => (match rdI f0 5 with | some i => (match rdP f0 3 with | some p1 => (match rdP f0 4 with | some p2 => (match rdA m p1 with | some ts => (match rdA m p2 with | some os => Q i ts os ∧ subOk 1 [(1, p1), (2, p2)] (pL_F off n cs ty i ts os) (pL_M off n cs ty i ts os) fs m | none => False) | none => False) | none => False) | none => False) | none => False) | none => False)
noncomputable def pE_d0 : List SIt := sekF Tryd.f3 41
noncomputable def pE_F (off : Nat) (n : Nat) (cs : Array Value) (ty : TypeId) (i : Int) (ts : Array Value) (os : Array Value) : List SFr := [frOf 3 Tryd.f3 [(0, acS off n), (3, ptr 1 (.l 0)), (4, ptr 2 (.l 0)), (5, i64 (.o i))] pE_d0]
noncomputable def pE_M (off : Nat) (n : Nat) (cs : Array Value) (ty : TypeId) (i : Int) (ts : Array Value) (os : Array Value) : SMem := mkM 3 [(0, ⟨.raw cs, ty, false⟩), (1, ⟨.op ts, 39, true⟩), (2, ⟨.op os, 46, true⟩)]
noncomputable def pE_n (off : Nat) (n : Nat) (cs : Array Value) (ty : TypeId) (Q : Int → Array Value → Array Value → Prop) (fs : List SFr) (m : SMem) : Prop := (match frNth fs 0 with | some f0 => (match rdI f0 5 with | some i => (match rdP f0 3 with | some p1 => (match rdP f0 4 with | some p2 => (match rdA m p1 with | some ts => (match rdA m p2 with | some os => Q i ts os ∧ subOk 1 [(1, p1), (2, p2)] (pE_F off n cs ty i ts os) (pE_M off n cs ty i ts os) fs m | none => False) | none => False) | none => False) | none => False) | none => False) | none => False)
noncomputable def v0_t (off : Nat) (n : Nat) (cs : Array Value) (ty : TypeId) : Tree := run EL 1000 1 [callFr 3 Tryd.f3.ntmps [acS off n] (Tryd.f3.body.getD .skip)] (mkM 1 [(0, ⟨.raw cs, ty, false⟩)])
noncomputable def v0_x (off : Nat) (n : Nat) (cs : Array Value) (ty : TypeId) (QpL : Int → Array Value → Array Value → Prop) (fs : List SFr) (m : SMem) : Prop := pL_n off n cs ty QpL fs m
noncomputable def vL_t (off : Nat) (n : Nat) (cs : Array Value) (ty : TypeId) (i : Int) (ts : Array Value) (os : Array Value) : Tree := stepT EL.go (run EL 1000) 1 (pL_F off n cs ty i ts os) (pL_M off n cs ty i ts os)
noncomputable def vL_x (off : Nat) (n : Nat) (cs : Array Value) (ty : TypeId) (i : Int) (ts : Array Value) (os : Array Value) (QpE : Int → Array Value → Array Value → Prop) (fs : List SFr) (m : SMem) : Prop := pE_n off n cs ty QpE fs m
noncomputable def vE_t (off : Nat) (n : Nat) (cs : Array Value) (ty : TypeId) (i : Int) (ts : Array Value) (os : Array Value) : Tree := stepT EL.go (run EL 1000) 1 (pE_F off n cs ty i ts os) (pE_M off n cs ty i ts os)
noncomputable def vE_x (off : Nat) (n : Nat) (cs : Array Value) (ty : TypeId) (i : Int) (ts : Array Value) (os : Array Value) (QpL : Int → Array Value → Array Value → Prop) (fs : List SFr) (m : SMem) : Prop := pL_n off n cs ty QpL fs m
theorem pL_d0_ok (r : Nat → Option Nat) : TodoOk r pL_d0 pL_d0 := TodoOk.it (by kernel_rfl)
theorem pE_d0_ok (r : Nat → Option Nat) : TodoOk r pE_d0 pE_d0 := TodoOk.it (by kernel_rfl)
theorem pL_good {A : SV → SMem → Prop} {off : Nat} {n : Nat} {cs : Array Value} {ty : TypeId} {Q : Int → Array Value → Array Value → Prop} {fs : List SFr} {m : SMem} (H : ∀ i ts os, Q i ts os → Good Tryd.prog A 1 (pL_F off n cs ty i ts os) (pL_M off n cs ty i ts os)) (hb : pL_n off n cs ty Q fs m) : Good Tryd.prog A 1 fs m := by
 unfold pL_n at hb
 split at hb
 rotate_left
 ·exact hb.elim
 split at hb
 rotate_left
 ·exact hb.elim
 split at hb
 rotate_left
 ·exact hb.elim
 split at hb
 rotate_left
 ·exact hb.elim
 split at hb
 rotate_left
 ·exact hb.elim
 split at hb
 rotate_left
 ·exact hb.elim
 exact Good.of_sub hb.2 (H _ _ _ hb.1)
theorem pE_good {A : SV → SMem → Prop} {off : Nat} {n : Nat} {cs : Array Value} {ty : TypeId} {Q : Int → Array Value → Array Value → Prop} {fs : List SFr} {m : SMem} (H : ∀ i ts os, Q i ts os → Good Tryd.prog A 1 (pE_F off n cs ty i ts os) (pE_M off n cs ty i ts os)) (hb : pE_n off n cs ty Q fs m) : Good Tryd.prog A 1 fs m := by
 unfold pE_n at hb
 split at hb
 rotate_left
 ·exact hb.elim
 split at hb
 rotate_left
 ·exact hb.elim
 split at hb
 rotate_left
 ·exact hb.elim
 split at hb
 rotate_left
 ·exact hb.elim
 split at hb
 rotate_left
 ·exact hb.elim
 split at hb
 rotate_left
 ·exact hb.elim
 exact Good.of_sub hb.2 (H _ _ _ hb.1)
theorem v0_go {A : SV → SMem → Prop} {off : Nat} {n : Nat} {cs : Array Value} {ty : TypeId} {QpL : Int → Array Value → Array Value → Prop} {fs : List SFr} {m : SMem} (hpL : ∀ i' ts' os', QpL i' ts' os' → Good Tryd.prog A 1 (pL_F off n cs ty i' ts' os') (pL_M off n cs ty i' ts' os')) (hb : v0_x off n cs ty QpL fs m) : Good Tryd.prog A 1 fs m := by
 unfold v0_x at hb
 exact pL_good hpL hb
theorem vL_go {A : SV → SMem → Prop} {off : Nat} {n : Nat} {cs : Array Value} {ty : TypeId} {i : Int} {ts : Array Value} {os : Array Value} {QpE : Int → Array Value → Array Value → Prop} {fs : List SFr} {m : SMem} (hpE : ∀ i' ts' os', QpE i' ts' os' → Good Tryd.prog A 1 (pE_F off n cs ty i' ts' os') (pE_M off n cs ty i' ts' os')) (hb : vL_x off n cs ty i ts os QpE fs m) : Good Tryd.prog A 1 fs m := by
 unfold vL_x at hb
 exact pE_good hpE hb
theorem vE_go {A : SV → SMem → Prop} {off : Nat} {n : Nat} {cs : Array Value} {ty : TypeId} {i : Int} {ts : Array Value} {os : Array Value} {QpL : Int → Array Value → Array Value → Prop} {fs : List SFr} {m : SMem} (hpL : ∀ i' ts' os', QpL i' ts' os' → Good Tryd.prog A 1 (pL_F off n cs ty i' ts' os') (pL_M off n cs ty i' ts' os')) (hb : vE_x off n cs ty i ts os QpL fs m) : Good Tryd.prog A 1 fs m := by
 unfold vE_x at hb
 exact pL_good hpL hb
end Go.Proofs.YtldoopjnjlpbpaaDoor
