/- Of TableAbove: the law's states. No condition. -/
import Derived.Test.YtjjeahnbppmigaaDoorMB
set_option linter.unusedVariables false
set_option linter.unusedSimpArgs false
namespace Go.Proofs.YtjjeahnbppmigaaDoor
set_option linter.unusedSectionVars false
variable [Gh]
set_option linter.unusedVariables false
noncomputable def conL (g : FuncId) (l : List SV) (m : SMem) : Option Tree := match g, l with
  | 5, [.s (.c (.f (.slice i off n _)))] => (match getB m.bl i with | some ⟨.raw ds, _, _⟩ => some (.need [AcOk ds off.den n.den] (.ret (sB (.o (grB ds off.den n.den))) m)) | _ => none)
  | 5, [.s (.c (.f .e0))] => some (.ret (sB (.o false)) m)
  | 6, [] => some (.ret (sB (.l true)) m)
  | 17, [.s (.agg (.op ts)), .s (.c (.f (.int .u32 h))), .s (.c (.f (.int .u32 u)))] => some (.need [FIn ts, inH h.den, inH u.den] (.ret (rgS (raT ts h.den u.den) (raE ts h.den u.den)) m))
  | g, l => conTg g l m
noncomputable section
omit [Gh] in
def acC (ds : Array Value) (p : Nat) : SA := .ls [.f (.int .u8 (.o (intAt ds p))), .f (.int .u32 (.o (intAt ds (p + 1)))), .f (.int .u32 (.o (intAt ds (p + 2)))), .f (.int .i64 (.o (intAt ds (p + 3)))), .f (.int .i64 (.o (intAt ds (p + 4)))), .f (.opq (valAt ds (p + 5))), .f (.int .i64 (.o (intAt ds (p + 6)))), .f (.int .i64 (.o (intAt ds (p + 7)))), .f (.int .i64 (.o (intAt ds (p + 8)))), .f (.int .i64 (.o (intAt ds (p + 9)))), .f (.int .i64 (.o (intAt ds (p + 10)))), .f (.int .i64 (.o (intAt ds (p + 11)))), .f (.int .i64 (.o (intAt ds (p + 12)))), .f (.int .i64 (.o (intAt ds (p + 13)))), .f (.int .i64 (.o (intAt ds (p + 14))))]
omit [Gh] in
def rdQ (m : SMem) (id : Nat) : Option (Array Value) := match getB m.bl id with | some ⟨.patch cs _ _, _, _⟩ => some cs | _ => none
omit [Gh] in
def rdQo (m : SMem) (id : Nat) : Option Nat := match getB m.bl id with | some ⟨.patch _ o _, _, _⟩ => some o | _ => none
omit [Gh] in
def rdQi (m : SMem) (id : Nat) : Option Nat := match getB m.bl id with | some ⟨.patch _ _ (.slice i _ _ _), _, _⟩ => some i | _ => none
omit [Gh] in
def rdQn (m : SMem) (id : Nat) : Option Nat := match getB m.bl id with | some ⟨.patch _ _ (.slice _ _ n _), _, _⟩ => some n.den | _ => none
omit [Gh] in
def rowF (id k : Nat) : SV := .s (.c (.f (.slice id (.l 0) (.o k) (.full 1))))
end
noncomputable def EL : Env := ⟨Tryd.prog, fnOf, conL, haltAt [4007, 4019, 4023, 4025, 4026, 4029, 4034, 4036]⟩
omit [Gh] in
noncomputable def sA_d0 : List SIt := sekF Tryd.f4 7
omit [Gh] in
noncomputable def sA_F (off : Nat) (num : Nat) (ds : Array Value) (ty : TypeId) (i : Int) (ts : Array Value) : List SFr := [frOf 4 Tryd.f4 [(0, acS off num), (3, ptr 1 (.l 0)), (4, i64 (.o i))] sA_d0]
omit [Gh] in
noncomputable def sA_M (off : Nat) (num : Nat) (ds : Array Value) (ty : TypeId) (i : Int) (ts : Array Value) : SMem := mkM 2 [(0, ⟨.raw ds, ty, false⟩), (1, ⟨.op ts, 41, true⟩)]
omit [Gh] in
noncomputable def sA_n (off : Nat) (num : Nat) (ds : Array Value) (ty : TypeId) (Q : Int → Array Value → Prop) (fs : List SFr) (m : SMem) : Prop := (match frNth fs 0 with | some f0 => (match rdI f0 4 with | some i => (match rdP f0 3 with | some p1 => (match rdA m p1 with | some ts => Q i ts ∧ subOk 1 [(1, p1)] (sA_F off num ds ty i ts) (sA_M off num ds ty i ts) fs m | none => False) | none => False) | none => False) | none => False)
omit [Gh] in
noncomputable def sB_d0 : List SIt := sekF Tryd.f4 19
omit [Gh] in
noncomputable def sB_F (off : Nat) (num : Nat) (ds : Array Value) (ty : TypeId) (i : Int) (h : Int) (e : Int) (ts : Array Value) (ks : Array Value) : List SFr := [frOf 4 Tryd.f4 [(0, acS off num), (3, ptr 1 (.l 0)), (4, i64 (.o i)), (5, ptr 2 (.l 0)), (6, .s (.c (.f (.int .u32 (.o h))))), (7, ptr 3 (.l 0)), (8, i64 (.o e))] sB_d0]
omit [Gh] in
noncomputable def sB_M (off : Nat) (num : Nat) (ds : Array Value) (ty : TypeId) (i : Int) (h : Int) (e : Int) (ts : Array Value) (ks : Array Value) : SMem := mkM 4 [(0, ⟨.raw ds, ty, false⟩), (1, ⟨.op ts, 41, true⟩), (2, ⟨acC ds (off + i.toNat * 15), 59, true⟩), (3, ⟨.op ks, 41, true⟩)]
omit [Gh] in
noncomputable def sB_n (off : Nat) (num : Nat) (ds : Array Value) (ty : TypeId) (Q : Int → Int → Int → Array Value → Array Value → Prop) (fs : List SFr) (m : SMem) : Prop := (match frNth fs 0 with | some f0 => (match rdI f0 4 with | some i => (match rdI f0 6 with | some h => (match rdI f0 8 with | some e => (match rdP f0 3 with | some p1 => (match rdP f0 5 with | some p2 => (match rdP f0 7 with | some p3 => (match rdA m p1 with | some ts => (match rdA m p3 with | some ks => Q i h e ts ks ∧ subOk 1 [(1, p1), (2, p2), (3, p3)] (sB_F off num ds ty i h e ts ks) (sB_M off num ds ty i h e ts ks) fs m | none => False) | none => False) | none => False) | none => False) | none => False) | none => False) | none => False) | none => False) | none => False)
omit [Gh] in
noncomputable def sP_d0 : List SIt := sekF Tryd.f4 19
omit [Gh] in
noncomputable def sP_F (off : Nat) (num : Nat) (ds : Array Value) (ty : TypeId) (i : Int) (h : Int) (e : Int) (ts : Array Value) (us : Array Value) (o : Nat) (n : Nat) (cs : Array Value) : List SFr := [frOf 4 Tryd.f4 [(0, acS off num), (3, ptr 1 (.l 0)), (4, i64 (.o i)), (5, ptr 2 (.l 0)), (6, .s (.c (.f (.int .u32 (.o h))))), (7, ptr 3 (.l 0)), (8, i64 (.o e))] sP_d0]
omit [Gh] in
noncomputable def sP_M (off : Nat) (num : Nat) (ds : Array Value) (ty : TypeId) (i : Int) (h : Int) (e : Int) (ts : Array Value) (us : Array Value) (o : Nat) (n : Nat) (cs : Array Value) : SMem := mkM 5 [(0, ⟨.raw ds, ty, false⟩), (1, ⟨.op ts, 41, true⟩), (2, ⟨acC ds (off + i.toNat * 15), 59, true⟩), (3, ⟨.patch us o (.slice 4 (.l 0) (.o n) (.full 2)), 41, true⟩), (4, ⟨.pop cs, 89, true⟩)]
omit [Gh] in
noncomputable def sP_n (off : Nat) (num : Nat) (ds : Array Value) (ty : TypeId) (Q : Int → Int → Int → Array Value → Array Value → Nat → Nat → Array Value → Prop) (fs : List SFr) (m : SMem) : Prop := (match frNth fs 0 with | some f0 => (match rdI f0 4 with | some i => (match rdI f0 6 with | some h => (match rdI f0 8 with | some e => (match rdP f0 3 with | some p1 => (match rdP f0 5 with | some p2 => (match rdP f0 7 with | some p3 => (match rdA m p1 with | some ts => (match rdQ m p3 with | some us => (match rdQo m p3 with | some o => (match rdQi m p3 with | some p4 => (match rdQn m p3 with | some n => (match rdA m p4 with | some cs => Q i h e ts us o n cs ∧ subOk 1 [(1, p1), (2, p2), (3, p3), (4, p4)] (sP_F off num ds ty i h e ts us o n cs) (sP_M off num ds ty i h e ts us o n cs) fs m | none => False) | none => False) | none => False) | none => False) | none => False) | none => False) | none => False) | none => False) | none => False) | none => False) | none => False) | none => False) | none => False)
omit [Gh] in
noncomputable def sC_d0 : List SIt := sekF Tryd.f4 23
omit [Gh] in
noncomputable def sC_F (off : Nat) (num : Nat) (ds : Array Value) (ty : TypeId) (i : Int) (h : Int) (e : Int) (n : Int) (ts : Array Value) (ks : Array Value) (k : Nat) (ws : Array Value) : List SFr := [frOf 4 Tryd.f4 [(0, acS off num), (3, ptr 1 (.l 0)), (4, i64 (.o i)), (5, ptr 2 (.l 0)), (6, .s (.c (.f (.int .u32 (.o h))))), (7, ptr 3 (.l 0)), (8, i64 (.o e)), (9, rowF 4 k), (10, i64 (.o n))] sC_d0]
omit [Gh] in
noncomputable def sC_M (off : Nat) (num : Nat) (ds : Array Value) (ty : TypeId) (i : Int) (h : Int) (e : Int) (n : Int) (ts : Array Value) (ks : Array Value) (k : Nat) (ws : Array Value) : SMem := mkM 5 [(0, ⟨.raw ds, ty, false⟩), (1, ⟨.op ts, 41, true⟩), (2, ⟨acC ds (off + i.toNat * 15), 59, true⟩), (3, ⟨.op ks, 41, true⟩), (4, ⟨.pop ws, 32, true⟩)]
omit [Gh] in
noncomputable def sC_n (off : Nat) (num : Nat) (ds : Array Value) (ty : TypeId) (Q : Int → Int → Int → Int → Array Value → Array Value → Nat → Array Value → Prop) (fs : List SFr) (m : SMem) : Prop := (match frNth fs 0 with | some f0 => (match rdI f0 4 with | some i => (match rdI f0 6 with | some h => (match rdI f0 8 with | some e => (match rdP f0 3 with | some p1 => (match rdP f0 5 with | some p2 => (match rdP f0 7 with | some p3 => (match rdA m p1 with | some ts => (match rdA m p3 with | some ks => (match rdI f0 10 with | some n => (match rdSI f0 9 with | some p4 => (match rdSN f0 9 with | some k => (match rdA m p4 with | some ws => Q i h e n ts ks k ws ∧ subOk 1 [(1, p1), (2, p2), (3, p3), (4, p4)] (sC_F off num ds ty i h e n ts ks k ws) (sC_M off num ds ty i h e n ts ks k ws) fs m | none => False) | none => False) | none => False) | none => False) | none => False) | none => False) | none => False) | none => False) | none => False) | none => False) | none => False) | none => False) | none => False)
omit [Gh] in
noncomputable def sG_d0 : List SIt := sekF Tryd.f4 25
omit [Gh] in
noncomputable def sG_F (off : Nat) (num : Nat) (ds : Array Value) (ty : TypeId) (i : Int) (h : Int) (e : Int) (n : Int) (ts : Array Value) (ks : Array Value) (k : Nat) (ws : Array Value) : List SFr := [frOf 4 Tryd.f4 [(0, acS off num), (3, ptr 1 (.l 0)), (4, i64 (.o i)), (5, ptr 2 (.l 0)), (6, .s (.c (.f (.int .u32 (.o h))))), (7, ptr 3 (.l 0)), (8, i64 (.o e)), (9, rowF 4 k), (10, i64 (.o n)), (11, ptr 5 (.l 0)), (12, i64 (.o 0))] sG_d0]
omit [Gh] in
noncomputable def sG_M (off : Nat) (num : Nat) (ds : Array Value) (ty : TypeId) (i : Int) (h : Int) (e : Int) (n : Int) (ts : Array Value) (ks : Array Value) (k : Nat) (ws : Array Value) : SMem := mkM 6 [(0, ⟨.raw ds, ty, false⟩), (1, ⟨.op ts, 41, true⟩), (2, ⟨acC ds (off + i.toNat * 15), 59, true⟩), (3, ⟨.op ks, 41, true⟩), (4, ⟨.pop ws, 32, true⟩), (5, ⟨.ls (gtC ts (intAt ws n.toNat) nilC), 38, true⟩)]
omit [Gh] in
noncomputable def sG_n (off : Nat) (num : Nat) (ds : Array Value) (ty : TypeId) (Q : Int → Int → Int → Int → Array Value → Array Value → Nat → Array Value → Prop) (fs : List SFr) (m : SMem) : Prop := (match frNth fs 0 with | some f0 => (match rdI f0 4 with | some i => (match rdI f0 6 with | some h => (match rdI f0 8 with | some e => (match rdP f0 3 with | some p1 => (match rdP f0 5 with | some p2 => (match rdP f0 7 with | some p3 => (match rdA m p1 with | some ts => (match rdA m p3 with | some ks => (match rdI f0 10 with | some n => (match rdSI f0 9 with | some p4 => (match rdSN f0 9 with | some k => (match rdA m p4 with | some ws => (match rdP f0 11 with | some p5 => Q i h e n ts ks k ws ∧ subOk 1 [(1, p1), (2, p2), (3, p3), (4, p4), (5, p5)] (sG_F off num ds ty i h e n ts ks k ws) (sG_M off num ds ty i h e n ts ks k ws) fs m | none => False) | none => False) | none => False) | none => False) | none => False) | none => False) | none => False) | none => False) | none => False) | none => False) | none => False) | none => False) | none => False) | none => False)
omit [Gh] in
noncomputable def sGr_d0 : List SIt := sekF Tryd.f4 25
omit [Gh] in
noncomputable def sGr_F (off : Nat) (num : Nat) (ds : Array Value) (ty : TypeId) (i : Int) (h : Int) (e : Int) (n : Int) (ts : Array Value) (ks : Array Value) (k : Nat) (ws : Array Value) (a : Nat) : List SFr := [frOf 4 Tryd.f4 [(0, acS off num), (3, ptr 1 (.l 0)), (4, i64 (.o i)), (5, ptr 2 (.l 0)), (6, .s (.c (.f (.int .u32 (.o h))))), (7, ptr 3 (.l 0)), (8, i64 (.o e)), (9, rowF 4 k), (10, i64 (.o n)), (11, ptr 5 (.l 0)), (12, i64 (.o 0))] sGr_d0]
omit [Gh] in
noncomputable def sGr_M (off : Nat) (num : Nat) (ds : Array Value) (ty : TypeId) (i : Int) (h : Int) (e : Int) (n : Int) (ts : Array Value) (ks : Array Value) (k : Nat) (ws : Array Value) (a : Nat) : SMem := mkM 7 [(0, ⟨.raw ds, ty, false⟩), (1, ⟨.op ts, 41, true⟩), (2, ⟨acC ds (off + i.toNat * 15), 59, true⟩), (3, ⟨.op ks, 41, true⟩), (4, ⟨.pop ws, 32, true⟩), (5, ⟨.ls (gtC ts (intAt ws n.toNat) (slC 6 a)), 38, true⟩)]
omit [Gh] in
noncomputable def sGr_n (off : Nat) (num : Nat) (ds : Array Value) (ty : TypeId) (Q : Int → Int → Int → Int → Array Value → Array Value → Nat → Array Value → Nat → Prop) (fs : List SFr) (m : SMem) : Prop := (match frNth fs 0 with | some f0 => (match rdI f0 4 with | some i => (match rdI f0 6 with | some h => (match rdI f0 8 with | some e => (match rdP f0 3 with | some p1 => (match rdP f0 5 with | some p2 => (match rdP f0 7 with | some p3 => (match rdA m p1 with | some ts => (match rdA m p3 with | some ks => (match rdI f0 10 with | some n => (match rdSI f0 9 with | some p4 => (match rdSN f0 9 with | some k => (match rdA m p4 with | some ws => (match rdP f0 11 with | some p5 => (match rdCP m p5 2 with | some p6 => (match rdCN m p5 2 with | some a => Q i h e n ts ks k ws a ∧ subOk 1 [(1, p1), (2, p2), (3, p3), (4, p4), (5, p5), (6, p6)] (sGr_F off num ds ty i h e n ts ks k ws a) (sGr_M off num ds ty i h e n ts ks k ws a) fs m | none => False) | none => False) | none => False) | none => False) | none => False) | none => False) | none => False) | none => False) | none => False) | none => False) | none => False) | none => False) | none => False) | none => False) | none => False) | none => False)
omit [Gh] in
noncomputable def sH_d0 : List SIt := sekF Tryd.f4 26
omit [Gh] in
noncomputable def sH_F (off : Nat) (num : Nat) (ds : Array Value) (ty : TypeId) (i : Int) (h : Int) (e : Int) (n : Int) (ts : Array Value) (ks : Array Value) (k : Nat) (ws : Array Value) : List SFr := [frOf 4 Tryd.f4 [(0, acS off num), (3, ptr 1 (.l 0)), (4, i64 (.o i)), (5, ptr 2 (.l 0)), (6, .s (.c (.f (.int .u32 (.o h))))), (7, ptr 3 (.l 0)), (8, i64 (.o e)), (9, rowF 4 k), (10, i64 (.o n)), (11, ptr 5 (.l 0)), (12, i64 (.o 0)), (13, ptr 7 (.l 0)), (14, i64 (.o 0))] sH_d0]
omit [Gh] in
noncomputable def sH_M (off : Nat) (num : Nat) (ds : Array Value) (ty : TypeId) (i : Int) (h : Int) (e : Int) (n : Int) (ts : Array Value) (ks : Array Value) (k : Nat) (ws : Array Value) : SMem := mkM 8 [(0, ⟨.raw ds, ty, false⟩), (1, ⟨.op ts, 41, true⟩), (2, ⟨acC ds (off + i.toNat * 15), 59, true⟩), (3, ⟨.op ks, 41, true⟩), (4, ⟨.pop ws, 32, true⟩), (5, ⟨.ls (gtC ts (intAt ws n.toNat) nilC), 38, true⟩), (7, ⟨.ls (gtC ks (intAt ws n.toNat) nilC), 38, true⟩)]
omit [Gh] in
noncomputable def sH_n (off : Nat) (num : Nat) (ds : Array Value) (ty : TypeId) (Q : Int → Int → Int → Int → Array Value → Array Value → Nat → Array Value → Prop) (fs : List SFr) (m : SMem) : Prop := (match frNth fs 0 with | some f0 => (match rdI f0 4 with | some i => (match rdI f0 6 with | some h => (match rdI f0 8 with | some e => (match rdP f0 3 with | some p1 => (match rdP f0 5 with | some p2 => (match rdP f0 7 with | some p3 => (match rdA m p1 with | some ts => (match rdA m p3 with | some ks => (match rdI f0 10 with | some n => (match rdSI f0 9 with | some p4 => (match rdSN f0 9 with | some k => (match rdA m p4 with | some ws => (match rdP f0 11 with | some p5 => (match rdP f0 13 with | some p7 => Q i h e n ts ks k ws ∧ subOk 1 [(1, p1), (2, p2), (3, p3), (4, p4), (5, p5), (7, p7)] (sH_F off num ds ty i h e n ts ks k ws) (sH_M off num ds ty i h e n ts ks k ws) fs m | none => False) | none => False) | none => False) | none => False) | none => False) | none => False) | none => False) | none => False) | none => False) | none => False) | none => False) | none => False) | none => False) | none => False) | none => False)
omit [Gh] in
noncomputable def sHr_d0 : List SIt := sekF Tryd.f4 26
omit [Gh] in
noncomputable def sHr_F (off : Nat) (num : Nat) (ds : Array Value) (ty : TypeId) (i : Int) (h : Int) (e : Int) (n : Int) (ts : Array Value) (ks : Array Value) (k : Nat) (ws : Array Value) (a : Nat) (b : Nat) : List SFr := [frOf 4 Tryd.f4 [(0, acS off num), (3, ptr 1 (.l 0)), (4, i64 (.o i)), (5, ptr 2 (.l 0)), (6, .s (.c (.f (.int .u32 (.o h))))), (7, ptr 3 (.l 0)), (8, i64 (.o e)), (9, rowF 4 k), (10, i64 (.o n)), (11, ptr 5 (.l 0)), (12, i64 (.o 0)), (13, ptr 7 (.l 0)), (14, i64 (.o 0))] sHr_d0]
omit [Gh] in
noncomputable def sHr_M (off : Nat) (num : Nat) (ds : Array Value) (ty : TypeId) (i : Int) (h : Int) (e : Int) (n : Int) (ts : Array Value) (ks : Array Value) (k : Nat) (ws : Array Value) (a : Nat) (b : Nat) : SMem := mkM 9 [(0, ⟨.raw ds, ty, false⟩), (1, ⟨.op ts, 41, true⟩), (2, ⟨acC ds (off + i.toNat * 15), 59, true⟩), (3, ⟨.op ks, 41, true⟩), (4, ⟨.pop ws, 32, true⟩), (5, ⟨.ls (gtC ts (intAt ws n.toNat) (slC 6 a)), 38, true⟩), (7, ⟨.ls (gtC ks (intAt ws n.toNat) (slC 8 b)), 38, true⟩)]
omit [Gh] in
noncomputable def sHr_n (off : Nat) (num : Nat) (ds : Array Value) (ty : TypeId) (Q : Int → Int → Int → Int → Array Value → Array Value → Nat → Array Value → Nat → Nat → Prop) (fs : List SFr) (m : SMem) : Prop := (match frNth fs 0 with | some f0 => (match rdI f0 4 with | some i => (match rdI f0 6 with | some h => (match rdI f0 8 with | some e => (match rdP f0 3 with | some p1 => (match rdP f0 5 with | some p2 => (match rdP f0 7 with | some p3 => (match rdA m p1 with | some ts => (match rdA m p3 with | some ks => (match rdI f0 10 with | some n => (match rdSI f0 9 with | some p4 => (match rdSN f0 9 with | some k => (match rdA m p4 with | some ws => (match rdP f0 11 with | some p5 => (match rdCP m p5 2 with | some p6 => (match rdCN m p5 2 with | some a => (match rdP f0 13 with | some p7 => (match rdCP m p7 2 with | some p8 => (match rdCN m p7 2 with | some b => Q i h e n ts ks k ws a b ∧ subOk 1 [(1, p1), (2, p2), (3, p3), (4, p4), (5, p5), (6, p6), (7, p7), (8, p8)] (sHr_F off num ds ty i h e n ts ks k ws a b) (sHr_M off num ds ty i h e n ts ks k ws a b) fs m | none => False) | none => False) | none => False) | none => False) | none => False) | none => False) | none => False) | none => False) | none => False) | none => False) | none => False) | none => False) | none => False) | none => False) | none => False) | none => False) | none => False) | none => False) | none => False)
omit [Gh] in
noncomputable def sD_d0 : List SIt := sekF Tryd.f4 29
omit [Gh] in
noncomputable def sD_F (off : Nat) (num : Nat) (ds : Array Value) (ty : TypeId) (i : Int) (ts : Array Value) (ks : Array Value) : List SFr := [frOf 4 Tryd.f4 [(0, acS off num), (3, ptr 1 (.l 0)), (4, i64 (.o i)), (7, ptr 3 (.l 0))] sD_d0]
omit [Gh] in
noncomputable def sD_M (off : Nat) (num : Nat) (ds : Array Value) (ty : TypeId) (i : Int) (ts : Array Value) (ks : Array Value) : SMem := mkM 4 [(0, ⟨.raw ds, ty, false⟩), (1, ⟨.op ts, 41, true⟩), (3, ⟨.op ks, 41, true⟩)]
omit [Gh] in
noncomputable def sD_n (off : Nat) (num : Nat) (ds : Array Value) (ty : TypeId) (Q : Int → Array Value → Array Value → Prop) (fs : List SFr) (m : SMem) : Prop := (match frNth fs 0 with | some f0 => (match rdI f0 4 with | some i => (match rdP f0 3 with | some p1 => (match rdP f0 7 with | some p3 => (match rdA m p1 with | some ts => (match rdA m p3 with | some ks => Q i ts ks ∧ subOk 1 [(1, p1), (3, p3)] (sD_F off num ds ty i ts ks) (sD_M off num ds ty i ts ks) fs m | none => False) | none => False) | none => False) | none => False) | none => False) | none => False)
omit [Gh] in
noncomputable def sE_d0 : List SIt := sekF Tryd.f4 34
omit [Gh] in
noncomputable def sE_F (off : Nat) (num : Nat) (ds : Array Value) (ty : TypeId) (i : Int) (n : Int) (ts : Array Value) (k : Nat) (ws : Array Value) : List SFr := [frOf 4 Tryd.f4 [(0, acS off num), (3, ptr 1 (.l 0)), (4, i64 (.o i)), (16, rowF 2 k), (17, i64 (.o n))] sE_d0]
omit [Gh] in
noncomputable def sE_M (off : Nat) (num : Nat) (ds : Array Value) (ty : TypeId) (i : Int) (n : Int) (ts : Array Value) (k : Nat) (ws : Array Value) : SMem := mkM 3 [(0, ⟨.raw ds, ty, false⟩), (1, ⟨.op ts, 41, true⟩), (2, ⟨.pop ws, 32, true⟩)]
omit [Gh] in
noncomputable def sE_n (off : Nat) (num : Nat) (ds : Array Value) (ty : TypeId) (Q : Int → Int → Array Value → Nat → Array Value → Prop) (fs : List SFr) (m : SMem) : Prop := (match frNth fs 0 with | some f0 => (match rdI f0 4 with | some i => (match rdP f0 3 with | some p1 => (match rdA m p1 with | some ts => (match rdI f0 17 with | some n => (match rdSI f0 16 with | some p2 => (match rdSN f0 16 with | some k => (match rdA m p2 with | some ws => Q i n ts k ws ∧ subOk 1 [(1, p1), (2, p2)] (sE_F off num ds ty i n ts k ws) (sE_M off num ds ty i n ts k ws) fs m | none => False) | none => False) | none => False) | none => False) | none => False) | none => False) | none => False) | none => False)
omit [Gh] in
noncomputable def sF_d0 : List SIt := sekF Tryd.f4 36
omit [Gh] in
noncomputable def sF_F (off : Nat) (num : Nat) (ds : Array Value) (ty : TypeId) (i : Int) (n : Int) (ts : Array Value) (k : Nat) (ws : Array Value) (u : Int) (c : Int) : List SFr := [frOf 4 Tryd.f4 [(0, acS off num), (3, ptr 1 (.l 0)), (4, i64 (.o i)), (16, rowF 2 k), (17, i64 (.o n)), (18, .s (.c (.f (.int .u32 (.o u))))), (19, i64 (.o c))] sF_d0]
omit [Gh] in
noncomputable def sF_M (off : Nat) (num : Nat) (ds : Array Value) (ty : TypeId) (i : Int) (n : Int) (ts : Array Value) (k : Nat) (ws : Array Value) (u : Int) (c : Int) : SMem := mkM 3 [(0, ⟨.raw ds, ty, false⟩), (1, ⟨.op ts, 41, true⟩), (2, ⟨.pop ws, 32, true⟩)]
omit [Gh] in
noncomputable def sF_n (off : Nat) (num : Nat) (ds : Array Value) (ty : TypeId) (Q : Int → Int → Array Value → Nat → Array Value → Int → Int → Prop) (fs : List SFr) (m : SMem) : Prop := (match frNth fs 0 with | some f0 => (match rdI f0 4 with | some i => (match rdP f0 3 with | some p1 => (match rdA m p1 with | some ts => (match rdI f0 17 with | some n => (match rdSI f0 16 with | some p2 => (match rdSN f0 16 with | some k => (match rdA m p2 with | some ws => (match rdI f0 18 with | some u => (match rdI f0 19 with | some c => Q i n ts k ws u c ∧ subOk 1 [(1, p1), (2, p2)] (sF_F off num ds ty i n ts k ws u c) (sF_M off num ds ty i n ts k ws u c) fs m | none => False) | none => False) | none => False) | none => False) | none => False) | none => False) | none => False) | none => False) | none => False) | none => False)
noncomputable def ta_t (off : Nat) (num : Nat) (ds : Array Value) (ty : TypeId) (i : Int) (ts : Array Value) : Tree := stepT EL.go (run EL 1000) 1 (sA_F off num ds ty i ts) (sA_M off num ds ty i ts)
omit [Gh] in
noncomputable def ta_x (off : Nat) (num : Nat) (ds : Array Value) (ty : TypeId) (i : Int) (ts : Array Value) (QsB : Int → Int → Int → Array Value → Array Value → Prop) (fs : List SFr) (m : SMem) : Prop := sB_n off num ds ty QsB fs m
noncomputable def tb_t (off : Nat) (num : Nat) (ds : Array Value) (ty : TypeId) (i : Int) (h : Int) (e : Int) (ts : Array Value) (ks : Array Value) : Tree := stepT EL.go (run EL 1000) 1 (sB_F off num ds ty i h e ts ks) (sB_M off num ds ty i h e ts ks)
omit [Gh] in
noncomputable def tb_x (off : Nat) (num : Nat) (ds : Array Value) (ty : TypeId) (i : Int) (h : Int) (e : Int) (ts : Array Value) (ks : Array Value) (QsC : Int → Int → Int → Int → Array Value → Array Value → Nat → Array Value → Prop) (QsD : Int → Array Value → Array Value → Prop) (fs : List SFr) (m : SMem) : Prop := (match Nat.beq (atR fs) 4023 with | true => sC_n off num ds ty QsC fs m | false => sD_n off num ds ty QsD fs m)
noncomputable def tc_t (off : Nat) (num : Nat) (ds : Array Value) (ty : TypeId) (i : Int) (h : Int) (e : Int) (n : Int) (ts : Array Value) (ks : Array Value) (k : Nat) (ws : Array Value) : Tree := stepT EL.go (run EL 1000) 1 (sC_F off num ds ty i h e n ts ks k ws) (sC_M off num ds ty i h e n ts ks k ws)
omit [Gh] in
noncomputable def tc_x (off : Nat) (num : Nat) (ds : Array Value) (ty : TypeId) (i : Int) (h : Int) (e : Int) (n : Int) (ts : Array Value) (ks : Array Value) (k : Nat) (ws : Array Value) (QsC : Int → Int → Int → Int → Array Value → Array Value → Nat → Array Value → Prop) (fs : List SFr) (m : SMem) : Prop := sC_n off num ds ty QsC fs m
noncomputable def tg_t (off : Nat) (num : Nat) (ds : Array Value) (ty : TypeId) (i : Int) (h : Int) (e : Int) (n : Int) (ts : Array Value) (ks : Array Value) (k : Nat) (ws : Array Value) : Tree := stepT EL.go (run EL 1000) 1 (sG_F off num ds ty i h e n ts ks k ws) (sG_M off num ds ty i h e n ts ks k ws)
omit [Gh] in
noncomputable def tg_x (off : Nat) (num : Nat) (ds : Array Value) (ty : TypeId) (i : Int) (h : Int) (e : Int) (n : Int) (ts : Array Value) (ks : Array Value) (k : Nat) (ws : Array Value) (QsH : Int → Int → Int → Int → Array Value → Array Value → Nat → Array Value → Prop) (fs : List SFr) (m : SMem) : Prop := sH_n off num ds ty QsH fs m
noncomputable def tr_t (off : Nat) (num : Nat) (ds : Array Value) (ty : TypeId) (i : Int) (h : Int) (e : Int) (n : Int) (ts : Array Value) (ks : Array Value) (k : Nat) (ws : Array Value) (a : Nat) : Tree := stepT EL.go (run EL 1000) 1 (sGr_F off num ds ty i h e n ts ks k ws a) (sGr_M off num ds ty i h e n ts ks k ws a)
omit [Gh] in
noncomputable def tr_x (off : Nat) (num : Nat) (ds : Array Value) (ty : TypeId) (i : Int) (h : Int) (e : Int) (n : Int) (ts : Array Value) (ks : Array Value) (k : Nat) (ws : Array Value) (a : Nat) (QsHr : Int → Int → Int → Int → Array Value → Array Value → Nat → Array Value → Nat → Nat → Prop) (fs : List SFr) (m : SMem) : Prop := sHr_n off num ds ty QsHr fs m
noncomputable def th_t (off : Nat) (num : Nat) (ds : Array Value) (ty : TypeId) (i : Int) (h : Int) (e : Int) (n : Int) (ts : Array Value) (ks : Array Value) (k : Nat) (ws : Array Value) : Tree := stepT EL.go (run EL 1000) 1 (sH_F off num ds ty i h e n ts ks k ws) (sH_M off num ds ty i h e n ts ks k ws)
omit [Gh] in
noncomputable def th_x (off : Nat) (num : Nat) (ds : Array Value) (ty : TypeId) (i : Int) (h : Int) (e : Int) (n : Int) (ts : Array Value) (ks : Array Value) (k : Nat) (ws : Array Value) (QsC : Int → Int → Int → Int → Array Value → Array Value → Nat → Array Value → Prop) (QsD : Int → Array Value → Array Value → Prop) (fs : List SFr) (m : SMem) : Prop := (match Nat.beq (atR fs) 4023 with | true => sC_n off num ds ty QsC fs m | false => sD_n off num ds ty QsD fs m)
noncomputable def tq_t (off : Nat) (num : Nat) (ds : Array Value) (ty : TypeId) (i : Int) (h : Int) (e : Int) (n : Int) (ts : Array Value) (ks : Array Value) (k : Nat) (ws : Array Value) (a : Nat) (b : Nat) : Tree := stepT EL.go (run EL 1000) 1 (sHr_F off num ds ty i h e n ts ks k ws a b) (sHr_M off num ds ty i h e n ts ks k ws a b)
omit [Gh] in
noncomputable def tq_x (off : Nat) (num : Nat) (ds : Array Value) (ty : TypeId) (i : Int) (h : Int) (e : Int) (n : Int) (ts : Array Value) (ks : Array Value) (k : Nat) (ws : Array Value) (a : Nat) (b : Nat) (QsC : Int → Int → Int → Int → Array Value → Array Value → Nat → Array Value → Prop) (QsD : Int → Array Value → Array Value → Prop) (fs : List SFr) (m : SMem) : Prop := (match Nat.beq (atR fs) 4023 with | true => sC_n off num ds ty QsC fs m | false => sD_n off num ds ty QsD fs m)
noncomputable def td_t (off : Nat) (num : Nat) (ds : Array Value) (ty : TypeId) (i : Int) (ts : Array Value) (ks : Array Value) : Tree := stepT EL.go (run EL 1000) 1 (sD_F off num ds ty i ts ks) (sD_M off num ds ty i ts ks)
omit [Gh] in
noncomputable def td_x (off : Nat) (num : Nat) (ds : Array Value) (ty : TypeId) (i : Int) (ts : Array Value) (ks : Array Value) (QsE : Int → Int → Array Value → Nat → Array Value → Prop) (QsA : Int → Array Value → Prop) (fs : List SFr) (m : SMem) : Prop := (match Nat.beq (atR fs) 4034 with | true => sE_n off num ds ty QsE fs m | false => sA_n off num ds ty QsA fs m)
noncomputable def te_t (off : Nat) (num : Nat) (ds : Array Value) (ty : TypeId) (i : Int) (n : Int) (ts : Array Value) (k : Nat) (ws : Array Value) : Tree := stepT EL.go (run EL 1000) 1 (sE_F off num ds ty i n ts k ws) (sE_M off num ds ty i n ts k ws)
omit [Gh] in
noncomputable def te_x (off : Nat) (num : Nat) (ds : Array Value) (ty : TypeId) (i : Int) (n : Int) (ts : Array Value) (k : Nat) (ws : Array Value) (QsF : Int → Int → Array Value → Nat → Array Value → Int → Int → Prop) (fs : List SFr) (m : SMem) : Prop := sF_n off num ds ty QsF fs m
noncomputable def tf_t (off : Nat) (num : Nat) (ds : Array Value) (ty : TypeId) (i : Int) (n : Int) (ts : Array Value) (k : Nat) (ws : Array Value) (u : Int) (c : Int) : Tree := stepT EL.go (run EL 1000) 1 (sF_F off num ds ty i n ts k ws u c) (sF_M off num ds ty i n ts k ws u c)
omit [Gh] in
noncomputable def tf_x (off : Nat) (num : Nat) (ds : Array Value) (ty : TypeId) (i : Int) (n : Int) (ts : Array Value) (k : Nat) (ws : Array Value) (u : Int) (c : Int) (QsF : Int → Int → Array Value → Nat → Array Value → Int → Int → Prop) (QsE : Int → Int → Array Value → Nat → Array Value → Prop) (QsA : Int → Array Value → Prop) (fs : List SFr) (m : SMem) : Prop := (match Nat.beq (atR fs) 4036 with | true => sF_n off num ds ty QsF fs m | false => (match Nat.beq (atR fs) 4034 with | true => sE_n off num ds ty QsE fs m | false => sA_n off num ds ty QsA fs m))
noncomputable def t0_t (off : Nat) (num : Nat) (ds : Array Value) (ty : TypeId) : Tree := run EL 1000 1 [callFr 4 Tryd.f4.ntmps [acS off num] (Tryd.f4.body.getD .skip)] (mkM 1 [(0, ⟨.raw ds, ty, false⟩)])
omit [Gh] in
noncomputable def t0_x (off : Nat) (num : Nat) (ds : Array Value) (ty : TypeId) (QsA : Int → Array Value → Prop) (fs : List SFr) (m : SMem) : Prop := sA_n off num ds ty QsA fs m
noncomputable def tz_t (ty : TypeId) : Tree := run EL 1000 1 [callFr 4 Tryd.f4.ntmps [.s (.c (.f .e0))] (Tryd.f4.body.getD .skip)] (mkM 1 [])
omit [Gh] in
noncomputable def tz_x (ty : TypeId)  (fs : List SFr) (m : SMem) : Prop := False
omit [Gh] in
noncomputable def sAx (off num : Nat) (ds : Array Value) (ty : TypeId) (QB : Int → Int → Int → Array Value → Array Value → Prop) (QP : Int → Int → Int → Array Value → Array Value → Nat → Nat → Array Value → Prop) (fs : List SFr) (m : SMem) : Prop := match fs with
  | f :: _ => (match rdP f 7 with | some p => (match rdQ m p with | some _ => sP_n off num ds ty QP fs m | none => sB_n off num ds ty QB fs m) | none => False)
  | [] => False
omit [Gh] in
noncomputable def isSlB (m : SMem) (f : SFr) (d : Nat) : Bool := match rdP f d with
  | some p => (match rdCP m p 2 with | some _ => true | none => false)
  | none => false
omit [Gh] in
noncomputable def sCx (off num : Nat) (ds : Array Value) (ty : TypeId) (QC : Int → Int → Int → Int → Array Value → Array Value → Nat → Array Value → Prop) (QD : Int → Array Value → Array Value → Prop) (QG : Int → Int → Int → Int → Array Value → Array Value → Nat → Array Value → Prop) (QR : Int → Int → Int → Int → Array Value → Array Value → Nat → Array Value → Nat → Prop) (fs : List SFr) (m : SMem) : Prop := match fs with
  | f :: _ => (match Nat.beq (atR fs) 4023 with
    | true => sC_n off num ds ty QC fs m
    | false => (match Nat.beq (atR fs) 4029 with
      | true => sD_n off num ds ty QD fs m
      | false => (match isSlB m f 11 with | true => sGr_n off num ds ty QR fs m | false => sG_n off num ds ty QG fs m)))
  | [] => False
omit [Gh] in
noncomputable def sGx (off num : Nat) (ds : Array Value) (ty : TypeId) (QH : Int → Int → Int → Int → Array Value → Array Value → Nat → Array Value → Prop) (fs : List SFr) (m : SMem) : Prop := match fs with
  | f :: _ => (match isSlB m f 13 with | true => False | false => sH_n off num ds ty QH fs m)
  | [] => False
omit [Gh] in
noncomputable def sRx (off num : Nat) (ds : Array Value) (ty : TypeId) (QH : Int → Int → Int → Int → Array Value → Array Value → Nat → Array Value → Nat → Nat → Prop) (fs : List SFr) (m : SMem) : Prop := match fs with
  | f :: _ => (match isSlB m f 13 with | true => sHr_n off num ds ty QH fs m | false => False)
  | [] => False
omit [Gh] in
theorem sA_d0_ok (r : Nat → Option Nat) : TodoOk r sA_d0 sA_d0 := TodoOk.it (by kernel_rfl)
omit [Gh] in
theorem sB_d0_ok (r : Nat → Option Nat) : TodoOk r sB_d0 sB_d0 := TodoOk.it (by kernel_rfl)
omit [Gh] in
theorem sP_d0_ok (r : Nat → Option Nat) : TodoOk r sP_d0 sP_d0 := TodoOk.it (by kernel_rfl)
omit [Gh] in
theorem sC_d0_ok (r : Nat → Option Nat) : TodoOk r sC_d0 sC_d0 := TodoOk.it (by kernel_rfl)
omit [Gh] in
theorem sG_d0_ok (r : Nat → Option Nat) : TodoOk r sG_d0 sG_d0 := TodoOk.it (by kernel_rfl)
omit [Gh] in
theorem sGr_d0_ok (r : Nat → Option Nat) : TodoOk r sGr_d0 sGr_d0 := TodoOk.it (by kernel_rfl)
omit [Gh] in
theorem sH_d0_ok (r : Nat → Option Nat) : TodoOk r sH_d0 sH_d0 := TodoOk.it (by kernel_rfl)
omit [Gh] in
theorem sHr_d0_ok (r : Nat → Option Nat) : TodoOk r sHr_d0 sHr_d0 := TodoOk.it (by kernel_rfl)
omit [Gh] in
theorem sD_d0_ok (r : Nat → Option Nat) : TodoOk r sD_d0 sD_d0 := TodoOk.it (by kernel_rfl)
omit [Gh] in
theorem sE_d0_ok (r : Nat → Option Nat) : TodoOk r sE_d0 sE_d0 := TodoOk.it (by kernel_rfl)
omit [Gh] in
theorem sF_d0_ok (r : Nat → Option Nat) : TodoOk r sF_d0 sF_d0 := TodoOk.it (by kernel_rfl)
theorem sA_good {A : SV → SMem → Prop} {off : Nat} {num : Nat} {ds : Array Value} {ty : TypeId} {Q : Int → Array Value → Prop} {fs : List SFr} {m : SMem} (H : ∀ i ts, Q i ts → Good Tryd.prog A 1 (sA_F off num ds ty i ts) (sA_M off num ds ty i ts)) (hb : sA_n off num ds ty Q fs m) : Good Tryd.prog A 1 fs m := by
  unfold sA_n at hb
  split at hb
  rotate_left
  · exact hb.elim
  split at hb
  rotate_left
  · exact hb.elim
  split at hb
  rotate_left
  · exact hb.elim
  split at hb
  rotate_left
  · exact hb.elim
  exact Good.of_sub hb.2 (H _ _ hb.1)
theorem sB_good {A : SV → SMem → Prop} {off : Nat} {num : Nat} {ds : Array Value} {ty : TypeId} {Q : Int → Int → Int → Array Value → Array Value → Prop} {fs : List SFr} {m : SMem} (H : ∀ i h e ts ks, Q i h e ts ks → Good Tryd.prog A 1 (sB_F off num ds ty i h e ts ks) (sB_M off num ds ty i h e ts ks)) (hb : sB_n off num ds ty Q fs m) : Good Tryd.prog A 1 fs m := by
  unfold sB_n at hb
  split at hb
  rotate_left
  · exact hb.elim
  split at hb
  rotate_left
  · exact hb.elim
  split at hb
  rotate_left
  · exact hb.elim
  split at hb
  rotate_left
  · exact hb.elim
  split at hb
  rotate_left
  · exact hb.elim
  split at hb
  rotate_left
  · exact hb.elim
  split at hb
  rotate_left
  · exact hb.elim
  split at hb
  rotate_left
  · exact hb.elim
  split at hb
  rotate_left
  · exact hb.elim
  exact Good.of_sub hb.2 (H _ _ _ _ _ hb.1)
theorem sP_good {A : SV → SMem → Prop} {off : Nat} {num : Nat} {ds : Array Value} {ty : TypeId} {Q : Int → Int → Int → Array Value → Array Value → Nat → Nat → Array Value → Prop} {fs : List SFr} {m : SMem} (H : ∀ i h e ts us o n cs, Q i h e ts us o n cs → Good Tryd.prog A 1 (sP_F off num ds ty i h e ts us o n cs) (sP_M off num ds ty i h e ts us o n cs)) (hb : sP_n off num ds ty Q fs m) : Good Tryd.prog A 1 fs m := by
  unfold sP_n at hb
  split at hb
  rotate_left
  · exact hb.elim
  split at hb
  rotate_left
  · exact hb.elim
  split at hb
  rotate_left
  · exact hb.elim
  split at hb
  rotate_left
  · exact hb.elim
  split at hb
  rotate_left
  · exact hb.elim
  split at hb
  rotate_left
  · exact hb.elim
  split at hb
  rotate_left
  · exact hb.elim
  split at hb
  rotate_left
  · exact hb.elim
  split at hb
  rotate_left
  · exact hb.elim
  split at hb
  rotate_left
  · exact hb.elim
  split at hb
  rotate_left
  · exact hb.elim
  split at hb
  rotate_left
  · exact hb.elim
  split at hb
  rotate_left
  · exact hb.elim
  exact Good.of_sub hb.2 (H _ _ _ _ _ _ _ _ hb.1)
theorem sC_good {A : SV → SMem → Prop} {off : Nat} {num : Nat} {ds : Array Value} {ty : TypeId} {Q : Int → Int → Int → Int → Array Value → Array Value → Nat → Array Value → Prop} {fs : List SFr} {m : SMem} (H : ∀ i h e n ts ks k ws, Q i h e n ts ks k ws → Good Tryd.prog A 1 (sC_F off num ds ty i h e n ts ks k ws) (sC_M off num ds ty i h e n ts ks k ws)) (hb : sC_n off num ds ty Q fs m) : Good Tryd.prog A 1 fs m := by
  unfold sC_n at hb
  split at hb
  rotate_left
  · exact hb.elim
  split at hb
  rotate_left
  · exact hb.elim
  split at hb
  rotate_left
  · exact hb.elim
  split at hb
  rotate_left
  · exact hb.elim
  split at hb
  rotate_left
  · exact hb.elim
  split at hb
  rotate_left
  · exact hb.elim
  split at hb
  rotate_left
  · exact hb.elim
  split at hb
  rotate_left
  · exact hb.elim
  split at hb
  rotate_left
  · exact hb.elim
  split at hb
  rotate_left
  · exact hb.elim
  split at hb
  rotate_left
  · exact hb.elim
  split at hb
  rotate_left
  · exact hb.elim
  split at hb
  rotate_left
  · exact hb.elim
  exact Good.of_sub hb.2 (H _ _ _ _ _ _ _ _ hb.1)
theorem sG_good {A : SV → SMem → Prop} {off : Nat} {num : Nat} {ds : Array Value} {ty : TypeId} {Q : Int → Int → Int → Int → Array Value → Array Value → Nat → Array Value → Prop} {fs : List SFr} {m : SMem} (H : ∀ i h e n ts ks k ws, Q i h e n ts ks k ws → Good Tryd.prog A 1 (sG_F off num ds ty i h e n ts ks k ws) (sG_M off num ds ty i h e n ts ks k ws)) (hb : sG_n off num ds ty Q fs m) : Good Tryd.prog A 1 fs m := by
  unfold sG_n at hb
  split at hb
  rotate_left
  · exact hb.elim
  split at hb
  rotate_left
  · exact hb.elim
  split at hb
  rotate_left
  · exact hb.elim
  split at hb
  rotate_left
  · exact hb.elim
  split at hb
  rotate_left
  · exact hb.elim
  split at hb
  rotate_left
  · exact hb.elim
  split at hb
  rotate_left
  · exact hb.elim
  split at hb
  rotate_left
  · exact hb.elim
  split at hb
  rotate_left
  · exact hb.elim
  split at hb
  rotate_left
  · exact hb.elim
  split at hb
  rotate_left
  · exact hb.elim
  split at hb
  rotate_left
  · exact hb.elim
  split at hb
  rotate_left
  · exact hb.elim
  split at hb
  rotate_left
  · exact hb.elim
  exact Good.of_sub hb.2 (H _ _ _ _ _ _ _ _ hb.1)
theorem sGr_good {A : SV → SMem → Prop} {off : Nat} {num : Nat} {ds : Array Value} {ty : TypeId} {Q : Int → Int → Int → Int → Array Value → Array Value → Nat → Array Value → Nat → Prop} {fs : List SFr} {m : SMem} (H : ∀ i h e n ts ks k ws a, Q i h e n ts ks k ws a → Good Tryd.prog A 1 (sGr_F off num ds ty i h e n ts ks k ws a) (sGr_M off num ds ty i h e n ts ks k ws a)) (hb : sGr_n off num ds ty Q fs m) : Good Tryd.prog A 1 fs m := by
  unfold sGr_n at hb
  split at hb
  rotate_left
  · exact hb.elim
  split at hb
  rotate_left
  · exact hb.elim
  split at hb
  rotate_left
  · exact hb.elim
  split at hb
  rotate_left
  · exact hb.elim
  split at hb
  rotate_left
  · exact hb.elim
  split at hb
  rotate_left
  · exact hb.elim
  split at hb
  rotate_left
  · exact hb.elim
  split at hb
  rotate_left
  · exact hb.elim
  split at hb
  rotate_left
  · exact hb.elim
  split at hb
  rotate_left
  · exact hb.elim
  split at hb
  rotate_left
  · exact hb.elim
  split at hb
  rotate_left
  · exact hb.elim
  split at hb
  rotate_left
  · exact hb.elim
  split at hb
  rotate_left
  · exact hb.elim
  split at hb
  rotate_left
  · exact hb.elim
  split at hb
  rotate_left
  · exact hb.elim
  exact Good.of_sub hb.2 (H _ _ _ _ _ _ _ _ _ hb.1)
theorem sH_good {A : SV → SMem → Prop} {off : Nat} {num : Nat} {ds : Array Value} {ty : TypeId} {Q : Int → Int → Int → Int → Array Value → Array Value → Nat → Array Value → Prop} {fs : List SFr} {m : SMem} (H : ∀ i h e n ts ks k ws, Q i h e n ts ks k ws → Good Tryd.prog A 1 (sH_F off num ds ty i h e n ts ks k ws) (sH_M off num ds ty i h e n ts ks k ws)) (hb : sH_n off num ds ty Q fs m) : Good Tryd.prog A 1 fs m := by
  unfold sH_n at hb
  split at hb
  rotate_left
  · exact hb.elim
  split at hb
  rotate_left
  · exact hb.elim
  split at hb
  rotate_left
  · exact hb.elim
  split at hb
  rotate_left
  · exact hb.elim
  split at hb
  rotate_left
  · exact hb.elim
  split at hb
  rotate_left
  · exact hb.elim
  split at hb
  rotate_left
  · exact hb.elim
  split at hb
  rotate_left
  · exact hb.elim
  split at hb
  rotate_left
  · exact hb.elim
  split at hb
  rotate_left
  · exact hb.elim
  split at hb
  rotate_left
  · exact hb.elim
  split at hb
  rotate_left
  · exact hb.elim
  split at hb
  rotate_left
  · exact hb.elim
  split at hb
  rotate_left
  · exact hb.elim
  split at hb
  rotate_left
  · exact hb.elim
  exact Good.of_sub hb.2 (H _ _ _ _ _ _ _ _ hb.1)
theorem sHr_good {A : SV → SMem → Prop} {off : Nat} {num : Nat} {ds : Array Value} {ty : TypeId} {Q : Int → Int → Int → Int → Array Value → Array Value → Nat → Array Value → Nat → Nat → Prop} {fs : List SFr} {m : SMem} (H : ∀ i h e n ts ks k ws a b, Q i h e n ts ks k ws a b → Good Tryd.prog A 1 (sHr_F off num ds ty i h e n ts ks k ws a b) (sHr_M off num ds ty i h e n ts ks k ws a b)) (hb : sHr_n off num ds ty Q fs m) : Good Tryd.prog A 1 fs m := by
  unfold sHr_n at hb
  split at hb
  rotate_left
  · exact hb.elim
  split at hb
  rotate_left
  · exact hb.elim
  split at hb
  rotate_left
  · exact hb.elim
  split at hb
  rotate_left
  · exact hb.elim
  split at hb
  rotate_left
  · exact hb.elim
  split at hb
  rotate_left
  · exact hb.elim
  split at hb
  rotate_left
  · exact hb.elim
  split at hb
  rotate_left
  · exact hb.elim
  split at hb
  rotate_left
  · exact hb.elim
  split at hb
  rotate_left
  · exact hb.elim
  split at hb
  rotate_left
  · exact hb.elim
  split at hb
  rotate_left
  · exact hb.elim
  split at hb
  rotate_left
  · exact hb.elim
  split at hb
  rotate_left
  · exact hb.elim
  split at hb
  rotate_left
  · exact hb.elim
  split at hb
  rotate_left
  · exact hb.elim
  split at hb
  rotate_left
  · exact hb.elim
  split at hb
  rotate_left
  · exact hb.elim
  split at hb
  rotate_left
  · exact hb.elim
  exact Good.of_sub hb.2 (H _ _ _ _ _ _ _ _ _ _ hb.1)
theorem sD_good {A : SV → SMem → Prop} {off : Nat} {num : Nat} {ds : Array Value} {ty : TypeId} {Q : Int → Array Value → Array Value → Prop} {fs : List SFr} {m : SMem} (H : ∀ i ts ks, Q i ts ks → Good Tryd.prog A 1 (sD_F off num ds ty i ts ks) (sD_M off num ds ty i ts ks)) (hb : sD_n off num ds ty Q fs m) : Good Tryd.prog A 1 fs m := by
  unfold sD_n at hb
  split at hb
  rotate_left
  · exact hb.elim
  split at hb
  rotate_left
  · exact hb.elim
  split at hb
  rotate_left
  · exact hb.elim
  split at hb
  rotate_left
  · exact hb.elim
  split at hb
  rotate_left
  · exact hb.elim
  split at hb
  rotate_left
  · exact hb.elim
  exact Good.of_sub hb.2 (H _ _ _ hb.1)
theorem sE_good {A : SV → SMem → Prop} {off : Nat} {num : Nat} {ds : Array Value} {ty : TypeId} {Q : Int → Int → Array Value → Nat → Array Value → Prop} {fs : List SFr} {m : SMem} (H : ∀ i n ts k ws, Q i n ts k ws → Good Tryd.prog A 1 (sE_F off num ds ty i n ts k ws) (sE_M off num ds ty i n ts k ws)) (hb : sE_n off num ds ty Q fs m) : Good Tryd.prog A 1 fs m := by
  unfold sE_n at hb
  split at hb
  rotate_left
  · exact hb.elim
  split at hb
  rotate_left
  · exact hb.elim
  split at hb
  rotate_left
  · exact hb.elim
  split at hb
  rotate_left
  · exact hb.elim
  split at hb
  rotate_left
  · exact hb.elim
  split at hb
  rotate_left
  · exact hb.elim
  split at hb
  rotate_left
  · exact hb.elim
  split at hb
  rotate_left
  · exact hb.elim
  exact Good.of_sub hb.2 (H _ _ _ _ _ hb.1)
theorem sF_good {A : SV → SMem → Prop} {off : Nat} {num : Nat} {ds : Array Value} {ty : TypeId} {Q : Int → Int → Array Value → Nat → Array Value → Int → Int → Prop} {fs : List SFr} {m : SMem} (H : ∀ i n ts k ws u c, Q i n ts k ws u c → Good Tryd.prog A 1 (sF_F off num ds ty i n ts k ws u c) (sF_M off num ds ty i n ts k ws u c)) (hb : sF_n off num ds ty Q fs m) : Good Tryd.prog A 1 fs m := by
  unfold sF_n at hb
  split at hb
  rotate_left
  · exact hb.elim
  split at hb
  rotate_left
  · exact hb.elim
  split at hb
  rotate_left
  · exact hb.elim
  split at hb
  rotate_left
  · exact hb.elim
  split at hb
  rotate_left
  · exact hb.elim
  split at hb
  rotate_left
  · exact hb.elim
  split at hb
  rotate_left
  · exact hb.elim
  split at hb
  rotate_left
  · exact hb.elim
  split at hb
  rotate_left
  · exact hb.elim
  split at hb
  rotate_left
  · exact hb.elim
  exact Good.of_sub hb.2 (H _ _ _ _ _ _ _ hb.1)
theorem ta_go {A : SV → SMem → Prop} {off : Nat} {num : Nat} {ds : Array Value} {ty : TypeId} {i : Int} {ts : Array Value} {QsB : Int → Int → Int → Array Value → Array Value → Prop} {fs : List SFr} {m : SMem} (hsB : ∀ i' h' e' ts' ks', QsB i' h' e' ts' ks' → Good Tryd.prog A 1 (sB_F off num ds ty i' h' e' ts' ks') (sB_M off num ds ty i' h' e' ts' ks')) (hb : ta_x off num ds ty i ts QsB fs m) : Good Tryd.prog A 1 fs m := by
  unfold ta_x at hb
  exact sB_good hsB hb
theorem tb_go {A : SV → SMem → Prop} {off : Nat} {num : Nat} {ds : Array Value} {ty : TypeId} {i : Int} {h : Int} {e : Int} {ts : Array Value} {ks : Array Value} {QsC : Int → Int → Int → Int → Array Value → Array Value → Nat → Array Value → Prop} {QsD : Int → Array Value → Array Value → Prop} {fs : List SFr} {m : SMem} (hsC : ∀ i' h' e' n' ts' ks' k' ws', QsC i' h' e' n' ts' ks' k' ws' → Good Tryd.prog A 1 (sC_F off num ds ty i' h' e' n' ts' ks' k' ws') (sC_M off num ds ty i' h' e' n' ts' ks' k' ws')) (hsD : ∀ i' ts' ks', QsD i' ts' ks' → Good Tryd.prog A 1 (sD_F off num ds ty i' ts' ks') (sD_M off num ds ty i' ts' ks')) (hb : tb_x off num ds ty i h e ts ks QsC QsD fs m) : Good Tryd.prog A 1 fs m := by
  unfold tb_x at hb
  split at hb
  · exact sC_good hsC hb
  exact sD_good hsD hb
theorem tc_go {A : SV → SMem → Prop} {off : Nat} {num : Nat} {ds : Array Value} {ty : TypeId} {i : Int} {h : Int} {e : Int} {n : Int} {ts : Array Value} {ks : Array Value} {k : Nat} {ws : Array Value} {QsC : Int → Int → Int → Int → Array Value → Array Value → Nat → Array Value → Prop} {fs : List SFr} {m : SMem} (hsC : ∀ i' h' e' n' ts' ks' k' ws', QsC i' h' e' n' ts' ks' k' ws' → Good Tryd.prog A 1 (sC_F off num ds ty i' h' e' n' ts' ks' k' ws') (sC_M off num ds ty i' h' e' n' ts' ks' k' ws')) (hb : tc_x off num ds ty i h e n ts ks k ws QsC fs m) : Good Tryd.prog A 1 fs m := by
  unfold tc_x at hb
  exact sC_good hsC hb
theorem tg_go {A : SV → SMem → Prop} {off : Nat} {num : Nat} {ds : Array Value} {ty : TypeId} {i : Int} {h : Int} {e : Int} {n : Int} {ts : Array Value} {ks : Array Value} {k : Nat} {ws : Array Value} {QsH : Int → Int → Int → Int → Array Value → Array Value → Nat → Array Value → Prop} {fs : List SFr} {m : SMem} (hsH : ∀ i' h' e' n' ts' ks' k' ws', QsH i' h' e' n' ts' ks' k' ws' → Good Tryd.prog A 1 (sH_F off num ds ty i' h' e' n' ts' ks' k' ws') (sH_M off num ds ty i' h' e' n' ts' ks' k' ws')) (hb : tg_x off num ds ty i h e n ts ks k ws QsH fs m) : Good Tryd.prog A 1 fs m := by
  unfold tg_x at hb
  exact sH_good hsH hb
theorem tr_go {A : SV → SMem → Prop} {off : Nat} {num : Nat} {ds : Array Value} {ty : TypeId} {i : Int} {h : Int} {e : Int} {n : Int} {ts : Array Value} {ks : Array Value} {k : Nat} {ws : Array Value} {a : Nat} {QsHr : Int → Int → Int → Int → Array Value → Array Value → Nat → Array Value → Nat → Nat → Prop} {fs : List SFr} {m : SMem} (hsHr : ∀ i' h' e' n' ts' ks' k' ws' a' b', QsHr i' h' e' n' ts' ks' k' ws' a' b' → Good Tryd.prog A 1 (sHr_F off num ds ty i' h' e' n' ts' ks' k' ws' a' b') (sHr_M off num ds ty i' h' e' n' ts' ks' k' ws' a' b')) (hb : tr_x off num ds ty i h e n ts ks k ws a QsHr fs m) : Good Tryd.prog A 1 fs m := by
  unfold tr_x at hb
  exact sHr_good hsHr hb
theorem th_go {A : SV → SMem → Prop} {off : Nat} {num : Nat} {ds : Array Value} {ty : TypeId} {i : Int} {h : Int} {e : Int} {n : Int} {ts : Array Value} {ks : Array Value} {k : Nat} {ws : Array Value} {QsC : Int → Int → Int → Int → Array Value → Array Value → Nat → Array Value → Prop} {QsD : Int → Array Value → Array Value → Prop} {fs : List SFr} {m : SMem} (hsC : ∀ i' h' e' n' ts' ks' k' ws', QsC i' h' e' n' ts' ks' k' ws' → Good Tryd.prog A 1 (sC_F off num ds ty i' h' e' n' ts' ks' k' ws') (sC_M off num ds ty i' h' e' n' ts' ks' k' ws')) (hsD : ∀ i' ts' ks', QsD i' ts' ks' → Good Tryd.prog A 1 (sD_F off num ds ty i' ts' ks') (sD_M off num ds ty i' ts' ks')) (hb : th_x off num ds ty i h e n ts ks k ws QsC QsD fs m) : Good Tryd.prog A 1 fs m := by
  unfold th_x at hb
  split at hb
  · exact sC_good hsC hb
  exact sD_good hsD hb
theorem tq_go {A : SV → SMem → Prop} {off : Nat} {num : Nat} {ds : Array Value} {ty : TypeId} {i : Int} {h : Int} {e : Int} {n : Int} {ts : Array Value} {ks : Array Value} {k : Nat} {ws : Array Value} {a : Nat} {b : Nat} {QsC : Int → Int → Int → Int → Array Value → Array Value → Nat → Array Value → Prop} {QsD : Int → Array Value → Array Value → Prop} {fs : List SFr} {m : SMem} (hsC : ∀ i' h' e' n' ts' ks' k' ws', QsC i' h' e' n' ts' ks' k' ws' → Good Tryd.prog A 1 (sC_F off num ds ty i' h' e' n' ts' ks' k' ws') (sC_M off num ds ty i' h' e' n' ts' ks' k' ws')) (hsD : ∀ i' ts' ks', QsD i' ts' ks' → Good Tryd.prog A 1 (sD_F off num ds ty i' ts' ks') (sD_M off num ds ty i' ts' ks')) (hb : tq_x off num ds ty i h e n ts ks k ws a b QsC QsD fs m) : Good Tryd.prog A 1 fs m := by
  unfold tq_x at hb
  split at hb
  · exact sC_good hsC hb
  exact sD_good hsD hb
theorem td_go {A : SV → SMem → Prop} {off : Nat} {num : Nat} {ds : Array Value} {ty : TypeId} {i : Int} {ts : Array Value} {ks : Array Value} {QsE : Int → Int → Array Value → Nat → Array Value → Prop} {QsA : Int → Array Value → Prop} {fs : List SFr} {m : SMem} (hsE : ∀ i' n' ts' k' ws', QsE i' n' ts' k' ws' → Good Tryd.prog A 1 (sE_F off num ds ty i' n' ts' k' ws') (sE_M off num ds ty i' n' ts' k' ws')) (hsA : ∀ i' ts', QsA i' ts' → Good Tryd.prog A 1 (sA_F off num ds ty i' ts') (sA_M off num ds ty i' ts')) (hb : td_x off num ds ty i ts ks QsE QsA fs m) : Good Tryd.prog A 1 fs m := by
  unfold td_x at hb
  split at hb
  · exact sE_good hsE hb
  exact sA_good hsA hb
theorem te_go {A : SV → SMem → Prop} {off : Nat} {num : Nat} {ds : Array Value} {ty : TypeId} {i : Int} {n : Int} {ts : Array Value} {k : Nat} {ws : Array Value} {QsF : Int → Int → Array Value → Nat → Array Value → Int → Int → Prop} {fs : List SFr} {m : SMem} (hsF : ∀ i' n' ts' k' ws' u' c', QsF i' n' ts' k' ws' u' c' → Good Tryd.prog A 1 (sF_F off num ds ty i' n' ts' k' ws' u' c') (sF_M off num ds ty i' n' ts' k' ws' u' c')) (hb : te_x off num ds ty i n ts k ws QsF fs m) : Good Tryd.prog A 1 fs m := by
  unfold te_x at hb
  exact sF_good hsF hb
theorem tf_go {A : SV → SMem → Prop} {off : Nat} {num : Nat} {ds : Array Value} {ty : TypeId} {i : Int} {n : Int} {ts : Array Value} {k : Nat} {ws : Array Value} {u : Int} {c : Int} {QsF : Int → Int → Array Value → Nat → Array Value → Int → Int → Prop} {QsE : Int → Int → Array Value → Nat → Array Value → Prop} {QsA : Int → Array Value → Prop} {fs : List SFr} {m : SMem} (hsF : ∀ i' n' ts' k' ws' u' c', QsF i' n' ts' k' ws' u' c' → Good Tryd.prog A 1 (sF_F off num ds ty i' n' ts' k' ws' u' c') (sF_M off num ds ty i' n' ts' k' ws' u' c')) (hsE : ∀ i' n' ts' k' ws', QsE i' n' ts' k' ws' → Good Tryd.prog A 1 (sE_F off num ds ty i' n' ts' k' ws') (sE_M off num ds ty i' n' ts' k' ws')) (hsA : ∀ i' ts', QsA i' ts' → Good Tryd.prog A 1 (sA_F off num ds ty i' ts') (sA_M off num ds ty i' ts')) (hb : tf_x off num ds ty i n ts k ws u c QsF QsE QsA fs m) : Good Tryd.prog A 1 fs m := by
  unfold tf_x at hb
  split at hb
  · exact sF_good hsF hb
  split at hb
  · exact sE_good hsE hb
  exact sA_good hsA hb
theorem t0_go {A : SV → SMem → Prop} {off : Nat} {num : Nat} {ds : Array Value} {ty : TypeId} {QsA : Int → Array Value → Prop} {fs : List SFr} {m : SMem} (hsA : ∀ i' ts', QsA i' ts' → Good Tryd.prog A 1 (sA_F off num ds ty i' ts') (sA_M off num ds ty i' ts')) (hb : t0_x off num ds ty QsA fs m) : Good Tryd.prog A 1 fs m := by
  unfold t0_x at hb
  exact sA_good hsA hb
end Go.Proofs.YtjjeahnbppmigaaDoor
/- Of TableAbove: the law's states. -/
namespace Go.Proofs.YtjjeahnbppmigaaDoor
set_option linter.unusedSectionVars false
variable [Gh]
set_option maxRecDepth 100000
theorem taF (off num : Nat) (ds : Array Value) (ty : TypeId) (i : Int) (ts : Array Value) (QB : Int → Int → Int → Array Value → Array Value → Prop) (QP : Int → Int → Int → Array Value → Array Value → Nat → Nat → Array Value → Prop) : (ta_t off num ds ty i ts).vc (isB true) (sAx off num ds ty QB QP) =
    ((((0 : Int) ≤ i ∧ i < (↑num : Int)) ∧ True) ∧ (IsInt IntKind.u8 ds (off + Int.toNat i * 15) ∧ IsInt IntKind.u32 ds (off + Int.toNat i * 15 + 1) ∧ IsInt IntKind.u32 ds (off + Int.toNat i * 15 + 2) ∧ IsInt IntKind.i64 ds (off + Int.toNat i * 15 + 3) ∧ IsInt IntKind.i64 ds (off + Int.toNat i * 15 + 4) ∧ IsOne ds (off + Int.toNat i * 15 + 5) ∧ IsInt IntKind.i64 ds (off + Int.toNat i * 15 + 6) ∧ IsInt IntKind.i64 ds (off + Int.toNat i * 15 + 7) ∧ IsInt IntKind.i64 ds (off + Int.toNat i * 15 + 8) ∧ IsInt IntKind.i64 ds (off + Int.toNat i * 15 + 9) ∧ IsInt IntKind.i64 ds (off + Int.toNat i * 15 + 10) ∧ IsInt IntKind.i64 ds (off + Int.toNat i * 15 + 11) ∧ IsInt IntKind.i64 ds (off + Int.toNat i * 15 + 12) ∧ IsInt IntKind.i64 ds (off + Int.toNat i * 15 + 13) ∧ IsInt IntKind.i64 ds (off + Int.toNat i * 15 + 14) ∧ True) ∧ (Array.size ts = (448 : Nat) ∧ True) ∧ (Array.size ts = (448 : Nat) ∧ Array.size ts = (448 : Nat) ∧ True) ∧ ((intAt ds (off + Int.toNat i * 15) == (0 : Int)) = true → (Array.size ts = (448 : Nat) ∧ True) ∧ (TbOk ts ∧ ((0 : Int) ≤ intAt ds (off + Int.toNat i * 15 + 1) ∧ intAt ds (off + Int.toNat i * 15 + 1) < (4294967296 : Int)) ∧ True) ∧ (Array.size (dropT ts (intAt ds (off + Int.toNat i * 15 + 1))) = (448 : Nat) ∧ Array.size (dropT ts (intAt ds (off + Int.toNat i * 15 + 1))) = Array.size ts ∧ True) ∧ QB i (intAt ds (off + Int.toNat i * 15 + 1)) (getX5 ts (intAt ds (off + Int.toNat i * 15 + 1))) ts (dropT ts (intAt ds (off + Int.toNat i * 15 + 1))) ∧ CallKind.normal = CallKind.normal ∧ TodoOk (ren 1 [(1, 1), (2, 2), (3, 3)]) sB_d0 sB_d0 ∧ off = off ∧ num = num ∧ i = i ∧ getX5 ts (intAt ds (off + Int.toNat i * 15 + 1)) = getX5 ts (intAt ds (off + Int.toNat i * 15 + 1)) ∧ intAt ds (off + Int.toNat i * 15 + 1) = intAt ds (off + Int.toNat i * 15 + 1) ∧ ty = ty ∧ ds = ds ∧ (41 : TypeId) = (41 : TypeId) ∧ ts = ts ∧ (41 : TypeId) = (41 : Nat) ∧ dropT ts (intAt ds (off + Int.toNat i * 15 + 1)) = dropT ts (intAt ds (off + Int.toNat i * 15 + 1)) ∧ (59 : TypeId) = (59 : Nat) ∧ intAt ds (off + Int.toNat i * 15) = intAt ds (off + Int.toNat i * 15) ∧ intAt ds (off + Int.toNat i * 15 + 1) = intAt ds (off + Int.toNat i * 15 + 1) ∧ intAt ds (off + Int.toNat i * 15 + 2) = intAt ds (off + Int.toNat i * 15 + 2) ∧ intAt ds (off + Int.toNat i * 15 + 3) = intAt ds (off + Int.toNat i * 15 + 3) ∧ intAt ds (off + Int.toNat i * 15 + 4) = intAt ds (off + Int.toNat i * 15 + 4) ∧ valAt ds (off + Int.toNat i * 15 + 5) = valAt ds (off + Int.toNat i * 15 + 5) ∧ intAt ds (off + Int.toNat i * 15 + 6) = intAt ds (off + Int.toNat i * 15 + 6) ∧ intAt ds (off + Int.toNat i * 15 + 7) = intAt ds (off + Int.toNat i * 15 + 7) ∧ intAt ds (off + Int.toNat i * 15 + 8) = intAt ds (off + Int.toNat i * 15 + 8) ∧ intAt ds (off + Int.toNat i * 15 + 9) = intAt ds (off + Int.toNat i * 15 + 9) ∧ intAt ds (off + Int.toNat i * 15 + 10) = intAt ds (off + Int.toNat i * 15 + 10) ∧ intAt ds (off + Int.toNat i * 15 + 11) = intAt ds (off + Int.toNat i * 15 + 11) ∧ intAt ds (off + Int.toNat i * 15 + 12) = intAt ds (off + Int.toNat i * 15 + 12) ∧ intAt ds (off + Int.toNat i * 15 + 13) = intAt ds (off + Int.toNat i * 15 + 13) ∧ intAt ds (off + Int.toNat i * 15 + 14) = intAt ds (off + Int.toNat i * 15 + 14) ∧ True) ∧ ((intAt ds (off + Int.toNat i * 15) == (0 : Int)) = false → ((intAt ds (off + Int.toNat i * 15) == (1 : Int)) = true → (Array.size ts = (448 : Nat) ∧ True) ∧ (SlX (valAt ds (off + Int.toNat i * 15 + 5)) ∧ True) ∧ (decide (nV (valAt ds (off + Int.toNat i * 15 + 5)) = (0 : Nat)) = true → (TbOk ts ∧ ((0 : Int) ≤ intAt ds (off + Int.toNat i * 15 + 1) ∧ intAt ds (off + Int.toNat i * 15 + 1) < (4294967296 : Int)) ∧ True) ∧ (Array.size (setNl ts (intAt ds (off + Int.toNat i * 15 + 1)) (intAt ds (off + Int.toNat i * 15 + 4)) (intAt ds (off + Int.toNat i * 15 + 6)) (wu (intAt ds (off + Int.toNat i * 15 + 7))) (wu (intAt ds (off + Int.toNat i * 15 + 8))) (wu (intAt ds (off + Int.toNat i * 15 + 9))) (wu (intAt ds (off + Int.toNat i * 15 + 10))) (wu (intAt ds (off + Int.toNat i * 15 + 11))) (wu (intAt ds (off + Int.toNat i * 15 + 12))) (wu (intAt ds (off + Int.toNat i * 15 + 13))) (wu (intAt ds (off + Int.toNat i * 15 + 14)))) = (448 : Nat) ∧ Array.size (setNl ts (intAt ds (off + Int.toNat i * 15 + 1)) (intAt ds (off + Int.toNat i * 15 + 4)) (intAt ds (off + Int.toNat i * 15 + 6)) (wu (intAt ds (off + Int.toNat i * 15 + 7))) (wu (intAt ds (off + Int.toNat i * 15 + 8))) (wu (intAt ds (off + Int.toNat i * 15 + 9))) (wu (intAt ds (off + Int.toNat i * 15 + 10))) (wu (intAt ds (off + Int.toNat i * 15 + 11))) (wu (intAt ds (off + Int.toNat i * 15 + 12))) (wu (intAt ds (off + Int.toNat i * 15 + 13))) (wu (intAt ds (off + Int.toNat i * 15 + 14)))) = Array.size ts ∧ True) ∧ QB i (intAt ds (off + Int.toNat i * 15 + 1)) (setE ts (intAt ds (off + Int.toNat i * 15 + 1)) (intAt ds (off + Int.toNat i * 15 + 4)) (decide (intAt ds (off + Int.toNat i * 15 + 6) = (0 : Int)))) ts (setNl ts (intAt ds (off + Int.toNat i * 15 + 1)) (intAt ds (off + Int.toNat i * 15 + 4)) (intAt ds (off + Int.toNat i * 15 + 6)) (wu (intAt ds (off + Int.toNat i * 15 + 7))) (wu (intAt ds (off + Int.toNat i * 15 + 8))) (wu (intAt ds (off + Int.toNat i * 15 + 9))) (wu (intAt ds (off + Int.toNat i * 15 + 10))) (wu (intAt ds (off + Int.toNat i * 15 + 11))) (wu (intAt ds (off + Int.toNat i * 15 + 12))) (wu (intAt ds (off + Int.toNat i * 15 + 13))) (wu (intAt ds (off + Int.toNat i * 15 + 14)))) ∧ CallKind.normal = CallKind.normal ∧ TodoOk (ren 1 [(1, 1), (2, 2), (3, 3)]) sB_d0 sB_d0 ∧ off = off ∧ num = num ∧ i = i ∧ setE ts (intAt ds (off + Int.toNat i * 15 + 1)) (intAt ds (off + Int.toNat i * 15 + 4)) (decide (intAt ds (off + Int.toNat i * 15 + 6) = (0 : Int))) = setE ts (intAt ds (off + Int.toNat i * 15 + 1)) (intAt ds (off + Int.toNat i * 15 + 4)) (decide (intAt ds (off + Int.toNat i * 15 + 6) = (0 : Int))) ∧ intAt ds (off + Int.toNat i * 15 + 1) = intAt ds (off + Int.toNat i * 15 + 1) ∧ ty = ty ∧ ds = ds ∧ (41 : TypeId) = (41 : TypeId) ∧ ts = ts ∧ (41 : TypeId) = (41 : Nat) ∧ setNl ts (intAt ds (off + Int.toNat i * 15 + 1)) (intAt ds (off + Int.toNat i * 15 + 4)) (intAt ds (off + Int.toNat i * 15 + 6)) (wu (intAt ds (off + Int.toNat i * 15 + 7))) (wu (intAt ds (off + Int.toNat i * 15 + 8))) (wu (intAt ds (off + Int.toNat i * 15 + 9))) (wu (intAt ds (off + Int.toNat i * 15 + 10))) (wu (intAt ds (off + Int.toNat i * 15 + 11))) (wu (intAt ds (off + Int.toNat i * 15 + 12))) (wu (intAt ds (off + Int.toNat i * 15 + 13))) (wu (intAt ds (off + Int.toNat i * 15 + 14))) = setNl ts (intAt ds (off + Int.toNat i * 15 + 1)) (intAt ds (off + Int.toNat i * 15 + 4)) (intAt ds (off + Int.toNat i * 15 + 6)) (wu (intAt ds (off + Int.toNat i * 15 + 7))) (wu (intAt ds (off + Int.toNat i * 15 + 8))) (wu (intAt ds (off + Int.toNat i * 15 + 9))) (wu (intAt ds (off + Int.toNat i * 15 + 10))) (wu (intAt ds (off + Int.toNat i * 15 + 11))) (wu (intAt ds (off + Int.toNat i * 15 + 12))) (wu (intAt ds (off + Int.toNat i * 15 + 13))) (wu (intAt ds (off + Int.toNat i * 15 + 14))) ∧ (59 : TypeId) = (59 : Nat) ∧ intAt ds (off + Int.toNat i * 15) = intAt ds (off + Int.toNat i * 15) ∧ intAt ds (off + Int.toNat i * 15 + 1) = intAt ds (off + Int.toNat i * 15 + 1) ∧ intAt ds (off + Int.toNat i * 15 + 2) = intAt ds (off + Int.toNat i * 15 + 2) ∧ intAt ds (off + Int.toNat i * 15 + 3) = intAt ds (off + Int.toNat i * 15 + 3) ∧ intAt ds (off + Int.toNat i * 15 + 4) = intAt ds (off + Int.toNat i * 15 + 4) ∧ valAt ds (off + Int.toNat i * 15 + 5) = valAt ds (off + Int.toNat i * 15 + 5) ∧ intAt ds (off + Int.toNat i * 15 + 6) = intAt ds (off + Int.toNat i * 15 + 6) ∧ intAt ds (off + Int.toNat i * 15 + 7) = intAt ds (off + Int.toNat i * 15 + 7) ∧ intAt ds (off + Int.toNat i * 15 + 8) = intAt ds (off + Int.toNat i * 15 + 8) ∧ intAt ds (off + Int.toNat i * 15 + 9) = intAt ds (off + Int.toNat i * 15 + 9) ∧ intAt ds (off + Int.toNat i * 15 + 10) = intAt ds (off + Int.toNat i * 15 + 10) ∧ intAt ds (off + Int.toNat i * 15 + 11) = intAt ds (off + Int.toNat i * 15 + 11) ∧ intAt ds (off + Int.toNat i * 15 + 12) = intAt ds (off + Int.toNat i * 15 + 12) ∧ intAt ds (off + Int.toNat i * 15 + 13) = intAt ds (off + Int.toNat i * 15 + 13) ∧ intAt ds (off + Int.toNat i * 15 + 14) = intAt ds (off + Int.toNat i * 15 + 14) ∧ True) ∧ (decide (nV (valAt ds (off + Int.toNat i * 15 + 5)) = (0 : Nat)) = false → (TbOk ts ∧ ((0 : Int) ≤ intAt ds (off + Int.toNat i * 15 + 1) ∧ intAt ds (off + Int.toNat i * 15 + 1) < (4294967296 : Int)) ∧ PrOk (rowK (valAt ds (off + Int.toNat i * 15 + 5))) (0 : Nat) (nV (valAt ds (off + Int.toNat i * 15 + 5))) ∧ True) ∧ (decide (setE ts (intAt ds (off + Int.toNat i * 15 + 1)) (intAt ds (off + Int.toNat i * 15 + 4)) (mayE (rowK (valAt ds (off + Int.toNat i * 15 + 5))) (0 : Nat) (nV (valAt ds (off + Int.toNat i * 15 + 5))) (intAt ds (off + Int.toNat i * 15 + 6))) = (0 : Int)) = true → (Array.size (setP ts (intAt ds (off + Int.toNat i * 15 + 1)) (intAt ds (off + Int.toNat i * 15 + 4)) (Value.slice none (0 : Nat) (0 : Nat)) (intAt ds (off + Int.toNat i * 15 + 6)) (wu (intAt ds (off + Int.toNat i * 15 + 7))) (wu (intAt ds (off + Int.toNat i * 15 + 8))) (wu (intAt ds (off + Int.toNat i * 15 + 9))) (wu (intAt ds (off + Int.toNat i * 15 + 10))) (wu (intAt ds (off + Int.toNat i * 15 + 11))) (wu (intAt ds (off + Int.toNat i * 15 + 12))) (wu (intAt ds (off + Int.toNat i * 15 + 13))) (wu (intAt ds (off + Int.toNat i * 15 + 14)))) = (448 : Nat) ∧ Array.size (setP ts (intAt ds (off + Int.toNat i * 15 + 1)) (intAt ds (off + Int.toNat i * 15 + 4)) (Value.slice none (0 : Nat) (0 : Nat)) (intAt ds (off + Int.toNat i * 15 + 6)) (wu (intAt ds (off + Int.toNat i * 15 + 7))) (wu (intAt ds (off + Int.toNat i * 15 + 8))) (wu (intAt ds (off + Int.toNat i * 15 + 9))) (wu (intAt ds (off + Int.toNat i * 15 + 10))) (wu (intAt ds (off + Int.toNat i * 15 + 11))) (wu (intAt ds (off + Int.toNat i * 15 + 12))) (wu (intAt ds (off + Int.toNat i * 15 + 13))) (wu (intAt ds (off + Int.toNat i * 15 + 14)))) = Array.size ts ∧ True) ∧ QP i (intAt ds (off + Int.toNat i * 15 + 1)) (0 : Int) ts (setP ts (intAt ds (off + Int.toNat i * 15 + 1)) (intAt ds (off + Int.toNat i * 15 + 4)) (Value.slice none (0 : Nat) (0 : Nat)) (intAt ds (off + Int.toNat i * 15 + 6)) (wu (intAt ds (off + Int.toNat i * 15 + 7))) (wu (intAt ds (off + Int.toNat i * 15 + 8))) (wu (intAt ds (off + Int.toNat i * 15 + 9))) (wu (intAt ds (off + Int.toNat i * 15 + 10))) (wu (intAt ds (off + Int.toNat i * 15 + 11))) (wu (intAt ds (off + Int.toNat i * 15 + 12))) (wu (intAt ds (off + Int.toNat i * 15 + 13))) (wu (intAt ds (off + Int.toNat i * 15 + 14)))) (pl (intAt ds (off + Int.toNat i * 15 + 1)) + 2) (nV (valAt ds (off + Int.toNat i * 15 + 5))) (Array.extract (rowK (valAt ds (off + Int.toNat i * 15 + 5))) (0 : Nat) ((0 : Nat) + nV (valAt ds (off + Int.toNat i * 15 + 5)) * 2)) ∧ CallKind.normal = CallKind.normal ∧ TodoOk (ren 1 [(1, 1), (2, 2), (3, 3), (4, 5)]) sB_d0 sB_d0 ∧ off = off ∧ num = num ∧ i = i ∧ (0 : Int) = (0 : Int) ∧ intAt ds (off + Int.toNat i * 15 + 1) = intAt ds (off + Int.toNat i * 15 + 1) ∧ ty = ty ∧ ds = ds ∧ (41 : TypeId) = (41 : TypeId) ∧ ts = ts ∧ (41 : TypeId) = (41 : Nat) ∧ setP ts (intAt ds (off + Int.toNat i * 15 + 1)) (intAt ds (off + Int.toNat i * 15 + 4)) (Value.slice none (0 : Nat) (0 : Nat)) (intAt ds (off + Int.toNat i * 15 + 6)) (wu (intAt ds (off + Int.toNat i * 15 + 7))) (wu (intAt ds (off + Int.toNat i * 15 + 8))) (wu (intAt ds (off + Int.toNat i * 15 + 9))) (wu (intAt ds (off + Int.toNat i * 15 + 10))) (wu (intAt ds (off + Int.toNat i * 15 + 11))) (wu (intAt ds (off + Int.toNat i * 15 + 12))) (wu (intAt ds (off + Int.toNat i * 15 + 13))) (wu (intAt ds (off + Int.toNat i * 15 + 14))) = setP ts (intAt ds (off + Int.toNat i * 15 + 1)) (intAt ds (off + Int.toNat i * 15 + 4)) (Value.slice none (0 : Nat) (0 : Nat)) (intAt ds (off + Int.toNat i * 15 + 6)) (wu (intAt ds (off + Int.toNat i * 15 + 7))) (wu (intAt ds (off + Int.toNat i * 15 + 8))) (wu (intAt ds (off + Int.toNat i * 15 + 9))) (wu (intAt ds (off + Int.toNat i * 15 + 10))) (wu (intAt ds (off + Int.toNat i * 15 + 11))) (wu (intAt ds (off + Int.toNat i * 15 + 12))) (wu (intAt ds (off + Int.toNat i * 15 + 13))) (wu (intAt ds (off + Int.toNat i * 15 + 14))) ∧ pl (intAt ds (off + Int.toNat i * 15 + 1)) + 2 = pl (intAt ds (off + Int.toNat i * 15 + 1)) + 2 ∧ nV (valAt ds (off + Int.toNat i * 15 + 5)) = nV (valAt ds (off + Int.toNat i * 15 + 5)) ∧ (59 : TypeId) = (59 : Nat) ∧ intAt ds (off + Int.toNat i * 15) = intAt ds (off + Int.toNat i * 15) ∧ intAt ds (off + Int.toNat i * 15 + 1) = intAt ds (off + Int.toNat i * 15 + 1) ∧ intAt ds (off + Int.toNat i * 15 + 2) = intAt ds (off + Int.toNat i * 15 + 2) ∧ intAt ds (off + Int.toNat i * 15 + 3) = intAt ds (off + Int.toNat i * 15 + 3) ∧ intAt ds (off + Int.toNat i * 15 + 4) = intAt ds (off + Int.toNat i * 15 + 4) ∧ valAt ds (off + Int.toNat i * 15 + 5) = valAt ds (off + Int.toNat i * 15 + 5) ∧ intAt ds (off + Int.toNat i * 15 + 6) = intAt ds (off + Int.toNat i * 15 + 6) ∧ intAt ds (off + Int.toNat i * 15 + 7) = intAt ds (off + Int.toNat i * 15 + 7) ∧ intAt ds (off + Int.toNat i * 15 + 8) = intAt ds (off + Int.toNat i * 15 + 8) ∧ intAt ds (off + Int.toNat i * 15 + 9) = intAt ds (off + Int.toNat i * 15 + 9) ∧ intAt ds (off + Int.toNat i * 15 + 10) = intAt ds (off + Int.toNat i * 15 + 10) ∧ intAt ds (off + Int.toNat i * 15 + 11) = intAt ds (off + Int.toNat i * 15 + 11) ∧ intAt ds (off + Int.toNat i * 15 + 12) = intAt ds (off + Int.toNat i * 15 + 12) ∧ intAt ds (off + Int.toNat i * 15 + 13) = intAt ds (off + Int.toNat i * 15 + 13) ∧ intAt ds (off + Int.toNat i * 15 + 14) = intAt ds (off + Int.toNat i * 15 + 14) ∧ (89 : TypeId) = (89 : TypeId) ∧ Array.extract (rowK (valAt ds (off + Int.toNat i * 15 + 5))) (0 : Nat) ((0 : Nat) + nV (valAt ds (off + Int.toNat i * 15 + 5)) * 2) = Array.extract (rowK (valAt ds (off + Int.toNat i * 15 + 5))) (0 : Nat) ((0 : Nat) + nV (valAt ds (off + Int.toNat i * 15 + 5)) * 2) ∧ True) ∧ (decide (setE ts (intAt ds (off + Int.toNat i * 15 + 1)) (intAt ds (off + Int.toNat i * 15 + 4)) (mayE (rowK (valAt ds (off + Int.toNat i * 15 + 5))) (0 : Nat) (nV (valAt ds (off + Int.toNat i * 15 + 5))) (intAt ds (off + Int.toNat i * 15 + 6))) = (0 : Int)) = false → (Array.size ts = (448 : Nat) ∧ Array.size ts = Array.size ts ∧ True) ∧ QB i (intAt ds (off + Int.toNat i * 15 + 1)) (setE ts (intAt ds (off + Int.toNat i * 15 + 1)) (intAt ds (off + Int.toNat i * 15 + 4)) (mayE (rowK (valAt ds (off + Int.toNat i * 15 + 5))) (0 : Nat) (nV (valAt ds (off + Int.toNat i * 15 + 5))) (intAt ds (off + Int.toNat i * 15 + 6)))) ts ts ∧ CallKind.normal = CallKind.normal ∧ TodoOk (ren 1 [(1, 1), (2, 2), (3, 3)]) sB_d0 sB_d0 ∧ off = off ∧ num = num ∧ i = i ∧ setE ts (intAt ds (off + Int.toNat i * 15 + 1)) (intAt ds (off + Int.toNat i * 15 + 4)) (mayE (rowK (valAt ds (off + Int.toNat i * 15 + 5))) (0 : Nat) (nV (valAt ds (off + Int.toNat i * 15 + 5))) (intAt ds (off + Int.toNat i * 15 + 6))) = setE ts (intAt ds (off + Int.toNat i * 15 + 1)) (intAt ds (off + Int.toNat i * 15 + 4)) (mayE (rowK (valAt ds (off + Int.toNat i * 15 + 5))) (0 : Nat) (nV (valAt ds (off + Int.toNat i * 15 + 5))) (intAt ds (off + Int.toNat i * 15 + 6))) ∧ intAt ds (off + Int.toNat i * 15 + 1) = intAt ds (off + Int.toNat i * 15 + 1) ∧ ty = ty ∧ ds = ds ∧ (41 : TypeId) = (41 : TypeId) ∧ ts = ts ∧ (41 : TypeId) = (41 : Nat) ∧ ts = ts ∧ (59 : TypeId) = (59 : Nat) ∧ intAt ds (off + Int.toNat i * 15) = intAt ds (off + Int.toNat i * 15) ∧ intAt ds (off + Int.toNat i * 15 + 1) = intAt ds (off + Int.toNat i * 15 + 1) ∧ intAt ds (off + Int.toNat i * 15 + 2) = intAt ds (off + Int.toNat i * 15 + 2) ∧ intAt ds (off + Int.toNat i * 15 + 3) = intAt ds (off + Int.toNat i * 15 + 3) ∧ intAt ds (off + Int.toNat i * 15 + 4) = intAt ds (off + Int.toNat i * 15 + 4) ∧ valAt ds (off + Int.toNat i * 15 + 5) = valAt ds (off + Int.toNat i * 15 + 5) ∧ intAt ds (off + Int.toNat i * 15 + 6) = intAt ds (off + Int.toNat i * 15 + 6) ∧ intAt ds (off + Int.toNat i * 15 + 7) = intAt ds (off + Int.toNat i * 15 + 7) ∧ intAt ds (off + Int.toNat i * 15 + 8) = intAt ds (off + Int.toNat i * 15 + 8) ∧ intAt ds (off + Int.toNat i * 15 + 9) = intAt ds (off + Int.toNat i * 15 + 9) ∧ intAt ds (off + Int.toNat i * 15 + 10) = intAt ds (off + Int.toNat i * 15 + 10) ∧ intAt ds (off + Int.toNat i * 15 + 11) = intAt ds (off + Int.toNat i * 15 + 11) ∧ intAt ds (off + Int.toNat i * 15 + 12) = intAt ds (off + Int.toNat i * 15 + 12) ∧ intAt ds (off + Int.toNat i * 15 + 13) = intAt ds (off + Int.toNat i * 15 + 13) ∧ intAt ds (off + Int.toNat i * 15 + 14) = intAt ds (off + Int.toNat i * 15 + 14) ∧ True))) ∧ ((intAt ds (off + Int.toNat i * 15) == (1 : Int)) = false → ((intAt ds (off + Int.toNat i * 15) == (2 : Int)) = true → (Array.size ts = (448 : Nat) ∧ True) ∧ (FIn ts ∧ ((0 : Int) ≤ intAt ds (off + Int.toNat i * 15 + 1) ∧ intAt ds (off + Int.toNat i * 15 + 1) < (4294967296 : Int)) ∧ ((0 : Int) ≤ intAt ds (off + Int.toNat i * 15 + 2) ∧ intAt ds (off + Int.toNat i * 15 + 2) < (4294967296 : Int)) ∧ True) ∧ (Array.size (raT ts (intAt ds (off + Int.toNat i * 15 + 1)) (intAt ds (off + Int.toNat i * 15 + 2))) = (448 : Nat) ∧ Array.size (raT ts (intAt ds (off + Int.toNat i * 15 + 1)) (intAt ds (off + Int.toNat i * 15 + 2))) = Array.size ts ∧ True) ∧ QB i (intAt ds (off + Int.toNat i * 15 + 1)) (raE ts (intAt ds (off + Int.toNat i * 15 + 1)) (intAt ds (off + Int.toNat i * 15 + 2))) ts (raT ts (intAt ds (off + Int.toNat i * 15 + 1)) (intAt ds (off + Int.toNat i * 15 + 2))) ∧ CallKind.normal = CallKind.normal ∧ TodoOk (ren 1 [(1, 1), (2, 2), (3, 3)]) sB_d0 sB_d0 ∧ off = off ∧ num = num ∧ i = i ∧ raE ts (intAt ds (off + Int.toNat i * 15 + 1)) (intAt ds (off + Int.toNat i * 15 + 2)) = raE ts (intAt ds (off + Int.toNat i * 15 + 1)) (intAt ds (off + Int.toNat i * 15 + 2)) ∧ intAt ds (off + Int.toNat i * 15 + 1) = intAt ds (off + Int.toNat i * 15 + 1) ∧ ty = ty ∧ ds = ds ∧ (41 : TypeId) = (41 : TypeId) ∧ ts = ts ∧ (41 : TypeId) = (41 : Nat) ∧ raT ts (intAt ds (off + Int.toNat i * 15 + 1)) (intAt ds (off + Int.toNat i * 15 + 2)) = raT ts (intAt ds (off + Int.toNat i * 15 + 1)) (intAt ds (off + Int.toNat i * 15 + 2)) ∧ (59 : TypeId) = (59 : Nat) ∧ intAt ds (off + Int.toNat i * 15) = intAt ds (off + Int.toNat i * 15) ∧ intAt ds (off + Int.toNat i * 15 + 1) = intAt ds (off + Int.toNat i * 15 + 1) ∧ intAt ds (off + Int.toNat i * 15 + 2) = intAt ds (off + Int.toNat i * 15 + 2) ∧ intAt ds (off + Int.toNat i * 15 + 3) = intAt ds (off + Int.toNat i * 15 + 3) ∧ intAt ds (off + Int.toNat i * 15 + 4) = intAt ds (off + Int.toNat i * 15 + 4) ∧ valAt ds (off + Int.toNat i * 15 + 5) = valAt ds (off + Int.toNat i * 15 + 5) ∧ intAt ds (off + Int.toNat i * 15 + 6) = intAt ds (off + Int.toNat i * 15 + 6) ∧ intAt ds (off + Int.toNat i * 15 + 7) = intAt ds (off + Int.toNat i * 15 + 7) ∧ intAt ds (off + Int.toNat i * 15 + 8) = intAt ds (off + Int.toNat i * 15 + 8) ∧ intAt ds (off + Int.toNat i * 15 + 9) = intAt ds (off + Int.toNat i * 15 + 9) ∧ intAt ds (off + Int.toNat i * 15 + 10) = intAt ds (off + Int.toNat i * 15 + 10) ∧ intAt ds (off + Int.toNat i * 15 + 11) = intAt ds (off + Int.toNat i * 15 + 11) ∧ intAt ds (off + Int.toNat i * 15 + 12) = intAt ds (off + Int.toNat i * 15 + 12) ∧ intAt ds (off + Int.toNat i * 15 + 13) = intAt ds (off + Int.toNat i * 15 + 13) ∧ intAt ds (off + Int.toNat i * 15 + 14) = intAt ds (off + Int.toNat i * 15 + 14) ∧ True) ∧ ((intAt ds (off + Int.toNat i * 15) == (2 : Int)) = false → (Array.size ts = (448 : Nat) ∧ True) ∧ (TbOk ts ∧ ((0 : Int) ≤ intAt ds (off + Int.toNat i * 15 + 1) ∧ intAt ds (off + Int.toNat i * 15 + 1) < (4294967296 : Int)) ∧ True) ∧ (Array.size (newT ts (intAt ds (off + Int.toNat i * 15 + 1)) (intAt ds (off + Int.toNat i * 15 + 4))) = (448 : Nat) ∧ Array.size (newT ts (intAt ds (off + Int.toNat i * 15 + 1)) (intAt ds (off + Int.toNat i * 15 + 4))) = Array.size ts ∧ True) ∧ QB i (newI ts (intAt ds (off + Int.toNat i * 15 + 1)) (intAt ds (off + Int.toNat i * 15 + 4))) (newE ts (intAt ds (off + Int.toNat i * 15 + 1)) (intAt ds (off + Int.toNat i * 15 + 4))) ts (newT ts (intAt ds (off + Int.toNat i * 15 + 1)) (intAt ds (off + Int.toNat i * 15 + 4))) ∧ CallKind.normal = CallKind.normal ∧ TodoOk (ren 1 [(1, 1), (2, 2), (3, 3)]) sB_d0 sB_d0 ∧ off = off ∧ num = num ∧ i = i ∧ newE ts (intAt ds (off + Int.toNat i * 15 + 1)) (intAt ds (off + Int.toNat i * 15 + 4)) = newE ts (intAt ds (off + Int.toNat i * 15 + 1)) (intAt ds (off + Int.toNat i * 15 + 4)) ∧ newI ts (intAt ds (off + Int.toNat i * 15 + 1)) (intAt ds (off + Int.toNat i * 15 + 4)) = newI ts (intAt ds (off + Int.toNat i * 15 + 1)) (intAt ds (off + Int.toNat i * 15 + 4)) ∧ ty = ty ∧ ds = ds ∧ (41 : TypeId) = (41 : TypeId) ∧ ts = ts ∧ (41 : TypeId) = (41 : Nat) ∧ newT ts (intAt ds (off + Int.toNat i * 15 + 1)) (intAt ds (off + Int.toNat i * 15 + 4)) = newT ts (intAt ds (off + Int.toNat i * 15 + 1)) (intAt ds (off + Int.toNat i * 15 + 4)) ∧ (59 : TypeId) = (59 : Nat) ∧ intAt ds (off + Int.toNat i * 15) = intAt ds (off + Int.toNat i * 15) ∧ intAt ds (off + Int.toNat i * 15 + 1) = intAt ds (off + Int.toNat i * 15 + 1) ∧ intAt ds (off + Int.toNat i * 15 + 2) = intAt ds (off + Int.toNat i * 15 + 2) ∧ intAt ds (off + Int.toNat i * 15 + 3) = intAt ds (off + Int.toNat i * 15 + 3) ∧ intAt ds (off + Int.toNat i * 15 + 4) = intAt ds (off + Int.toNat i * 15 + 4) ∧ valAt ds (off + Int.toNat i * 15 + 5) = valAt ds (off + Int.toNat i * 15 + 5) ∧ intAt ds (off + Int.toNat i * 15 + 6) = intAt ds (off + Int.toNat i * 15 + 6) ∧ intAt ds (off + Int.toNat i * 15 + 7) = intAt ds (off + Int.toNat i * 15 + 7) ∧ intAt ds (off + Int.toNat i * 15 + 8) = intAt ds (off + Int.toNat i * 15 + 8) ∧ intAt ds (off + Int.toNat i * 15 + 9) = intAt ds (off + Int.toNat i * 15 + 9) ∧ intAt ds (off + Int.toNat i * 15 + 10) = intAt ds (off + Int.toNat i * 15 + 10) ∧ intAt ds (off + Int.toNat i * 15 + 11) = intAt ds (off + Int.toNat i * 15 + 11) ∧ intAt ds (off + Int.toNat i * 15 + 12) = intAt ds (off + Int.toNat i * 15 + 12) ∧ intAt ds (off + Int.toNat i * 15 + 13) = intAt ds (off + Int.toNat i * 15 + 13) ∧ intAt ds (off + Int.toNat i * 15 + 14) = intAt ds (off + Int.toNat i * 15 + 14) ∧ True)))) := by kernel_rfl
theorem tcF (off num : Nat) (ds : Array Value) (ty : TypeId) (i h e n : Int) (ts ks : Array Value) (k : Nat) (ws : Array Value) (QC : Int → Int → Int → Int → Array Value → Array Value → Nat → Array Value → Prop) (QD : Int → Array Value → Array Value → Prop) (QG : Int → Int → Int → Int → Array Value → Array Value → Nat → Array Value → Prop) (QR : Int → Int → Int → Int → Array Value → Array Value → Nat → Array Value → Nat → Prop) : (tc_t off num ds ty i h e n ts ks k ws).vc (isB true) (sCx off num ds ty QC QD QG QR) =
    ((((0 : Int) ≤ n ∧ n < (↑k : Int)) ∧ True) ∧ (IsInt IntKind.u32 ws ((0 : Nat) + Int.toNat n * 1) ∧ True) ∧ (((intAt ws ((0 : Nat) + Int.toNat n * 1) == h) == true) = true → ((e == (0 : Int)) = true → (decide (ari BinOp.add IntKind.i64 n (1 : Int) < (↑k : Int)) = true → QC i h e (ari BinOp.add IntKind.i64 n (1 : Int)) ts ks k ws ∧ CallKind.normal = CallKind.normal ∧ TodoOk (ren 1 [(1, 1), (2, 2), (3, 3), (4, 4)]) sC_d0 sC_d0 ∧ off = off ∧ num = num ∧ k = k ∧ i = i ∧ e = e ∧ h = h ∧ ari BinOp.add IntKind.i64 n (1 : Int) = ari BinOp.add IntKind.i64 n (1 : Int) ∧ ty = ty ∧ ds = ds ∧ (41 : TypeId) = (41 : TypeId) ∧ ts = ts ∧ (41 : TypeId) = (41 : TypeId) ∧ ks = ks ∧ (59 : TypeId) = (59 : TypeId) ∧ intAt ds (off + Int.toNat i * 15) = intAt ds (off + Int.toNat i * 15) ∧ intAt ds (off + Int.toNat i * 15 + 1) = intAt ds (off + Int.toNat i * 15 + 1) ∧ intAt ds (off + Int.toNat i * 15 + 2) = intAt ds (off + Int.toNat i * 15 + 2) ∧ intAt ds (off + Int.toNat i * 15 + 3) = intAt ds (off + Int.toNat i * 15 + 3) ∧ intAt ds (off + Int.toNat i * 15 + 4) = intAt ds (off + Int.toNat i * 15 + 4) ∧ valAt ds (off + Int.toNat i * 15 + 5) = valAt ds (off + Int.toNat i * 15 + 5) ∧ intAt ds (off + Int.toNat i * 15 + 6) = intAt ds (off + Int.toNat i * 15 + 6) ∧ intAt ds (off + Int.toNat i * 15 + 7) = intAt ds (off + Int.toNat i * 15 + 7) ∧ intAt ds (off + Int.toNat i * 15 + 8) = intAt ds (off + Int.toNat i * 15 + 8) ∧ intAt ds (off + Int.toNat i * 15 + 9) = intAt ds (off + Int.toNat i * 15 + 9) ∧ intAt ds (off + Int.toNat i * 15 + 10) = intAt ds (off + Int.toNat i * 15 + 10) ∧ intAt ds (off + Int.toNat i * 15 + 11) = intAt ds (off + Int.toNat i * 15 + 11) ∧ intAt ds (off + Int.toNat i * 15 + 12) = intAt ds (off + Int.toNat i * 15 + 12) ∧ intAt ds (off + Int.toNat i * 15 + 13) = intAt ds (off + Int.toNat i * 15 + 13) ∧ intAt ds (off + Int.toNat i * 15 + 14) = intAt ds (off + Int.toNat i * 15 + 14) ∧ (32 : TypeId) = (32 : TypeId) ∧ ws = ws ∧ True) ∧ (decide (ari BinOp.add IntKind.i64 n (1 : Int) < (↑k : Int)) = false → QD i ts ks ∧ CallKind.normal = CallKind.normal ∧ TodoOk (ren 1 [(1, 1), (3, 3)]) sD_d0 sD_d0 ∧ off = off ∧ num = num ∧ i = i ∧ ty = ty ∧ ds = ds ∧ (41 : TypeId) = (41 : TypeId) ∧ ts = ts ∧ (41 : TypeId) = (41 : TypeId) ∧ ks = ks ∧ True)) ∧ ((e == (0 : Int)) = false → (Array.size ts = (448 : Nat) ∧ True) ∧ (((0 : Int) ≤ n ∧ n < (↑k : Int)) ∧ True) ∧ (IsInt IntKind.u32 ws ((0 : Nat) + Int.toNat n * 1) ∧ True) ∧ (TbOk ts ∧ ((0 : Int) ≤ intAt ws ((0 : Nat) + Int.toNat n * 1) ∧ intAt ws ((0 : Nat) + Int.toNat n * 1) < (4294967296 : Int)) ∧ True) ∧ (gdF ts (intAt ws ((0 : Nat) + Int.toNat n * 1)) = true → (decide (nV (slF ts (intAt ws ((0 : Nat) + Int.toNat n * 1))) = (0 : Nat)) = true → QG i h e n ts ks k ws ∧ CallKind.normal = CallKind.normal ∧ TodoOk (ren 1 [(1, 1), (2, 2), (3, 3), (4, 4), (5, 5)]) sG_d0 sG_d0 ∧ off = off ∧ num = num ∧ k = k ∧ i = i ∧ e = e ∧ (0 : Int) = (0 : Int) ∧ h = h ∧ n = n ∧ ty = ty ∧ ds = ds ∧ (41 : TypeId) = (41 : TypeId) ∧ ts = ts ∧ (41 : TypeId) = (41 : TypeId) ∧ ks = ks ∧ (38 : TypeId) = (38 : Nat) ∧ upF ts (intAt ws (Int.toNat n)) = upF ts (intAt ws ((0 : Nat) + Int.toNat n * 1)) ∧ quF ts (intAt ws (Int.toNat n)) = quF ts (intAt ws ((0 : Nat) + Int.toNat n * 1)) ∧ Value.slice none (0 : Nat) (0 : Nat) = Value.slice none (0 : Nat) (0 : Nat) ∧ lnF ts (intAt ws (Int.toNat n)) = lnF ts (intAt ws ((0 : Nat) + Int.toNat n * 1)) ∧ ceF ts (intAt ws (Int.toNat n)) (0 : Nat) = ceF ts (intAt ws ((0 : Nat) + Int.toNat n * 1)) (0 : Nat) ∧ ceF ts (intAt ws (Int.toNat n)) (1 : Nat) = ceF ts (intAt ws ((0 : Nat) + Int.toNat n * 1)) (1 : Nat) ∧ ceF ts (intAt ws (Int.toNat n)) (2 : Nat) = ceF ts (intAt ws ((0 : Nat) + Int.toNat n * 1)) (2 : Nat) ∧ ceF ts (intAt ws (Int.toNat n)) (3 : Nat) = ceF ts (intAt ws ((0 : Nat) + Int.toNat n * 1)) (3 : Nat) ∧ ceF ts (intAt ws (Int.toNat n)) (4 : Nat) = ceF ts (intAt ws ((0 : Nat) + Int.toNat n * 1)) (4 : Nat) ∧ ceF ts (intAt ws (Int.toNat n)) (5 : Nat) = ceF ts (intAt ws ((0 : Nat) + Int.toNat n * 1)) (5 : Nat) ∧ ceF ts (intAt ws (Int.toNat n)) (6 : Nat) = ceF ts (intAt ws ((0 : Nat) + Int.toNat n * 1)) (6 : Nat) ∧ ceF ts (intAt ws (Int.toNat n)) (7 : Nat) = ceF ts (intAt ws ((0 : Nat) + Int.toNat n * 1)) (7 : Nat) ∧ (59 : TypeId) = (59 : TypeId) ∧ intAt ds (off + Int.toNat i * 15) = intAt ds (off + Int.toNat i * 15) ∧ intAt ds (off + Int.toNat i * 15 + 1) = intAt ds (off + Int.toNat i * 15 + 1) ∧ intAt ds (off + Int.toNat i * 15 + 2) = intAt ds (off + Int.toNat i * 15 + 2) ∧ intAt ds (off + Int.toNat i * 15 + 3) = intAt ds (off + Int.toNat i * 15 + 3) ∧ intAt ds (off + Int.toNat i * 15 + 4) = intAt ds (off + Int.toNat i * 15 + 4) ∧ valAt ds (off + Int.toNat i * 15 + 5) = valAt ds (off + Int.toNat i * 15 + 5) ∧ intAt ds (off + Int.toNat i * 15 + 6) = intAt ds (off + Int.toNat i * 15 + 6) ∧ intAt ds (off + Int.toNat i * 15 + 7) = intAt ds (off + Int.toNat i * 15 + 7) ∧ intAt ds (off + Int.toNat i * 15 + 8) = intAt ds (off + Int.toNat i * 15 + 8) ∧ intAt ds (off + Int.toNat i * 15 + 9) = intAt ds (off + Int.toNat i * 15 + 9) ∧ intAt ds (off + Int.toNat i * 15 + 10) = intAt ds (off + Int.toNat i * 15 + 10) ∧ intAt ds (off + Int.toNat i * 15 + 11) = intAt ds (off + Int.toNat i * 15 + 11) ∧ intAt ds (off + Int.toNat i * 15 + 12) = intAt ds (off + Int.toNat i * 15 + 12) ∧ intAt ds (off + Int.toNat i * 15 + 13) = intAt ds (off + Int.toNat i * 15 + 13) ∧ intAt ds (off + Int.toNat i * 15 + 14) = intAt ds (off + Int.toNat i * 15 + 14) ∧ (32 : TypeId) = (32 : TypeId) ∧ ws = ws ∧ True) ∧ (decide (nV (slF ts (intAt ws ((0 : Nat) + Int.toNat n * 1))) = (0 : Nat)) = false → QR i h e n ts ks k ws (nV (slF ts (intAt ws ((0 : Nat) + Int.toNat n * 1)))) ∧ CallKind.normal = CallKind.normal ∧ TodoOk (ren 1 [(1, 1), (2, 2), (3, 3), (4, 4), (5, 6), (6, 5)]) sG_d0 sG_d0 ∧ off = off ∧ num = num ∧ k = k ∧ i = i ∧ e = e ∧ (0 : Int) = (0 : Int) ∧ h = h ∧ n = n ∧ ty = ty ∧ ds = ds ∧ (41 : TypeId) = (41 : TypeId) ∧ ts = ts ∧ (41 : TypeId) = (41 : TypeId) ∧ ks = ks ∧ (38 : TypeId) = (38 : Nat) ∧ upF ts (intAt ws (Int.toNat n)) = upF ts (intAt ws ((0 : Nat) + Int.toNat n * 1)) ∧ quF ts (intAt ws (Int.toNat n)) = quF ts (intAt ws ((0 : Nat) + Int.toNat n * 1)) ∧ nV (slF ts (intAt ws ((0 : Nat) + Int.toNat n * 1))) = nV (slF ts (intAt ws ((0 : Nat) + Int.toNat n * 1))) ∧ lnF ts (intAt ws (Int.toNat n)) = lnF ts (intAt ws ((0 : Nat) + Int.toNat n * 1)) ∧ ceF ts (intAt ws (Int.toNat n)) (0 : Nat) = ceF ts (intAt ws ((0 : Nat) + Int.toNat n * 1)) (0 : Nat) ∧ ceF ts (intAt ws (Int.toNat n)) (1 : Nat) = ceF ts (intAt ws ((0 : Nat) + Int.toNat n * 1)) (1 : Nat) ∧ ceF ts (intAt ws (Int.toNat n)) (2 : Nat) = ceF ts (intAt ws ((0 : Nat) + Int.toNat n * 1)) (2 : Nat) ∧ ceF ts (intAt ws (Int.toNat n)) (3 : Nat) = ceF ts (intAt ws ((0 : Nat) + Int.toNat n * 1)) (3 : Nat) ∧ ceF ts (intAt ws (Int.toNat n)) (4 : Nat) = ceF ts (intAt ws ((0 : Nat) + Int.toNat n * 1)) (4 : Nat) ∧ ceF ts (intAt ws (Int.toNat n)) (5 : Nat) = ceF ts (intAt ws ((0 : Nat) + Int.toNat n * 1)) (5 : Nat) ∧ ceF ts (intAt ws (Int.toNat n)) (6 : Nat) = ceF ts (intAt ws ((0 : Nat) + Int.toNat n * 1)) (6 : Nat) ∧ ceF ts (intAt ws (Int.toNat n)) (7 : Nat) = ceF ts (intAt ws ((0 : Nat) + Int.toNat n * 1)) (7 : Nat) ∧ (59 : TypeId) = (59 : TypeId) ∧ intAt ds (off + Int.toNat i * 15) = intAt ds (off + Int.toNat i * 15) ∧ intAt ds (off + Int.toNat i * 15 + 1) = intAt ds (off + Int.toNat i * 15 + 1) ∧ intAt ds (off + Int.toNat i * 15 + 2) = intAt ds (off + Int.toNat i * 15 + 2) ∧ intAt ds (off + Int.toNat i * 15 + 3) = intAt ds (off + Int.toNat i * 15 + 3) ∧ intAt ds (off + Int.toNat i * 15 + 4) = intAt ds (off + Int.toNat i * 15 + 4) ∧ valAt ds (off + Int.toNat i * 15 + 5) = valAt ds (off + Int.toNat i * 15 + 5) ∧ intAt ds (off + Int.toNat i * 15 + 6) = intAt ds (off + Int.toNat i * 15 + 6) ∧ intAt ds (off + Int.toNat i * 15 + 7) = intAt ds (off + Int.toNat i * 15 + 7) ∧ intAt ds (off + Int.toNat i * 15 + 8) = intAt ds (off + Int.toNat i * 15 + 8) ∧ intAt ds (off + Int.toNat i * 15 + 9) = intAt ds (off + Int.toNat i * 15 + 9) ∧ intAt ds (off + Int.toNat i * 15 + 10) = intAt ds (off + Int.toNat i * 15 + 10) ∧ intAt ds (off + Int.toNat i * 15 + 11) = intAt ds (off + Int.toNat i * 15 + 11) ∧ intAt ds (off + Int.toNat i * 15 + 12) = intAt ds (off + Int.toNat i * 15 + 12) ∧ intAt ds (off + Int.toNat i * 15 + 13) = intAt ds (off + Int.toNat i * 15 + 13) ∧ intAt ds (off + Int.toNat i * 15 + 14) = intAt ds (off + Int.toNat i * 15 + 14) ∧ (32 : TypeId) = (32 : TypeId) ∧ ws = ws ∧ True)) ∧ (gdF ts (intAt ws ((0 : Nat) + Int.toNat n * 1)) = false → QG i h e n ts ks k ws ∧ CallKind.normal = CallKind.normal ∧ TodoOk (ren 1 [(1, 1), (2, 2), (3, 3), (4, 4), (5, 5)]) sG_d0 sG_d0 ∧ off = off ∧ num = num ∧ k = k ∧ i = i ∧ e = e ∧ (0 : Int) = (4 : Int) ∧ h = h ∧ n = n ∧ ty = ty ∧ ds = ds ∧ (41 : TypeId) = (41 : TypeId) ∧ ts = ts ∧ (41 : TypeId) = (41 : TypeId) ∧ ks = ks ∧ (38 : TypeId) = (38 : Nat) ∧ upF ts (intAt ws (Int.toNat n)) = (0 : Int) ∧ quF ts (intAt ws (Int.toNat n)) = (0 : Int) ∧ Value.slice none (0 : Nat) (0 : Nat) = Value.slice none (0 : Nat) (0 : Nat) ∧ lnF ts (intAt ws (Int.toNat n)) = (0 : Int) ∧ ceF ts (intAt ws (Int.toNat n)) (0 : Nat) = (0 : Int) ∧ ceF ts (intAt ws (Int.toNat n)) (1 : Nat) = (0 : Int) ∧ ceF ts (intAt ws (Int.toNat n)) (2 : Nat) = (0 : Int) ∧ ceF ts (intAt ws (Int.toNat n)) (3 : Nat) = (0 : Int) ∧ ceF ts (intAt ws (Int.toNat n)) (4 : Nat) = (0 : Int) ∧ ceF ts (intAt ws (Int.toNat n)) (5 : Nat) = (0 : Int) ∧ ceF ts (intAt ws (Int.toNat n)) (6 : Nat) = (0 : Int) ∧ ceF ts (intAt ws (Int.toNat n)) (7 : Nat) = (0 : Int) ∧ (59 : TypeId) = (59 : TypeId) ∧ intAt ds (off + Int.toNat i * 15) = intAt ds (off + Int.toNat i * 15) ∧ intAt ds (off + Int.toNat i * 15 + 1) = intAt ds (off + Int.toNat i * 15 + 1) ∧ intAt ds (off + Int.toNat i * 15 + 2) = intAt ds (off + Int.toNat i * 15 + 2) ∧ intAt ds (off + Int.toNat i * 15 + 3) = intAt ds (off + Int.toNat i * 15 + 3) ∧ intAt ds (off + Int.toNat i * 15 + 4) = intAt ds (off + Int.toNat i * 15 + 4) ∧ valAt ds (off + Int.toNat i * 15 + 5) = valAt ds (off + Int.toNat i * 15 + 5) ∧ intAt ds (off + Int.toNat i * 15 + 6) = intAt ds (off + Int.toNat i * 15 + 6) ∧ intAt ds (off + Int.toNat i * 15 + 7) = intAt ds (off + Int.toNat i * 15 + 7) ∧ intAt ds (off + Int.toNat i * 15 + 8) = intAt ds (off + Int.toNat i * 15 + 8) ∧ intAt ds (off + Int.toNat i * 15 + 9) = intAt ds (off + Int.toNat i * 15 + 9) ∧ intAt ds (off + Int.toNat i * 15 + 10) = intAt ds (off + Int.toNat i * 15 + 10) ∧ intAt ds (off + Int.toNat i * 15 + 11) = intAt ds (off + Int.toNat i * 15 + 11) ∧ intAt ds (off + Int.toNat i * 15 + 12) = intAt ds (off + Int.toNat i * 15 + 12) ∧ intAt ds (off + Int.toNat i * 15 + 13) = intAt ds (off + Int.toNat i * 15 + 13) ∧ intAt ds (off + Int.toNat i * 15 + 14) = intAt ds (off + Int.toNat i * 15 + 14) ∧ (32 : TypeId) = (32 : TypeId) ∧ ws = ws ∧ True))) ∧ (((intAt ws ((0 : Nat) + Int.toNat n * 1) == h) == true) = false → (Array.size ts = (448 : Nat) ∧ True) ∧ (((0 : Int) ≤ n ∧ n < (↑k : Int)) ∧ True) ∧ (IsInt IntKind.u32 ws ((0 : Nat) + Int.toNat n * 1) ∧ True) ∧ (TbOk ts ∧ ((0 : Int) ≤ intAt ws ((0 : Nat) + Int.toNat n * 1) ∧ intAt ws ((0 : Nat) + Int.toNat n * 1) < (4294967296 : Int)) ∧ True) ∧ (gdF ts (intAt ws ((0 : Nat) + Int.toNat n * 1)) = true → (decide (nV (slF ts (intAt ws ((0 : Nat) + Int.toNat n * 1))) = (0 : Nat)) = true → QG i h e n ts ks k ws ∧ CallKind.normal = CallKind.normal ∧ TodoOk (ren 1 [(1, 1), (2, 2), (3, 3), (4, 4), (5, 5)]) sG_d0 sG_d0 ∧ off = off ∧ num = num ∧ k = k ∧ i = i ∧ e = e ∧ (0 : Int) = (0 : Int) ∧ h = h ∧ n = n ∧ ty = ty ∧ ds = ds ∧ (41 : TypeId) = (41 : TypeId) ∧ ts = ts ∧ (41 : TypeId) = (41 : TypeId) ∧ ks = ks ∧ (38 : TypeId) = (38 : Nat) ∧ upF ts (intAt ws (Int.toNat n)) = upF ts (intAt ws ((0 : Nat) + Int.toNat n * 1)) ∧ quF ts (intAt ws (Int.toNat n)) = quF ts (intAt ws ((0 : Nat) + Int.toNat n * 1)) ∧ Value.slice none (0 : Nat) (0 : Nat) = Value.slice none (0 : Nat) (0 : Nat) ∧ lnF ts (intAt ws (Int.toNat n)) = lnF ts (intAt ws ((0 : Nat) + Int.toNat n * 1)) ∧ ceF ts (intAt ws (Int.toNat n)) (0 : Nat) = ceF ts (intAt ws ((0 : Nat) + Int.toNat n * 1)) (0 : Nat) ∧ ceF ts (intAt ws (Int.toNat n)) (1 : Nat) = ceF ts (intAt ws ((0 : Nat) + Int.toNat n * 1)) (1 : Nat) ∧ ceF ts (intAt ws (Int.toNat n)) (2 : Nat) = ceF ts (intAt ws ((0 : Nat) + Int.toNat n * 1)) (2 : Nat) ∧ ceF ts (intAt ws (Int.toNat n)) (3 : Nat) = ceF ts (intAt ws ((0 : Nat) + Int.toNat n * 1)) (3 : Nat) ∧ ceF ts (intAt ws (Int.toNat n)) (4 : Nat) = ceF ts (intAt ws ((0 : Nat) + Int.toNat n * 1)) (4 : Nat) ∧ ceF ts (intAt ws (Int.toNat n)) (5 : Nat) = ceF ts (intAt ws ((0 : Nat) + Int.toNat n * 1)) (5 : Nat) ∧ ceF ts (intAt ws (Int.toNat n)) (6 : Nat) = ceF ts (intAt ws ((0 : Nat) + Int.toNat n * 1)) (6 : Nat) ∧ ceF ts (intAt ws (Int.toNat n)) (7 : Nat) = ceF ts (intAt ws ((0 : Nat) + Int.toNat n * 1)) (7 : Nat) ∧ (59 : TypeId) = (59 : TypeId) ∧ intAt ds (off + Int.toNat i * 15) = intAt ds (off + Int.toNat i * 15) ∧ intAt ds (off + Int.toNat i * 15 + 1) = intAt ds (off + Int.toNat i * 15 + 1) ∧ intAt ds (off + Int.toNat i * 15 + 2) = intAt ds (off + Int.toNat i * 15 + 2) ∧ intAt ds (off + Int.toNat i * 15 + 3) = intAt ds (off + Int.toNat i * 15 + 3) ∧ intAt ds (off + Int.toNat i * 15 + 4) = intAt ds (off + Int.toNat i * 15 + 4) ∧ valAt ds (off + Int.toNat i * 15 + 5) = valAt ds (off + Int.toNat i * 15 + 5) ∧ intAt ds (off + Int.toNat i * 15 + 6) = intAt ds (off + Int.toNat i * 15 + 6) ∧ intAt ds (off + Int.toNat i * 15 + 7) = intAt ds (off + Int.toNat i * 15 + 7) ∧ intAt ds (off + Int.toNat i * 15 + 8) = intAt ds (off + Int.toNat i * 15 + 8) ∧ intAt ds (off + Int.toNat i * 15 + 9) = intAt ds (off + Int.toNat i * 15 + 9) ∧ intAt ds (off + Int.toNat i * 15 + 10) = intAt ds (off + Int.toNat i * 15 + 10) ∧ intAt ds (off + Int.toNat i * 15 + 11) = intAt ds (off + Int.toNat i * 15 + 11) ∧ intAt ds (off + Int.toNat i * 15 + 12) = intAt ds (off + Int.toNat i * 15 + 12) ∧ intAt ds (off + Int.toNat i * 15 + 13) = intAt ds (off + Int.toNat i * 15 + 13) ∧ intAt ds (off + Int.toNat i * 15 + 14) = intAt ds (off + Int.toNat i * 15 + 14) ∧ (32 : TypeId) = (32 : TypeId) ∧ ws = ws ∧ True) ∧ (decide (nV (slF ts (intAt ws ((0 : Nat) + Int.toNat n * 1))) = (0 : Nat)) = false → QR i h e n ts ks k ws (nV (slF ts (intAt ws ((0 : Nat) + Int.toNat n * 1)))) ∧ CallKind.normal = CallKind.normal ∧ TodoOk (ren 1 [(1, 1), (2, 2), (3, 3), (4, 4), (5, 6), (6, 5)]) sG_d0 sG_d0 ∧ off = off ∧ num = num ∧ k = k ∧ i = i ∧ e = e ∧ (0 : Int) = (0 : Int) ∧ h = h ∧ n = n ∧ ty = ty ∧ ds = ds ∧ (41 : TypeId) = (41 : TypeId) ∧ ts = ts ∧ (41 : TypeId) = (41 : TypeId) ∧ ks = ks ∧ (38 : TypeId) = (38 : Nat) ∧ upF ts (intAt ws (Int.toNat n)) = upF ts (intAt ws ((0 : Nat) + Int.toNat n * 1)) ∧ quF ts (intAt ws (Int.toNat n)) = quF ts (intAt ws ((0 : Nat) + Int.toNat n * 1)) ∧ nV (slF ts (intAt ws ((0 : Nat) + Int.toNat n * 1))) = nV (slF ts (intAt ws ((0 : Nat) + Int.toNat n * 1))) ∧ lnF ts (intAt ws (Int.toNat n)) = lnF ts (intAt ws ((0 : Nat) + Int.toNat n * 1)) ∧ ceF ts (intAt ws (Int.toNat n)) (0 : Nat) = ceF ts (intAt ws ((0 : Nat) + Int.toNat n * 1)) (0 : Nat) ∧ ceF ts (intAt ws (Int.toNat n)) (1 : Nat) = ceF ts (intAt ws ((0 : Nat) + Int.toNat n * 1)) (1 : Nat) ∧ ceF ts (intAt ws (Int.toNat n)) (2 : Nat) = ceF ts (intAt ws ((0 : Nat) + Int.toNat n * 1)) (2 : Nat) ∧ ceF ts (intAt ws (Int.toNat n)) (3 : Nat) = ceF ts (intAt ws ((0 : Nat) + Int.toNat n * 1)) (3 : Nat) ∧ ceF ts (intAt ws (Int.toNat n)) (4 : Nat) = ceF ts (intAt ws ((0 : Nat) + Int.toNat n * 1)) (4 : Nat) ∧ ceF ts (intAt ws (Int.toNat n)) (5 : Nat) = ceF ts (intAt ws ((0 : Nat) + Int.toNat n * 1)) (5 : Nat) ∧ ceF ts (intAt ws (Int.toNat n)) (6 : Nat) = ceF ts (intAt ws ((0 : Nat) + Int.toNat n * 1)) (6 : Nat) ∧ ceF ts (intAt ws (Int.toNat n)) (7 : Nat) = ceF ts (intAt ws ((0 : Nat) + Int.toNat n * 1)) (7 : Nat) ∧ (59 : TypeId) = (59 : TypeId) ∧ intAt ds (off + Int.toNat i * 15) = intAt ds (off + Int.toNat i * 15) ∧ intAt ds (off + Int.toNat i * 15 + 1) = intAt ds (off + Int.toNat i * 15 + 1) ∧ intAt ds (off + Int.toNat i * 15 + 2) = intAt ds (off + Int.toNat i * 15 + 2) ∧ intAt ds (off + Int.toNat i * 15 + 3) = intAt ds (off + Int.toNat i * 15 + 3) ∧ intAt ds (off + Int.toNat i * 15 + 4) = intAt ds (off + Int.toNat i * 15 + 4) ∧ valAt ds (off + Int.toNat i * 15 + 5) = valAt ds (off + Int.toNat i * 15 + 5) ∧ intAt ds (off + Int.toNat i * 15 + 6) = intAt ds (off + Int.toNat i * 15 + 6) ∧ intAt ds (off + Int.toNat i * 15 + 7) = intAt ds (off + Int.toNat i * 15 + 7) ∧ intAt ds (off + Int.toNat i * 15 + 8) = intAt ds (off + Int.toNat i * 15 + 8) ∧ intAt ds (off + Int.toNat i * 15 + 9) = intAt ds (off + Int.toNat i * 15 + 9) ∧ intAt ds (off + Int.toNat i * 15 + 10) = intAt ds (off + Int.toNat i * 15 + 10) ∧ intAt ds (off + Int.toNat i * 15 + 11) = intAt ds (off + Int.toNat i * 15 + 11) ∧ intAt ds (off + Int.toNat i * 15 + 12) = intAt ds (off + Int.toNat i * 15 + 12) ∧ intAt ds (off + Int.toNat i * 15 + 13) = intAt ds (off + Int.toNat i * 15 + 13) ∧ intAt ds (off + Int.toNat i * 15 + 14) = intAt ds (off + Int.toNat i * 15 + 14) ∧ (32 : TypeId) = (32 : TypeId) ∧ ws = ws ∧ True)) ∧ (gdF ts (intAt ws ((0 : Nat) + Int.toNat n * 1)) = false → QG i h e n ts ks k ws ∧ CallKind.normal = CallKind.normal ∧ TodoOk (ren 1 [(1, 1), (2, 2), (3, 3), (4, 4), (5, 5)]) sG_d0 sG_d0 ∧ off = off ∧ num = num ∧ k = k ∧ i = i ∧ e = e ∧ (0 : Int) = (4 : Int) ∧ h = h ∧ n = n ∧ ty = ty ∧ ds = ds ∧ (41 : TypeId) = (41 : TypeId) ∧ ts = ts ∧ (41 : TypeId) = (41 : TypeId) ∧ ks = ks ∧ (38 : TypeId) = (38 : Nat) ∧ upF ts (intAt ws (Int.toNat n)) = (0 : Int) ∧ quF ts (intAt ws (Int.toNat n)) = (0 : Int) ∧ Value.slice none (0 : Nat) (0 : Nat) = Value.slice none (0 : Nat) (0 : Nat) ∧ lnF ts (intAt ws (Int.toNat n)) = (0 : Int) ∧ ceF ts (intAt ws (Int.toNat n)) (0 : Nat) = (0 : Int) ∧ ceF ts (intAt ws (Int.toNat n)) (1 : Nat) = (0 : Int) ∧ ceF ts (intAt ws (Int.toNat n)) (2 : Nat) = (0 : Int) ∧ ceF ts (intAt ws (Int.toNat n)) (3 : Nat) = (0 : Int) ∧ ceF ts (intAt ws (Int.toNat n)) (4 : Nat) = (0 : Int) ∧ ceF ts (intAt ws (Int.toNat n)) (5 : Nat) = (0 : Int) ∧ ceF ts (intAt ws (Int.toNat n)) (6 : Nat) = (0 : Int) ∧ ceF ts (intAt ws (Int.toNat n)) (7 : Nat) = (0 : Int) ∧ (59 : TypeId) = (59 : TypeId) ∧ intAt ds (off + Int.toNat i * 15) = intAt ds (off + Int.toNat i * 15) ∧ intAt ds (off + Int.toNat i * 15 + 1) = intAt ds (off + Int.toNat i * 15 + 1) ∧ intAt ds (off + Int.toNat i * 15 + 2) = intAt ds (off + Int.toNat i * 15 + 2) ∧ intAt ds (off + Int.toNat i * 15 + 3) = intAt ds (off + Int.toNat i * 15 + 3) ∧ intAt ds (off + Int.toNat i * 15 + 4) = intAt ds (off + Int.toNat i * 15 + 4) ∧ valAt ds (off + Int.toNat i * 15 + 5) = valAt ds (off + Int.toNat i * 15 + 5) ∧ intAt ds (off + Int.toNat i * 15 + 6) = intAt ds (off + Int.toNat i * 15 + 6) ∧ intAt ds (off + Int.toNat i * 15 + 7) = intAt ds (off + Int.toNat i * 15 + 7) ∧ intAt ds (off + Int.toNat i * 15 + 8) = intAt ds (off + Int.toNat i * 15 + 8) ∧ intAt ds (off + Int.toNat i * 15 + 9) = intAt ds (off + Int.toNat i * 15 + 9) ∧ intAt ds (off + Int.toNat i * 15 + 10) = intAt ds (off + Int.toNat i * 15 + 10) ∧ intAt ds (off + Int.toNat i * 15 + 11) = intAt ds (off + Int.toNat i * 15 + 11) ∧ intAt ds (off + Int.toNat i * 15 + 12) = intAt ds (off + Int.toNat i * 15 + 12) ∧ intAt ds (off + Int.toNat i * 15 + 13) = intAt ds (off + Int.toNat i * 15 + 13) ∧ intAt ds (off + Int.toNat i * 15 + 14) = intAt ds (off + Int.toNat i * 15 + 14) ∧ (32 : TypeId) = (32 : TypeId) ∧ ws = ws ∧ True))) := by kernel_rfl
theorem tgF (off num : Nat) (ds : Array Value) (ty : TypeId) (i h e n : Int) (ts ks : Array Value) (k : Nat) (ws : Array Value) (QH : Int → Int → Int → Int → Array Value → Array Value → Nat → Array Value → Prop) : (tg_t off num ds ty i h e n ts ks k ws).vc (isB true) (sGx off num ds ty QH) =
    ((Array.size ks = (448 : Nat) ∧ True) ∧ (((0 : Int) ≤ n ∧ n < (↑k : Int)) ∧ True) ∧ (IsInt IntKind.u32 ws ((0 : Nat) + Int.toNat n * 1) ∧ True) ∧ (TbOk ks ∧ ((0 : Int) ≤ intAt ws ((0 : Nat) + Int.toNat n * 1) ∧ intAt ws ((0 : Nat) + Int.toNat n * 1) < (4294967296 : Int)) ∧ True) ∧ (gdF ks (intAt ws ((0 : Nat) + Int.toNat n * 1)) = true → (decide (nV (slF ks (intAt ws ((0 : Nat) + Int.toNat n * 1))) = (0 : Nat)) = true → QH i h e n ts ks k ws ∧ CallKind.normal = CallKind.normal ∧ TodoOk (ren 1 [(1, 1), (2, 2), (3, 3), (4, 4), (5, 5), (7, 6)]) sH_d0 sH_d0 ∧ off = off ∧ num = num ∧ k = k ∧ i = i ∧ e = e ∧ (0 : Int) = (0 : Int) ∧ h = h ∧ n = n ∧ (0 : Int) = (0 : Int) ∧ ty = ty ∧ ds = ds ∧ (41 : TypeId) = (41 : TypeId) ∧ ts = ts ∧ (41 : TypeId) = (41 : TypeId) ∧ ks = ks ∧ (38 : TypeId) = (38 : Nat) ∧ upF ks (intAt ws (Int.toNat n)) = upF ks (intAt ws ((0 : Nat) + Int.toNat n * 1)) ∧ quF ks (intAt ws (Int.toNat n)) = quF ks (intAt ws ((0 : Nat) + Int.toNat n * 1)) ∧ Value.slice none (0 : Nat) (0 : Nat) = Value.slice none (0 : Nat) (0 : Nat) ∧ lnF ks (intAt ws (Int.toNat n)) = lnF ks (intAt ws ((0 : Nat) + Int.toNat n * 1)) ∧ ceF ks (intAt ws (Int.toNat n)) (0 : Nat) = ceF ks (intAt ws ((0 : Nat) + Int.toNat n * 1)) (0 : Nat) ∧ ceF ks (intAt ws (Int.toNat n)) (1 : Nat) = ceF ks (intAt ws ((0 : Nat) + Int.toNat n * 1)) (1 : Nat) ∧ ceF ks (intAt ws (Int.toNat n)) (2 : Nat) = ceF ks (intAt ws ((0 : Nat) + Int.toNat n * 1)) (2 : Nat) ∧ ceF ks (intAt ws (Int.toNat n)) (3 : Nat) = ceF ks (intAt ws ((0 : Nat) + Int.toNat n * 1)) (3 : Nat) ∧ ceF ks (intAt ws (Int.toNat n)) (4 : Nat) = ceF ks (intAt ws ((0 : Nat) + Int.toNat n * 1)) (4 : Nat) ∧ ceF ks (intAt ws (Int.toNat n)) (5 : Nat) = ceF ks (intAt ws ((0 : Nat) + Int.toNat n * 1)) (5 : Nat) ∧ ceF ks (intAt ws (Int.toNat n)) (6 : Nat) = ceF ks (intAt ws ((0 : Nat) + Int.toNat n * 1)) (6 : Nat) ∧ ceF ks (intAt ws (Int.toNat n)) (7 : Nat) = ceF ks (intAt ws ((0 : Nat) + Int.toNat n * 1)) (7 : Nat) ∧ (38 : TypeId) = (38 : TypeId) ∧ upF ts (intAt ws (Int.toNat n)) = upF ts (intAt ws (Int.toNat n)) ∧ quF ts (intAt ws (Int.toNat n)) = quF ts (intAt ws (Int.toNat n)) ∧ Value.slice none (0 : Nat) (0 : Nat) = Value.slice none (0 : Nat) (0 : Nat) ∧ lnF ts (intAt ws (Int.toNat n)) = lnF ts (intAt ws (Int.toNat n)) ∧ ceF ts (intAt ws (Int.toNat n)) (0 : Nat) = ceF ts (intAt ws (Int.toNat n)) (0 : Nat) ∧ ceF ts (intAt ws (Int.toNat n)) (1 : Nat) = ceF ts (intAt ws (Int.toNat n)) (1 : Nat) ∧ ceF ts (intAt ws (Int.toNat n)) (2 : Nat) = ceF ts (intAt ws (Int.toNat n)) (2 : Nat) ∧ ceF ts (intAt ws (Int.toNat n)) (3 : Nat) = ceF ts (intAt ws (Int.toNat n)) (3 : Nat) ∧ ceF ts (intAt ws (Int.toNat n)) (4 : Nat) = ceF ts (intAt ws (Int.toNat n)) (4 : Nat) ∧ ceF ts (intAt ws (Int.toNat n)) (5 : Nat) = ceF ts (intAt ws (Int.toNat n)) (5 : Nat) ∧ ceF ts (intAt ws (Int.toNat n)) (6 : Nat) = ceF ts (intAt ws (Int.toNat n)) (6 : Nat) ∧ ceF ts (intAt ws (Int.toNat n)) (7 : Nat) = ceF ts (intAt ws (Int.toNat n)) (7 : Nat) ∧ (59 : TypeId) = (59 : TypeId) ∧ intAt ds (off + Int.toNat i * 15) = intAt ds (off + Int.toNat i * 15) ∧ intAt ds (off + Int.toNat i * 15 + 1) = intAt ds (off + Int.toNat i * 15 + 1) ∧ intAt ds (off + Int.toNat i * 15 + 2) = intAt ds (off + Int.toNat i * 15 + 2) ∧ intAt ds (off + Int.toNat i * 15 + 3) = intAt ds (off + Int.toNat i * 15 + 3) ∧ intAt ds (off + Int.toNat i * 15 + 4) = intAt ds (off + Int.toNat i * 15 + 4) ∧ valAt ds (off + Int.toNat i * 15 + 5) = valAt ds (off + Int.toNat i * 15 + 5) ∧ intAt ds (off + Int.toNat i * 15 + 6) = intAt ds (off + Int.toNat i * 15 + 6) ∧ intAt ds (off + Int.toNat i * 15 + 7) = intAt ds (off + Int.toNat i * 15 + 7) ∧ intAt ds (off + Int.toNat i * 15 + 8) = intAt ds (off + Int.toNat i * 15 + 8) ∧ intAt ds (off + Int.toNat i * 15 + 9) = intAt ds (off + Int.toNat i * 15 + 9) ∧ intAt ds (off + Int.toNat i * 15 + 10) = intAt ds (off + Int.toNat i * 15 + 10) ∧ intAt ds (off + Int.toNat i * 15 + 11) = intAt ds (off + Int.toNat i * 15 + 11) ∧ intAt ds (off + Int.toNat i * 15 + 12) = intAt ds (off + Int.toNat i * 15 + 12) ∧ intAt ds (off + Int.toNat i * 15 + 13) = intAt ds (off + Int.toNat i * 15 + 13) ∧ intAt ds (off + Int.toNat i * 15 + 14) = intAt ds (off + Int.toNat i * 15 + 14) ∧ (32 : TypeId) = (32 : TypeId) ∧ ws = ws ∧ True) ∧ (decide (nV (slF ks (intAt ws ((0 : Nat) + Int.toNat n * 1))) = (0 : Nat)) = false → False)) ∧ (gdF ks (intAt ws ((0 : Nat) + Int.toNat n * 1)) = false → QH i h e n ts ks k ws ∧ CallKind.normal = CallKind.normal ∧ TodoOk (ren 1 [(1, 1), (2, 2), (3, 3), (4, 4), (5, 5), (7, 6)]) sH_d0 sH_d0 ∧ off = off ∧ num = num ∧ k = k ∧ i = i ∧ e = e ∧ (0 : Int) = (0 : Int) ∧ h = h ∧ n = n ∧ (0 : Int) = (4 : Int) ∧ ty = ty ∧ ds = ds ∧ (41 : TypeId) = (41 : TypeId) ∧ ts = ts ∧ (41 : TypeId) = (41 : TypeId) ∧ ks = ks ∧ (38 : TypeId) = (38 : Nat) ∧ upF ks (intAt ws (Int.toNat n)) = (0 : Int) ∧ quF ks (intAt ws (Int.toNat n)) = (0 : Int) ∧ Value.slice none (0 : Nat) (0 : Nat) = Value.slice none (0 : Nat) (0 : Nat) ∧ lnF ks (intAt ws (Int.toNat n)) = (0 : Int) ∧ ceF ks (intAt ws (Int.toNat n)) (0 : Nat) = (0 : Int) ∧ ceF ks (intAt ws (Int.toNat n)) (1 : Nat) = (0 : Int) ∧ ceF ks (intAt ws (Int.toNat n)) (2 : Nat) = (0 : Int) ∧ ceF ks (intAt ws (Int.toNat n)) (3 : Nat) = (0 : Int) ∧ ceF ks (intAt ws (Int.toNat n)) (4 : Nat) = (0 : Int) ∧ ceF ks (intAt ws (Int.toNat n)) (5 : Nat) = (0 : Int) ∧ ceF ks (intAt ws (Int.toNat n)) (6 : Nat) = (0 : Int) ∧ ceF ks (intAt ws (Int.toNat n)) (7 : Nat) = (0 : Int) ∧ (38 : TypeId) = (38 : TypeId) ∧ upF ts (intAt ws (Int.toNat n)) = upF ts (intAt ws (Int.toNat n)) ∧ quF ts (intAt ws (Int.toNat n)) = quF ts (intAt ws (Int.toNat n)) ∧ Value.slice none (0 : Nat) (0 : Nat) = Value.slice none (0 : Nat) (0 : Nat) ∧ lnF ts (intAt ws (Int.toNat n)) = lnF ts (intAt ws (Int.toNat n)) ∧ ceF ts (intAt ws (Int.toNat n)) (0 : Nat) = ceF ts (intAt ws (Int.toNat n)) (0 : Nat) ∧ ceF ts (intAt ws (Int.toNat n)) (1 : Nat) = ceF ts (intAt ws (Int.toNat n)) (1 : Nat) ∧ ceF ts (intAt ws (Int.toNat n)) (2 : Nat) = ceF ts (intAt ws (Int.toNat n)) (2 : Nat) ∧ ceF ts (intAt ws (Int.toNat n)) (3 : Nat) = ceF ts (intAt ws (Int.toNat n)) (3 : Nat) ∧ ceF ts (intAt ws (Int.toNat n)) (4 : Nat) = ceF ts (intAt ws (Int.toNat n)) (4 : Nat) ∧ ceF ts (intAt ws (Int.toNat n)) (5 : Nat) = ceF ts (intAt ws (Int.toNat n)) (5 : Nat) ∧ ceF ts (intAt ws (Int.toNat n)) (6 : Nat) = ceF ts (intAt ws (Int.toNat n)) (6 : Nat) ∧ ceF ts (intAt ws (Int.toNat n)) (7 : Nat) = ceF ts (intAt ws (Int.toNat n)) (7 : Nat) ∧ (59 : TypeId) = (59 : TypeId) ∧ intAt ds (off + Int.toNat i * 15) = intAt ds (off + Int.toNat i * 15) ∧ intAt ds (off + Int.toNat i * 15 + 1) = intAt ds (off + Int.toNat i * 15 + 1) ∧ intAt ds (off + Int.toNat i * 15 + 2) = intAt ds (off + Int.toNat i * 15 + 2) ∧ intAt ds (off + Int.toNat i * 15 + 3) = intAt ds (off + Int.toNat i * 15 + 3) ∧ intAt ds (off + Int.toNat i * 15 + 4) = intAt ds (off + Int.toNat i * 15 + 4) ∧ valAt ds (off + Int.toNat i * 15 + 5) = valAt ds (off + Int.toNat i * 15 + 5) ∧ intAt ds (off + Int.toNat i * 15 + 6) = intAt ds (off + Int.toNat i * 15 + 6) ∧ intAt ds (off + Int.toNat i * 15 + 7) = intAt ds (off + Int.toNat i * 15 + 7) ∧ intAt ds (off + Int.toNat i * 15 + 8) = intAt ds (off + Int.toNat i * 15 + 8) ∧ intAt ds (off + Int.toNat i * 15 + 9) = intAt ds (off + Int.toNat i * 15 + 9) ∧ intAt ds (off + Int.toNat i * 15 + 10) = intAt ds (off + Int.toNat i * 15 + 10) ∧ intAt ds (off + Int.toNat i * 15 + 11) = intAt ds (off + Int.toNat i * 15 + 11) ∧ intAt ds (off + Int.toNat i * 15 + 12) = intAt ds (off + Int.toNat i * 15 + 12) ∧ intAt ds (off + Int.toNat i * 15 + 13) = intAt ds (off + Int.toNat i * 15 + 13) ∧ intAt ds (off + Int.toNat i * 15 + 14) = intAt ds (off + Int.toNat i * 15 + 14) ∧ (32 : TypeId) = (32 : TypeId) ∧ ws = ws ∧ True)) := by kernel_rfl
theorem trF (off num : Nat) (ds : Array Value) (ty : TypeId) (i h e n : Int) (ts ks : Array Value) (k : Nat) (ws : Array Value) (a : Nat) (QH : Int → Int → Int → Int → Array Value → Array Value → Nat → Array Value → Nat → Nat → Prop) : (tr_t off num ds ty i h e n ts ks k ws a).vc (isB true) (sRx off num ds ty QH) =
    ((Array.size ks = (448 : Nat) ∧ True) ∧ (((0 : Int) ≤ n ∧ n < (↑k : Int)) ∧ True) ∧ (IsInt IntKind.u32 ws ((0 : Nat) + Int.toNat n * 1) ∧ True) ∧ (TbOk ks ∧ ((0 : Int) ≤ intAt ws ((0 : Nat) + Int.toNat n * 1) ∧ intAt ws ((0 : Nat) + Int.toNat n * 1) < (4294967296 : Int)) ∧ True) ∧ (gdF ks (intAt ws ((0 : Nat) + Int.toNat n * 1)) = true → (decide (nV (slF ks (intAt ws ((0 : Nat) + Int.toNat n * 1))) = (0 : Nat)) = true → False) ∧ (decide (nV (slF ks (intAt ws ((0 : Nat) + Int.toNat n * 1))) = (0 : Nat)) = false → QH i h e n ts ks k ws a (nV (slF ks (intAt ws ((0 : Nat) + Int.toNat n * 1)))) ∧ CallKind.normal = CallKind.normal ∧ TodoOk (ren 1 [(1, 1), (2, 2), (3, 3), (4, 4), (5, 5), (6, 6), (7, 8), (8, 7)]) sH_d0 sH_d0 ∧ off = off ∧ num = num ∧ k = k ∧ i = i ∧ e = e ∧ (0 : Int) = (0 : Int) ∧ h = h ∧ n = n ∧ (0 : Int) = (0 : Int) ∧ ty = ty ∧ ds = ds ∧ (41 : TypeId) = (41 : TypeId) ∧ ts = ts ∧ (41 : TypeId) = (41 : TypeId) ∧ ks = ks ∧ (38 : TypeId) = (38 : Nat) ∧ upF ks (intAt ws (Int.toNat n)) = upF ks (intAt ws ((0 : Nat) + Int.toNat n * 1)) ∧ quF ks (intAt ws (Int.toNat n)) = quF ks (intAt ws ((0 : Nat) + Int.toNat n * 1)) ∧ nV (slF ks (intAt ws ((0 : Nat) + Int.toNat n * 1))) = nV (slF ks (intAt ws ((0 : Nat) + Int.toNat n * 1))) ∧ lnF ks (intAt ws (Int.toNat n)) = lnF ks (intAt ws ((0 : Nat) + Int.toNat n * 1)) ∧ ceF ks (intAt ws (Int.toNat n)) (0 : Nat) = ceF ks (intAt ws ((0 : Nat) + Int.toNat n * 1)) (0 : Nat) ∧ ceF ks (intAt ws (Int.toNat n)) (1 : Nat) = ceF ks (intAt ws ((0 : Nat) + Int.toNat n * 1)) (1 : Nat) ∧ ceF ks (intAt ws (Int.toNat n)) (2 : Nat) = ceF ks (intAt ws ((0 : Nat) + Int.toNat n * 1)) (2 : Nat) ∧ ceF ks (intAt ws (Int.toNat n)) (3 : Nat) = ceF ks (intAt ws ((0 : Nat) + Int.toNat n * 1)) (3 : Nat) ∧ ceF ks (intAt ws (Int.toNat n)) (4 : Nat) = ceF ks (intAt ws ((0 : Nat) + Int.toNat n * 1)) (4 : Nat) ∧ ceF ks (intAt ws (Int.toNat n)) (5 : Nat) = ceF ks (intAt ws ((0 : Nat) + Int.toNat n * 1)) (5 : Nat) ∧ ceF ks (intAt ws (Int.toNat n)) (6 : Nat) = ceF ks (intAt ws ((0 : Nat) + Int.toNat n * 1)) (6 : Nat) ∧ ceF ks (intAt ws (Int.toNat n)) (7 : Nat) = ceF ks (intAt ws ((0 : Nat) + Int.toNat n * 1)) (7 : Nat) ∧ (38 : TypeId) = (38 : TypeId) ∧ upF ts (intAt ws (Int.toNat n)) = upF ts (intAt ws (Int.toNat n)) ∧ quF ts (intAt ws (Int.toNat n)) = quF ts (intAt ws (Int.toNat n)) ∧ a = a ∧ lnF ts (intAt ws (Int.toNat n)) = lnF ts (intAt ws (Int.toNat n)) ∧ ceF ts (intAt ws (Int.toNat n)) (0 : Nat) = ceF ts (intAt ws (Int.toNat n)) (0 : Nat) ∧ ceF ts (intAt ws (Int.toNat n)) (1 : Nat) = ceF ts (intAt ws (Int.toNat n)) (1 : Nat) ∧ ceF ts (intAt ws (Int.toNat n)) (2 : Nat) = ceF ts (intAt ws (Int.toNat n)) (2 : Nat) ∧ ceF ts (intAt ws (Int.toNat n)) (3 : Nat) = ceF ts (intAt ws (Int.toNat n)) (3 : Nat) ∧ ceF ts (intAt ws (Int.toNat n)) (4 : Nat) = ceF ts (intAt ws (Int.toNat n)) (4 : Nat) ∧ ceF ts (intAt ws (Int.toNat n)) (5 : Nat) = ceF ts (intAt ws (Int.toNat n)) (5 : Nat) ∧ ceF ts (intAt ws (Int.toNat n)) (6 : Nat) = ceF ts (intAt ws (Int.toNat n)) (6 : Nat) ∧ ceF ts (intAt ws (Int.toNat n)) (7 : Nat) = ceF ts (intAt ws (Int.toNat n)) (7 : Nat) ∧ (59 : TypeId) = (59 : TypeId) ∧ intAt ds (off + Int.toNat i * 15) = intAt ds (off + Int.toNat i * 15) ∧ intAt ds (off + Int.toNat i * 15 + 1) = intAt ds (off + Int.toNat i * 15 + 1) ∧ intAt ds (off + Int.toNat i * 15 + 2) = intAt ds (off + Int.toNat i * 15 + 2) ∧ intAt ds (off + Int.toNat i * 15 + 3) = intAt ds (off + Int.toNat i * 15 + 3) ∧ intAt ds (off + Int.toNat i * 15 + 4) = intAt ds (off + Int.toNat i * 15 + 4) ∧ valAt ds (off + Int.toNat i * 15 + 5) = valAt ds (off + Int.toNat i * 15 + 5) ∧ intAt ds (off + Int.toNat i * 15 + 6) = intAt ds (off + Int.toNat i * 15 + 6) ∧ intAt ds (off + Int.toNat i * 15 + 7) = intAt ds (off + Int.toNat i * 15 + 7) ∧ intAt ds (off + Int.toNat i * 15 + 8) = intAt ds (off + Int.toNat i * 15 + 8) ∧ intAt ds (off + Int.toNat i * 15 + 9) = intAt ds (off + Int.toNat i * 15 + 9) ∧ intAt ds (off + Int.toNat i * 15 + 10) = intAt ds (off + Int.toNat i * 15 + 10) ∧ intAt ds (off + Int.toNat i * 15 + 11) = intAt ds (off + Int.toNat i * 15 + 11) ∧ intAt ds (off + Int.toNat i * 15 + 12) = intAt ds (off + Int.toNat i * 15 + 12) ∧ intAt ds (off + Int.toNat i * 15 + 13) = intAt ds (off + Int.toNat i * 15 + 13) ∧ intAt ds (off + Int.toNat i * 15 + 14) = intAt ds (off + Int.toNat i * 15 + 14) ∧ (32 : TypeId) = (32 : TypeId) ∧ ws = ws ∧ True)) ∧ (gdF ks (intAt ws ((0 : Nat) + Int.toNat n * 1)) = false → False)) := by kernel_rfl
omit [Gh] in
theorem tlF (off num : Nat) (ds : Array Value) (ty : TypeId) (i h e : Int) (ts us : Array Value) (o n : Nat) (cs ks : Array Value) (QB : Int → Int → Int → Array Value → Array Value → Prop) : sB_n off num ds ty QB (sP_F off num ds ty i h e ts us o n cs) ⟨5, ((sP_M off num ds ty i h e ts us o n cs).bl.set 3 (some ⟨.op ks, 41, true⟩)).set 4 none, []⟩ =
    (QB i h e ts ks ∧ CallKind.normal = CallKind.normal ∧ TodoOk (ren 1 [(1, 1), (2, 2), (3, 3)]) sB_d0 sB_d0 ∧ off = off ∧ num = num ∧ i = i ∧ e = e ∧ h = h ∧ ty = ty ∧ ds = ds ∧ (41 : TypeId) = (41 : TypeId) ∧ ts = ts ∧ (41 : TypeId) = (41 : TypeId) ∧ ks = ks ∧ (59 : TypeId) = (59 : TypeId) ∧ intAt ds (off + Int.toNat i * 15) = intAt ds (off + Int.toNat i * 15) ∧ intAt ds (off + Int.toNat i * 15 + 1) = intAt ds (off + Int.toNat i * 15 + 1) ∧ intAt ds (off + Int.toNat i * 15 + 2) = intAt ds (off + Int.toNat i * 15 + 2) ∧ intAt ds (off + Int.toNat i * 15 + 3) = intAt ds (off + Int.toNat i * 15 + 3) ∧ intAt ds (off + Int.toNat i * 15 + 4) = intAt ds (off + Int.toNat i * 15 + 4) ∧ valAt ds (off + Int.toNat i * 15 + 5) = valAt ds (off + Int.toNat i * 15 + 5) ∧ intAt ds (off + Int.toNat i * 15 + 6) = intAt ds (off + Int.toNat i * 15 + 6) ∧ intAt ds (off + Int.toNat i * 15 + 7) = intAt ds (off + Int.toNat i * 15 + 7) ∧ intAt ds (off + Int.toNat i * 15 + 8) = intAt ds (off + Int.toNat i * 15 + 8) ∧ intAt ds (off + Int.toNat i * 15 + 9) = intAt ds (off + Int.toNat i * 15 + 9) ∧ intAt ds (off + Int.toNat i * 15 + 10) = intAt ds (off + Int.toNat i * 15 + 10) ∧ intAt ds (off + Int.toNat i * 15 + 11) = intAt ds (off + Int.toNat i * 15 + 11) ∧ intAt ds (off + Int.toNat i * 15 + 12) = intAt ds (off + Int.toNat i * 15 + 12) ∧ intAt ds (off + Int.toNat i * 15 + 13) = intAt ds (off + Int.toNat i * 15 + 13) ∧ intAt ds (off + Int.toNat i * 15 + 14) = intAt ds (off + Int.toNat i * 15 + 14) ∧ True) := by kernel_rfl
theorem tb_vc (off : Nat) (num : Nat) (ds : Array Value) (ty : TypeId) (i : Int) (h : Int) (e : Int) (ts : Array Value) (ks : Array Value) (QsC : Int → Int → Int → Int → Array Value → Array Value → Nat → Array Value → Prop) (QsD : Int → Array Value → Array Value → Prop) : (tb_t off num ds ty i h e ts ks).vc ((isB true)) (tb_x off num ds ty i h e ts ks QsC QsD) =
    ((Array.size ts = (448 : Nat) ∧ True) ∧ (64 ≤ Array.size ts ∧ True) ∧ (BkOk (Array.extract ts (0 : Nat) (64)) ∧ True) ∧ (decide (List.length (issued (Array.extract ts (0 : Nat) (64))) = (0 : Nat)) = true → QsD i ts ks ∧ CallKind.normal = CallKind.normal ∧ TodoOk (ren 1 [(1, 1), (3, 3)]) sD_d0 sD_d0 ∧ off = off ∧ num = num ∧ i = i ∧ ty = ty ∧ ds = ds ∧ (41 : TypeId) = (41 : TypeId) ∧ ts = ts ∧ (41 : TypeId) = (41 : TypeId) ∧ ks = ks ∧ True) ∧ (decide (List.length (issued (Array.extract ts (0 : Nat) (64))) = (0 : Nat)) = false → (decide ((0 : Int) < (↑(List.length (issued (Array.extract ts (0 : Nat) (64)))) : Int)) = true → QsC i h e (0 : Int) ts ks (List.length (issued (Array.extract ts (0 : Nat) (64)))) (u32s (issued (Array.extract ts (0 : Nat) (64)))) ∧ CallKind.normal = CallKind.normal ∧ TodoOk (ren 1 [(1, 1), (2, 2), (3, 3), (4, 5)]) sC_d0 sC_d0 ∧ off = off ∧ num = num ∧ List.length (issued (Array.extract ts (0 : Nat) (64))) = List.length (issued (Array.extract ts (0 : Nat) (64))) ∧ i = i ∧ e = e ∧ h = h ∧ (0 : Int) = (0 : Int) ∧ ty = ty ∧ ds = ds ∧ (41 : TypeId) = (41 : TypeId) ∧ ts = ts ∧ (41 : TypeId) = (41 : TypeId) ∧ ks = ks ∧ (59 : TypeId) = (59 : TypeId) ∧ intAt ds (off + Int.toNat i * 15) = intAt ds (off + Int.toNat i * 15) ∧ intAt ds (off + Int.toNat i * 15 + 1) = intAt ds (off + Int.toNat i * 15 + 1) ∧ intAt ds (off + Int.toNat i * 15 + 2) = intAt ds (off + Int.toNat i * 15 + 2) ∧ intAt ds (off + Int.toNat i * 15 + 3) = intAt ds (off + Int.toNat i * 15 + 3) ∧ intAt ds (off + Int.toNat i * 15 + 4) = intAt ds (off + Int.toNat i * 15 + 4) ∧ valAt ds (off + Int.toNat i * 15 + 5) = valAt ds (off + Int.toNat i * 15 + 5) ∧ intAt ds (off + Int.toNat i * 15 + 6) = intAt ds (off + Int.toNat i * 15 + 6) ∧ intAt ds (off + Int.toNat i * 15 + 7) = intAt ds (off + Int.toNat i * 15 + 7) ∧ intAt ds (off + Int.toNat i * 15 + 8) = intAt ds (off + Int.toNat i * 15 + 8) ∧ intAt ds (off + Int.toNat i * 15 + 9) = intAt ds (off + Int.toNat i * 15 + 9) ∧ intAt ds (off + Int.toNat i * 15 + 10) = intAt ds (off + Int.toNat i * 15 + 10) ∧ intAt ds (off + Int.toNat i * 15 + 11) = intAt ds (off + Int.toNat i * 15 + 11) ∧ intAt ds (off + Int.toNat i * 15 + 12) = intAt ds (off + Int.toNat i * 15 + 12) ∧ intAt ds (off + Int.toNat i * 15 + 13) = intAt ds (off + Int.toNat i * 15 + 13) ∧ intAt ds (off + Int.toNat i * 15 + 14) = intAt ds (off + Int.toNat i * 15 + 14) ∧ (32 : TypeId) = (32 : TypeId) ∧ u32s (issued (Array.extract ts (0 : Nat) (64))) = u32s (issued (Array.extract ts (0 : Nat) (64))) ∧ True) ∧ (decide ((0 : Int) < (↑(List.length (issued (Array.extract ts (0 : Nat) (64)))) : Int)) = false → QsD i ts ks ∧ CallKind.normal = CallKind.normal ∧ TodoOk (ren 1 [(1, 1), (3, 3)]) sD_d0 sD_d0 ∧ off = off ∧ num = num ∧ i = i ∧ ty = ty ∧ ds = ds ∧ (41 : TypeId) = (41 : TypeId) ∧ ts = ts ∧ (41 : TypeId) = (41 : TypeId) ∧ ks = ks ∧ True))) := by kernel_rfl
theorem th_vc (off : Nat) (num : Nat) (ds : Array Value) (ty : TypeId) (i : Int) (h : Int) (e : Int) (n : Int) (ts : Array Value) (ks : Array Value) (k : Nat) (ws : Array Value) (QsC : Int → Int → Int → Int → Array Value → Array Value → Nat → Array Value → Prop) (QsD : Int → Array Value → Array Value → Prop) : (th_t off num ds ty i h e n ts ks k ws).vc ((isB true)) (th_x off num ds ty i h e n ts ks k ws QsC QsD) =
    ((((e == (0 : Int)) == true) = true → (((intAt ds (off + Int.toNat i * 15) == (0 : Int)) == true) = true → (((upF ts (intAt ws (Int.toNat n)) == h) == true) = true → (true = true → (true = true → (((quF ts (intAt ws (Int.toNat n)) != quF ks (intAt ws (Int.toNat n))) == false) = true → (((!(ceF ts (intAt ws (Int.toNat n)) (0 : Nat) == ceF ks (intAt ws (Int.toNat n)) (0 : Nat) && (ceF ts (intAt ws (Int.toNat n)) (1 : Nat) == ceF ks (intAt ws (Int.toNat n)) (1 : Nat) && (ceF ts (intAt ws (Int.toNat n)) (2 : Nat) == ceF ks (intAt ws (Int.toNat n)) (2 : Nat) && (ceF ts (intAt ws (Int.toNat n)) (3 : Nat) == ceF ks (intAt ws (Int.toNat n)) (3 : Nat) && (ceF ts (intAt ws (Int.toNat n)) (4 : Nat) == ceF ks (intAt ws (Int.toNat n)) (4 : Nat) && (ceF ts (intAt ws (Int.toNat n)) (5 : Nat) == ceF ks (intAt ws (Int.toNat n)) (5 : Nat) && (ceF ts (intAt ws (Int.toNat n)) (6 : Nat) == ceF ks (intAt ws (Int.toNat n)) (6 : Nat) && ceF ts (intAt ws (Int.toNat n)) (7 : Nat) == ceF ks (intAt ws (Int.toNat n)) (7 : Nat))))))))) == false) = true → (((lnF ts (intAt ws (Int.toNat n)) != lnF ks (intAt ws (Int.toNat n))) == false) = true → (((upF ts (intAt ws (Int.toNat n)) != upF ks (intAt ws (Int.toNat n))) == true) = true → (((h != (0 : Int)) == true) = true → ((!upF ks (intAt ws (Int.toNat n)) == (0 : Int)) = true → false = true) ∧ ((!upF ks (intAt ws (Int.toNat n)) == (0 : Int)) = false → (decide (ari BinOp.add IntKind.i64 n (1 : Int) < (↑k : Int)) = true → QsC i h e (ari BinOp.add IntKind.i64 n (1 : Int)) ts ks k ws ∧ CallKind.normal = CallKind.normal ∧ TodoOk (ren 1 [(1, 1), (2, 2), (3, 3), (4, 4)]) sC_d0 sC_d0 ∧ off = off ∧ num = num ∧ k = k ∧ i = i ∧ e = e ∧ h = h ∧ ari BinOp.add IntKind.i64 n (1 : Int) = ari BinOp.add IntKind.i64 n (1 : Int) ∧ ty = ty ∧ ds = ds ∧ (41 : TypeId) = (41 : TypeId) ∧ ts = ts ∧ (41 : TypeId) = (41 : TypeId) ∧ ks = ks ∧ (59 : TypeId) = (59 : TypeId) ∧ intAt ds (off + Int.toNat i * 15) = intAt ds (off + Int.toNat i * 15) ∧ intAt ds (off + Int.toNat i * 15 + 1) = intAt ds (off + Int.toNat i * 15 + 1) ∧ intAt ds (off + Int.toNat i * 15 + 2) = intAt ds (off + Int.toNat i * 15 + 2) ∧ intAt ds (off + Int.toNat i * 15 + 3) = intAt ds (off + Int.toNat i * 15 + 3) ∧ intAt ds (off + Int.toNat i * 15 + 4) = intAt ds (off + Int.toNat i * 15 + 4) ∧ valAt ds (off + Int.toNat i * 15 + 5) = valAt ds (off + Int.toNat i * 15 + 5) ∧ intAt ds (off + Int.toNat i * 15 + 6) = intAt ds (off + Int.toNat i * 15 + 6) ∧ intAt ds (off + Int.toNat i * 15 + 7) = intAt ds (off + Int.toNat i * 15 + 7) ∧ intAt ds (off + Int.toNat i * 15 + 8) = intAt ds (off + Int.toNat i * 15 + 8) ∧ intAt ds (off + Int.toNat i * 15 + 9) = intAt ds (off + Int.toNat i * 15 + 9) ∧ intAt ds (off + Int.toNat i * 15 + 10) = intAt ds (off + Int.toNat i * 15 + 10) ∧ intAt ds (off + Int.toNat i * 15 + 11) = intAt ds (off + Int.toNat i * 15 + 11) ∧ intAt ds (off + Int.toNat i * 15 + 12) = intAt ds (off + Int.toNat i * 15 + 12) ∧ intAt ds (off + Int.toNat i * 15 + 13) = intAt ds (off + Int.toNat i * 15 + 13) ∧ intAt ds (off + Int.toNat i * 15 + 14) = intAt ds (off + Int.toNat i * 15 + 14) ∧ (32 : TypeId) = (32 : TypeId) ∧ ws = ws ∧ True) ∧ (decide (ari BinOp.add IntKind.i64 n (1 : Int) < (↑k : Int)) = false → QsD i ts ks ∧ CallKind.normal = CallKind.normal ∧ TodoOk (ren 1 [(1, 1), (3, 3)]) sD_d0 sD_d0 ∧ off = off ∧ num = num ∧ i = i ∧ ty = ty ∧ ds = ds ∧ (41 : TypeId) = (41 : TypeId) ∧ ts = ts ∧ (41 : TypeId) = (41 : TypeId) ∧ ks = ks ∧ True))) ∧ (((h != (0 : Int)) == true) = false → false = true)) ∧ (((upF ts (intAt ws (Int.toNat n)) != upF ks (intAt ws (Int.toNat n))) == true) = false → (decide (ari BinOp.add IntKind.i64 n (1 : Int) < (↑k : Int)) = true → QsC i h e (ari BinOp.add IntKind.i64 n (1 : Int)) ts ks k ws ∧ CallKind.normal = CallKind.normal ∧ TodoOk (ren 1 [(1, 1), (2, 2), (3, 3), (4, 4)]) sC_d0 sC_d0 ∧ off = off ∧ num = num ∧ k = k ∧ i = i ∧ e = e ∧ h = h ∧ ari BinOp.add IntKind.i64 n (1 : Int) = ari BinOp.add IntKind.i64 n (1 : Int) ∧ ty = ty ∧ ds = ds ∧ (41 : TypeId) = (41 : TypeId) ∧ ts = ts ∧ (41 : TypeId) = (41 : TypeId) ∧ ks = ks ∧ (59 : TypeId) = (59 : TypeId) ∧ intAt ds (off + Int.toNat i * 15) = intAt ds (off + Int.toNat i * 15) ∧ intAt ds (off + Int.toNat i * 15 + 1) = intAt ds (off + Int.toNat i * 15 + 1) ∧ intAt ds (off + Int.toNat i * 15 + 2) = intAt ds (off + Int.toNat i * 15 + 2) ∧ intAt ds (off + Int.toNat i * 15 + 3) = intAt ds (off + Int.toNat i * 15 + 3) ∧ intAt ds (off + Int.toNat i * 15 + 4) = intAt ds (off + Int.toNat i * 15 + 4) ∧ valAt ds (off + Int.toNat i * 15 + 5) = valAt ds (off + Int.toNat i * 15 + 5) ∧ intAt ds (off + Int.toNat i * 15 + 6) = intAt ds (off + Int.toNat i * 15 + 6) ∧ intAt ds (off + Int.toNat i * 15 + 7) = intAt ds (off + Int.toNat i * 15 + 7) ∧ intAt ds (off + Int.toNat i * 15 + 8) = intAt ds (off + Int.toNat i * 15 + 8) ∧ intAt ds (off + Int.toNat i * 15 + 9) = intAt ds (off + Int.toNat i * 15 + 9) ∧ intAt ds (off + Int.toNat i * 15 + 10) = intAt ds (off + Int.toNat i * 15 + 10) ∧ intAt ds (off + Int.toNat i * 15 + 11) = intAt ds (off + Int.toNat i * 15 + 11) ∧ intAt ds (off + Int.toNat i * 15 + 12) = intAt ds (off + Int.toNat i * 15 + 12) ∧ intAt ds (off + Int.toNat i * 15 + 13) = intAt ds (off + Int.toNat i * 15 + 13) ∧ intAt ds (off + Int.toNat i * 15 + 14) = intAt ds (off + Int.toNat i * 15 + 14) ∧ (32 : TypeId) = (32 : TypeId) ∧ ws = ws ∧ True) ∧ (decide (ari BinOp.add IntKind.i64 n (1 : Int) < (↑k : Int)) = false → QsD i ts ks ∧ CallKind.normal = CallKind.normal ∧ TodoOk (ren 1 [(1, 1), (3, 3)]) sD_d0 sD_d0 ∧ off = off ∧ num = num ∧ i = i ∧ ty = ty ∧ ds = ds ∧ (41 : TypeId) = (41 : TypeId) ∧ ts = ts ∧ (41 : TypeId) = (41 : TypeId) ∧ ks = ks ∧ True))) ∧ (((lnF ts (intAt ws (Int.toNat n)) != lnF ks (intAt ws (Int.toNat n))) == false) = false → false = true)) ∧ (((!(ceF ts (intAt ws (Int.toNat n)) (0 : Nat) == ceF ks (intAt ws (Int.toNat n)) (0 : Nat) && (ceF ts (intAt ws (Int.toNat n)) (1 : Nat) == ceF ks (intAt ws (Int.toNat n)) (1 : Nat) && (ceF ts (intAt ws (Int.toNat n)) (2 : Nat) == ceF ks (intAt ws (Int.toNat n)) (2 : Nat) && (ceF ts (intAt ws (Int.toNat n)) (3 : Nat) == ceF ks (intAt ws (Int.toNat n)) (3 : Nat) && (ceF ts (intAt ws (Int.toNat n)) (4 : Nat) == ceF ks (intAt ws (Int.toNat n)) (4 : Nat) && (ceF ts (intAt ws (Int.toNat n)) (5 : Nat) == ceF ks (intAt ws (Int.toNat n)) (5 : Nat) && (ceF ts (intAt ws (Int.toNat n)) (6 : Nat) == ceF ks (intAt ws (Int.toNat n)) (6 : Nat) && ceF ts (intAt ws (Int.toNat n)) (7 : Nat) == ceF ks (intAt ws (Int.toNat n)) (7 : Nat))))))))) == false) = false → false = true)) ∧ (((quF ts (intAt ws (Int.toNat n)) != quF ks (intAt ws (Int.toNat n))) == false) = false → false = true)) ∧ (true = false → false = true)) ∧ (true = false → false = true)) ∧ (((upF ts (intAt ws (Int.toNat n)) == h) == true) = false → (true = true → (true = true → (((quF ts (intAt ws (Int.toNat n)) != quF ks (intAt ws (Int.toNat n))) == false) = true → (((!(ceF ts (intAt ws (Int.toNat n)) (0 : Nat) == ceF ks (intAt ws (Int.toNat n)) (0 : Nat) && (ceF ts (intAt ws (Int.toNat n)) (1 : Nat) == ceF ks (intAt ws (Int.toNat n)) (1 : Nat) && (ceF ts (intAt ws (Int.toNat n)) (2 : Nat) == ceF ks (intAt ws (Int.toNat n)) (2 : Nat) && (ceF ts (intAt ws (Int.toNat n)) (3 : Nat) == ceF ks (intAt ws (Int.toNat n)) (3 : Nat) && (ceF ts (intAt ws (Int.toNat n)) (4 : Nat) == ceF ks (intAt ws (Int.toNat n)) (4 : Nat) && (ceF ts (intAt ws (Int.toNat n)) (5 : Nat) == ceF ks (intAt ws (Int.toNat n)) (5 : Nat) && (ceF ts (intAt ws (Int.toNat n)) (6 : Nat) == ceF ks (intAt ws (Int.toNat n)) (6 : Nat) && ceF ts (intAt ws (Int.toNat n)) (7 : Nat) == ceF ks (intAt ws (Int.toNat n)) (7 : Nat))))))))) == false) = true → (((lnF ts (intAt ws (Int.toNat n)) != lnF ks (intAt ws (Int.toNat n))) == false) = true → (((upF ts (intAt ws (Int.toNat n)) != upF ks (intAt ws (Int.toNat n))) == true) = true → false = true) ∧ (((upF ts (intAt ws (Int.toNat n)) != upF ks (intAt ws (Int.toNat n))) == true) = false → (decide (ari BinOp.add IntKind.i64 n (1 : Int) < (↑k : Int)) = true → QsC i h e (ari BinOp.add IntKind.i64 n (1 : Int)) ts ks k ws ∧ CallKind.normal = CallKind.normal ∧ TodoOk (ren 1 [(1, 1), (2, 2), (3, 3), (4, 4)]) sC_d0 sC_d0 ∧ off = off ∧ num = num ∧ k = k ∧ i = i ∧ e = e ∧ h = h ∧ ari BinOp.add IntKind.i64 n (1 : Int) = ari BinOp.add IntKind.i64 n (1 : Int) ∧ ty = ty ∧ ds = ds ∧ (41 : TypeId) = (41 : TypeId) ∧ ts = ts ∧ (41 : TypeId) = (41 : TypeId) ∧ ks = ks ∧ (59 : TypeId) = (59 : TypeId) ∧ intAt ds (off + Int.toNat i * 15) = intAt ds (off + Int.toNat i * 15) ∧ intAt ds (off + Int.toNat i * 15 + 1) = intAt ds (off + Int.toNat i * 15 + 1) ∧ intAt ds (off + Int.toNat i * 15 + 2) = intAt ds (off + Int.toNat i * 15 + 2) ∧ intAt ds (off + Int.toNat i * 15 + 3) = intAt ds (off + Int.toNat i * 15 + 3) ∧ intAt ds (off + Int.toNat i * 15 + 4) = intAt ds (off + Int.toNat i * 15 + 4) ∧ valAt ds (off + Int.toNat i * 15 + 5) = valAt ds (off + Int.toNat i * 15 + 5) ∧ intAt ds (off + Int.toNat i * 15 + 6) = intAt ds (off + Int.toNat i * 15 + 6) ∧ intAt ds (off + Int.toNat i * 15 + 7) = intAt ds (off + Int.toNat i * 15 + 7) ∧ intAt ds (off + Int.toNat i * 15 + 8) = intAt ds (off + Int.toNat i * 15 + 8) ∧ intAt ds (off + Int.toNat i * 15 + 9) = intAt ds (off + Int.toNat i * 15 + 9) ∧ intAt ds (off + Int.toNat i * 15 + 10) = intAt ds (off + Int.toNat i * 15 + 10) ∧ intAt ds (off + Int.toNat i * 15 + 11) = intAt ds (off + Int.toNat i * 15 + 11) ∧ intAt ds (off + Int.toNat i * 15 + 12) = intAt ds (off + Int.toNat i * 15 + 12) ∧ intAt ds (off + Int.toNat i * 15 + 13) = intAt ds (off + Int.toNat i * 15 + 13) ∧ intAt ds (off + Int.toNat i * 15 + 14) = intAt ds (off + Int.toNat i * 15 + 14) ∧ (32 : TypeId) = (32 : TypeId) ∧ ws = ws ∧ True) ∧ (decide (ari BinOp.add IntKind.i64 n (1 : Int) < (↑k : Int)) = false → QsD i ts ks ∧ CallKind.normal = CallKind.normal ∧ TodoOk (ren 1 [(1, 1), (3, 3)]) sD_d0 sD_d0 ∧ off = off ∧ num = num ∧ i = i ∧ ty = ty ∧ ds = ds ∧ (41 : TypeId) = (41 : TypeId) ∧ ts = ts ∧ (41 : TypeId) = (41 : TypeId) ∧ ks = ks ∧ True))) ∧ (((lnF ts (intAt ws (Int.toNat n)) != lnF ks (intAt ws (Int.toNat n))) == false) = false → false = true)) ∧ (((!(ceF ts (intAt ws (Int.toNat n)) (0 : Nat) == ceF ks (intAt ws (Int.toNat n)) (0 : Nat) && (ceF ts (intAt ws (Int.toNat n)) (1 : Nat) == ceF ks (intAt ws (Int.toNat n)) (1 : Nat) && (ceF ts (intAt ws (Int.toNat n)) (2 : Nat) == ceF ks (intAt ws (Int.toNat n)) (2 : Nat) && (ceF ts (intAt ws (Int.toNat n)) (3 : Nat) == ceF ks (intAt ws (Int.toNat n)) (3 : Nat) && (ceF ts (intAt ws (Int.toNat n)) (4 : Nat) == ceF ks (intAt ws (Int.toNat n)) (4 : Nat) && (ceF ts (intAt ws (Int.toNat n)) (5 : Nat) == ceF ks (intAt ws (Int.toNat n)) (5 : Nat) && (ceF ts (intAt ws (Int.toNat n)) (6 : Nat) == ceF ks (intAt ws (Int.toNat n)) (6 : Nat) && ceF ts (intAt ws (Int.toNat n)) (7 : Nat) == ceF ks (intAt ws (Int.toNat n)) (7 : Nat))))))))) == false) = false → false = true)) ∧ (((quF ts (intAt ws (Int.toNat n)) != quF ks (intAt ws (Int.toNat n))) == false) = false → false = true)) ∧ (true = false → false = true)) ∧ (true = false → false = true))) ∧ (((intAt ds (off + Int.toNat i * 15) == (0 : Int)) == true) = false → (true = true → (true = true → (((quF ts (intAt ws (Int.toNat n)) != quF ks (intAt ws (Int.toNat n))) == false) = true → (((!(ceF ts (intAt ws (Int.toNat n)) (0 : Nat) == ceF ks (intAt ws (Int.toNat n)) (0 : Nat) && (ceF ts (intAt ws (Int.toNat n)) (1 : Nat) == ceF ks (intAt ws (Int.toNat n)) (1 : Nat) && (ceF ts (intAt ws (Int.toNat n)) (2 : Nat) == ceF ks (intAt ws (Int.toNat n)) (2 : Nat) && (ceF ts (intAt ws (Int.toNat n)) (3 : Nat) == ceF ks (intAt ws (Int.toNat n)) (3 : Nat) && (ceF ts (intAt ws (Int.toNat n)) (4 : Nat) == ceF ks (intAt ws (Int.toNat n)) (4 : Nat) && (ceF ts (intAt ws (Int.toNat n)) (5 : Nat) == ceF ks (intAt ws (Int.toNat n)) (5 : Nat) && (ceF ts (intAt ws (Int.toNat n)) (6 : Nat) == ceF ks (intAt ws (Int.toNat n)) (6 : Nat) && ceF ts (intAt ws (Int.toNat n)) (7 : Nat) == ceF ks (intAt ws (Int.toNat n)) (7 : Nat))))))))) == false) = true → (((lnF ts (intAt ws (Int.toNat n)) != lnF ks (intAt ws (Int.toNat n))) == false) = true → (((upF ts (intAt ws (Int.toNat n)) != upF ks (intAt ws (Int.toNat n))) == true) = true → false = true) ∧ (((upF ts (intAt ws (Int.toNat n)) != upF ks (intAt ws (Int.toNat n))) == true) = false → (decide (ari BinOp.add IntKind.i64 n (1 : Int) < (↑k : Int)) = true → QsC i h e (ari BinOp.add IntKind.i64 n (1 : Int)) ts ks k ws ∧ CallKind.normal = CallKind.normal ∧ TodoOk (ren 1 [(1, 1), (2, 2), (3, 3), (4, 4)]) sC_d0 sC_d0 ∧ off = off ∧ num = num ∧ k = k ∧ i = i ∧ e = e ∧ h = h ∧ ari BinOp.add IntKind.i64 n (1 : Int) = ari BinOp.add IntKind.i64 n (1 : Int) ∧ ty = ty ∧ ds = ds ∧ (41 : TypeId) = (41 : TypeId) ∧ ts = ts ∧ (41 : TypeId) = (41 : TypeId) ∧ ks = ks ∧ (59 : TypeId) = (59 : TypeId) ∧ intAt ds (off + Int.toNat i * 15) = intAt ds (off + Int.toNat i * 15) ∧ intAt ds (off + Int.toNat i * 15 + 1) = intAt ds (off + Int.toNat i * 15 + 1) ∧ intAt ds (off + Int.toNat i * 15 + 2) = intAt ds (off + Int.toNat i * 15 + 2) ∧ intAt ds (off + Int.toNat i * 15 + 3) = intAt ds (off + Int.toNat i * 15 + 3) ∧ intAt ds (off + Int.toNat i * 15 + 4) = intAt ds (off + Int.toNat i * 15 + 4) ∧ valAt ds (off + Int.toNat i * 15 + 5) = valAt ds (off + Int.toNat i * 15 + 5) ∧ intAt ds (off + Int.toNat i * 15 + 6) = intAt ds (off + Int.toNat i * 15 + 6) ∧ intAt ds (off + Int.toNat i * 15 + 7) = intAt ds (off + Int.toNat i * 15 + 7) ∧ intAt ds (off + Int.toNat i * 15 + 8) = intAt ds (off + Int.toNat i * 15 + 8) ∧ intAt ds (off + Int.toNat i * 15 + 9) = intAt ds (off + Int.toNat i * 15 + 9) ∧ intAt ds (off + Int.toNat i * 15 + 10) = intAt ds (off + Int.toNat i * 15 + 10) ∧ intAt ds (off + Int.toNat i * 15 + 11) = intAt ds (off + Int.toNat i * 15 + 11) ∧ intAt ds (off + Int.toNat i * 15 + 12) = intAt ds (off + Int.toNat i * 15 + 12) ∧ intAt ds (off + Int.toNat i * 15 + 13) = intAt ds (off + Int.toNat i * 15 + 13) ∧ intAt ds (off + Int.toNat i * 15 + 14) = intAt ds (off + Int.toNat i * 15 + 14) ∧ (32 : TypeId) = (32 : TypeId) ∧ ws = ws ∧ True) ∧ (decide (ari BinOp.add IntKind.i64 n (1 : Int) < (↑k : Int)) = false → QsD i ts ks ∧ CallKind.normal = CallKind.normal ∧ TodoOk (ren 1 [(1, 1), (3, 3)]) sD_d0 sD_d0 ∧ off = off ∧ num = num ∧ i = i ∧ ty = ty ∧ ds = ds ∧ (41 : TypeId) = (41 : TypeId) ∧ ts = ts ∧ (41 : TypeId) = (41 : TypeId) ∧ ks = ks ∧ True))) ∧ (((lnF ts (intAt ws (Int.toNat n)) != lnF ks (intAt ws (Int.toNat n))) == false) = false → false = true)) ∧ (((!(ceF ts (intAt ws (Int.toNat n)) (0 : Nat) == ceF ks (intAt ws (Int.toNat n)) (0 : Nat) && (ceF ts (intAt ws (Int.toNat n)) (1 : Nat) == ceF ks (intAt ws (Int.toNat n)) (1 : Nat) && (ceF ts (intAt ws (Int.toNat n)) (2 : Nat) == ceF ks (intAt ws (Int.toNat n)) (2 : Nat) && (ceF ts (intAt ws (Int.toNat n)) (3 : Nat) == ceF ks (intAt ws (Int.toNat n)) (3 : Nat) && (ceF ts (intAt ws (Int.toNat n)) (4 : Nat) == ceF ks (intAt ws (Int.toNat n)) (4 : Nat) && (ceF ts (intAt ws (Int.toNat n)) (5 : Nat) == ceF ks (intAt ws (Int.toNat n)) (5 : Nat) && (ceF ts (intAt ws (Int.toNat n)) (6 : Nat) == ceF ks (intAt ws (Int.toNat n)) (6 : Nat) && ceF ts (intAt ws (Int.toNat n)) (7 : Nat) == ceF ks (intAt ws (Int.toNat n)) (7 : Nat))))))))) == false) = false → false = true)) ∧ (((quF ts (intAt ws (Int.toNat n)) != quF ks (intAt ws (Int.toNat n))) == false) = false → false = true)) ∧ (true = false → false = true)) ∧ (true = false → false = true))) ∧ (((e == (0 : Int)) == true) = false → (true = true → (true = true → (((quF ts (intAt ws (Int.toNat n)) != quF ks (intAt ws (Int.toNat n))) == false) = true → (((!(ceF ts (intAt ws (Int.toNat n)) (0 : Nat) == ceF ks (intAt ws (Int.toNat n)) (0 : Nat) && (ceF ts (intAt ws (Int.toNat n)) (1 : Nat) == ceF ks (intAt ws (Int.toNat n)) (1 : Nat) && (ceF ts (intAt ws (Int.toNat n)) (2 : Nat) == ceF ks (intAt ws (Int.toNat n)) (2 : Nat) && (ceF ts (intAt ws (Int.toNat n)) (3 : Nat) == ceF ks (intAt ws (Int.toNat n)) (3 : Nat) && (ceF ts (intAt ws (Int.toNat n)) (4 : Nat) == ceF ks (intAt ws (Int.toNat n)) (4 : Nat) && (ceF ts (intAt ws (Int.toNat n)) (5 : Nat) == ceF ks (intAt ws (Int.toNat n)) (5 : Nat) && (ceF ts (intAt ws (Int.toNat n)) (6 : Nat) == ceF ks (intAt ws (Int.toNat n)) (6 : Nat) && ceF ts (intAt ws (Int.toNat n)) (7 : Nat) == ceF ks (intAt ws (Int.toNat n)) (7 : Nat))))))))) == false) = true → (((lnF ts (intAt ws (Int.toNat n)) != lnF ks (intAt ws (Int.toNat n))) == false) = true → (((upF ts (intAt ws (Int.toNat n)) != upF ks (intAt ws (Int.toNat n))) == true) = true → false = true) ∧ (((upF ts (intAt ws (Int.toNat n)) != upF ks (intAt ws (Int.toNat n))) == true) = false → (decide (ari BinOp.add IntKind.i64 n (1 : Int) < (↑k : Int)) = true → QsC i h e (ari BinOp.add IntKind.i64 n (1 : Int)) ts ks k ws ∧ CallKind.normal = CallKind.normal ∧ TodoOk (ren 1 [(1, 1), (2, 2), (3, 3), (4, 4)]) sC_d0 sC_d0 ∧ off = off ∧ num = num ∧ k = k ∧ i = i ∧ e = e ∧ h = h ∧ ari BinOp.add IntKind.i64 n (1 : Int) = ari BinOp.add IntKind.i64 n (1 : Int) ∧ ty = ty ∧ ds = ds ∧ (41 : TypeId) = (41 : TypeId) ∧ ts = ts ∧ (41 : TypeId) = (41 : TypeId) ∧ ks = ks ∧ (59 : TypeId) = (59 : TypeId) ∧ intAt ds (off + Int.toNat i * 15) = intAt ds (off + Int.toNat i * 15) ∧ intAt ds (off + Int.toNat i * 15 + 1) = intAt ds (off + Int.toNat i * 15 + 1) ∧ intAt ds (off + Int.toNat i * 15 + 2) = intAt ds (off + Int.toNat i * 15 + 2) ∧ intAt ds (off + Int.toNat i * 15 + 3) = intAt ds (off + Int.toNat i * 15 + 3) ∧ intAt ds (off + Int.toNat i * 15 + 4) = intAt ds (off + Int.toNat i * 15 + 4) ∧ valAt ds (off + Int.toNat i * 15 + 5) = valAt ds (off + Int.toNat i * 15 + 5) ∧ intAt ds (off + Int.toNat i * 15 + 6) = intAt ds (off + Int.toNat i * 15 + 6) ∧ intAt ds (off + Int.toNat i * 15 + 7) = intAt ds (off + Int.toNat i * 15 + 7) ∧ intAt ds (off + Int.toNat i * 15 + 8) = intAt ds (off + Int.toNat i * 15 + 8) ∧ intAt ds (off + Int.toNat i * 15 + 9) = intAt ds (off + Int.toNat i * 15 + 9) ∧ intAt ds (off + Int.toNat i * 15 + 10) = intAt ds (off + Int.toNat i * 15 + 10) ∧ intAt ds (off + Int.toNat i * 15 + 11) = intAt ds (off + Int.toNat i * 15 + 11) ∧ intAt ds (off + Int.toNat i * 15 + 12) = intAt ds (off + Int.toNat i * 15 + 12) ∧ intAt ds (off + Int.toNat i * 15 + 13) = intAt ds (off + Int.toNat i * 15 + 13) ∧ intAt ds (off + Int.toNat i * 15 + 14) = intAt ds (off + Int.toNat i * 15 + 14) ∧ (32 : TypeId) = (32 : TypeId) ∧ ws = ws ∧ True) ∧ (decide (ari BinOp.add IntKind.i64 n (1 : Int) < (↑k : Int)) = false → QsD i ts ks ∧ CallKind.normal = CallKind.normal ∧ TodoOk (ren 1 [(1, 1), (3, 3)]) sD_d0 sD_d0 ∧ off = off ∧ num = num ∧ i = i ∧ ty = ty ∧ ds = ds ∧ (41 : TypeId) = (41 : TypeId) ∧ ts = ts ∧ (41 : TypeId) = (41 : TypeId) ∧ ks = ks ∧ True))) ∧ (((lnF ts (intAt ws (Int.toNat n)) != lnF ks (intAt ws (Int.toNat n))) == false) = false → false = true)) ∧ (((!(ceF ts (intAt ws (Int.toNat n)) (0 : Nat) == ceF ks (intAt ws (Int.toNat n)) (0 : Nat) && (ceF ts (intAt ws (Int.toNat n)) (1 : Nat) == ceF ks (intAt ws (Int.toNat n)) (1 : Nat) && (ceF ts (intAt ws (Int.toNat n)) (2 : Nat) == ceF ks (intAt ws (Int.toNat n)) (2 : Nat) && (ceF ts (intAt ws (Int.toNat n)) (3 : Nat) == ceF ks (intAt ws (Int.toNat n)) (3 : Nat) && (ceF ts (intAt ws (Int.toNat n)) (4 : Nat) == ceF ks (intAt ws (Int.toNat n)) (4 : Nat) && (ceF ts (intAt ws (Int.toNat n)) (5 : Nat) == ceF ks (intAt ws (Int.toNat n)) (5 : Nat) && (ceF ts (intAt ws (Int.toNat n)) (6 : Nat) == ceF ks (intAt ws (Int.toNat n)) (6 : Nat) && ceF ts (intAt ws (Int.toNat n)) (7 : Nat) == ceF ks (intAt ws (Int.toNat n)) (7 : Nat))))))))) == false) = false → false = true)) ∧ (((quF ts (intAt ws (Int.toNat n)) != quF ks (intAt ws (Int.toNat n))) == false) = false → false = true)) ∧ (true = false → false = true)) ∧ (true = false → false = true))) := by kernel_rfl
theorem tq_vc (off : Nat) (num : Nat) (ds : Array Value) (ty : TypeId) (i : Int) (h : Int) (e : Int) (n : Int) (ts : Array Value) (ks : Array Value) (k : Nat) (ws : Array Value) (a : Nat) (b : Nat) (QsC : Int → Int → Int → Int → Array Value → Array Value → Nat → Array Value → Prop) (QsD : Int → Array Value → Array Value → Prop) : (tq_t off num ds ty i h e n ts ks k ws a b).vc ((isB true)) (tq_x off num ds ty i h e n ts ks k ws a b QsC QsD) =
    ((((e == (0 : Int)) == true) = true → (((intAt ds (off + Int.toNat i * 15) == (0 : Int)) == true) = true → (((upF ts (intAt ws (Int.toNat n)) == h) == true) = true → (true = true → (true = true → (((quF ts (intAt ws (Int.toNat n)) != quF ks (intAt ws (Int.toNat n))) == false) = true → (((!(ceF ts (intAt ws (Int.toNat n)) (0 : Nat) == ceF ks (intAt ws (Int.toNat n)) (0 : Nat) && (ceF ts (intAt ws (Int.toNat n)) (1 : Nat) == ceF ks (intAt ws (Int.toNat n)) (1 : Nat) && (ceF ts (intAt ws (Int.toNat n)) (2 : Nat) == ceF ks (intAt ws (Int.toNat n)) (2 : Nat) && (ceF ts (intAt ws (Int.toNat n)) (3 : Nat) == ceF ks (intAt ws (Int.toNat n)) (3 : Nat) && (ceF ts (intAt ws (Int.toNat n)) (4 : Nat) == ceF ks (intAt ws (Int.toNat n)) (4 : Nat) && (ceF ts (intAt ws (Int.toNat n)) (5 : Nat) == ceF ks (intAt ws (Int.toNat n)) (5 : Nat) && (ceF ts (intAt ws (Int.toNat n)) (6 : Nat) == ceF ks (intAt ws (Int.toNat n)) (6 : Nat) && ceF ts (intAt ws (Int.toNat n)) (7 : Nat) == ceF ks (intAt ws (Int.toNat n)) (7 : Nat))))))))) == false) = true → (((lnF ts (intAt ws (Int.toNat n)) != lnF ks (intAt ws (Int.toNat n))) == false) = true → ((((↑a : Int) != (↑b : Int)) == false) = true → (((upF ts (intAt ws (Int.toNat n)) != upF ks (intAt ws (Int.toNat n))) == true) = true → (((h != (0 : Int)) == true) = true → ((!upF ks (intAt ws (Int.toNat n)) == (0 : Int)) = true → false = true) ∧ ((!upF ks (intAt ws (Int.toNat n)) == (0 : Int)) = false → (decide (ari BinOp.add IntKind.i64 n (1 : Int) < (↑k : Int)) = true → QsC i h e (ari BinOp.add IntKind.i64 n (1 : Int)) ts ks k ws ∧ CallKind.normal = CallKind.normal ∧ TodoOk (ren 1 [(1, 1), (2, 2), (3, 3), (4, 4)]) sC_d0 sC_d0 ∧ off = off ∧ num = num ∧ k = k ∧ i = i ∧ e = e ∧ h = h ∧ ari BinOp.add IntKind.i64 n (1 : Int) = ari BinOp.add IntKind.i64 n (1 : Int) ∧ ty = ty ∧ ds = ds ∧ (41 : TypeId) = (41 : TypeId) ∧ ts = ts ∧ (41 : TypeId) = (41 : TypeId) ∧ ks = ks ∧ (59 : TypeId) = (59 : TypeId) ∧ intAt ds (off + Int.toNat i * 15) = intAt ds (off + Int.toNat i * 15) ∧ intAt ds (off + Int.toNat i * 15 + 1) = intAt ds (off + Int.toNat i * 15 + 1) ∧ intAt ds (off + Int.toNat i * 15 + 2) = intAt ds (off + Int.toNat i * 15 + 2) ∧ intAt ds (off + Int.toNat i * 15 + 3) = intAt ds (off + Int.toNat i * 15 + 3) ∧ intAt ds (off + Int.toNat i * 15 + 4) = intAt ds (off + Int.toNat i * 15 + 4) ∧ valAt ds (off + Int.toNat i * 15 + 5) = valAt ds (off + Int.toNat i * 15 + 5) ∧ intAt ds (off + Int.toNat i * 15 + 6) = intAt ds (off + Int.toNat i * 15 + 6) ∧ intAt ds (off + Int.toNat i * 15 + 7) = intAt ds (off + Int.toNat i * 15 + 7) ∧ intAt ds (off + Int.toNat i * 15 + 8) = intAt ds (off + Int.toNat i * 15 + 8) ∧ intAt ds (off + Int.toNat i * 15 + 9) = intAt ds (off + Int.toNat i * 15 + 9) ∧ intAt ds (off + Int.toNat i * 15 + 10) = intAt ds (off + Int.toNat i * 15 + 10) ∧ intAt ds (off + Int.toNat i * 15 + 11) = intAt ds (off + Int.toNat i * 15 + 11) ∧ intAt ds (off + Int.toNat i * 15 + 12) = intAt ds (off + Int.toNat i * 15 + 12) ∧ intAt ds (off + Int.toNat i * 15 + 13) = intAt ds (off + Int.toNat i * 15 + 13) ∧ intAt ds (off + Int.toNat i * 15 + 14) = intAt ds (off + Int.toNat i * 15 + 14) ∧ (32 : TypeId) = (32 : TypeId) ∧ ws = ws ∧ True) ∧ (decide (ari BinOp.add IntKind.i64 n (1 : Int) < (↑k : Int)) = false → QsD i ts ks ∧ CallKind.normal = CallKind.normal ∧ TodoOk (ren 1 [(1, 1), (3, 3)]) sD_d0 sD_d0 ∧ off = off ∧ num = num ∧ i = i ∧ ty = ty ∧ ds = ds ∧ (41 : TypeId) = (41 : TypeId) ∧ ts = ts ∧ (41 : TypeId) = (41 : TypeId) ∧ ks = ks ∧ True))) ∧ (((h != (0 : Int)) == true) = false → false = true)) ∧ (((upF ts (intAt ws (Int.toNat n)) != upF ks (intAt ws (Int.toNat n))) == true) = false → (decide (ari BinOp.add IntKind.i64 n (1 : Int) < (↑k : Int)) = true → QsC i h e (ari BinOp.add IntKind.i64 n (1 : Int)) ts ks k ws ∧ CallKind.normal = CallKind.normal ∧ TodoOk (ren 1 [(1, 1), (2, 2), (3, 3), (4, 4)]) sC_d0 sC_d0 ∧ off = off ∧ num = num ∧ k = k ∧ i = i ∧ e = e ∧ h = h ∧ ari BinOp.add IntKind.i64 n (1 : Int) = ari BinOp.add IntKind.i64 n (1 : Int) ∧ ty = ty ∧ ds = ds ∧ (41 : TypeId) = (41 : TypeId) ∧ ts = ts ∧ (41 : TypeId) = (41 : TypeId) ∧ ks = ks ∧ (59 : TypeId) = (59 : TypeId) ∧ intAt ds (off + Int.toNat i * 15) = intAt ds (off + Int.toNat i * 15) ∧ intAt ds (off + Int.toNat i * 15 + 1) = intAt ds (off + Int.toNat i * 15 + 1) ∧ intAt ds (off + Int.toNat i * 15 + 2) = intAt ds (off + Int.toNat i * 15 + 2) ∧ intAt ds (off + Int.toNat i * 15 + 3) = intAt ds (off + Int.toNat i * 15 + 3) ∧ intAt ds (off + Int.toNat i * 15 + 4) = intAt ds (off + Int.toNat i * 15 + 4) ∧ valAt ds (off + Int.toNat i * 15 + 5) = valAt ds (off + Int.toNat i * 15 + 5) ∧ intAt ds (off + Int.toNat i * 15 + 6) = intAt ds (off + Int.toNat i * 15 + 6) ∧ intAt ds (off + Int.toNat i * 15 + 7) = intAt ds (off + Int.toNat i * 15 + 7) ∧ intAt ds (off + Int.toNat i * 15 + 8) = intAt ds (off + Int.toNat i * 15 + 8) ∧ intAt ds (off + Int.toNat i * 15 + 9) = intAt ds (off + Int.toNat i * 15 + 9) ∧ intAt ds (off + Int.toNat i * 15 + 10) = intAt ds (off + Int.toNat i * 15 + 10) ∧ intAt ds (off + Int.toNat i * 15 + 11) = intAt ds (off + Int.toNat i * 15 + 11) ∧ intAt ds (off + Int.toNat i * 15 + 12) = intAt ds (off + Int.toNat i * 15 + 12) ∧ intAt ds (off + Int.toNat i * 15 + 13) = intAt ds (off + Int.toNat i * 15 + 13) ∧ intAt ds (off + Int.toNat i * 15 + 14) = intAt ds (off + Int.toNat i * 15 + 14) ∧ (32 : TypeId) = (32 : TypeId) ∧ ws = ws ∧ True) ∧ (decide (ari BinOp.add IntKind.i64 n (1 : Int) < (↑k : Int)) = false → QsD i ts ks ∧ CallKind.normal = CallKind.normal ∧ TodoOk (ren 1 [(1, 1), (3, 3)]) sD_d0 sD_d0 ∧ off = off ∧ num = num ∧ i = i ∧ ty = ty ∧ ds = ds ∧ (41 : TypeId) = (41 : TypeId) ∧ ts = ts ∧ (41 : TypeId) = (41 : TypeId) ∧ ks = ks ∧ True))) ∧ ((((↑a : Int) != (↑b : Int)) == false) = false → false = true)) ∧ (((lnF ts (intAt ws (Int.toNat n)) != lnF ks (intAt ws (Int.toNat n))) == false) = false → false = true)) ∧ (((!(ceF ts (intAt ws (Int.toNat n)) (0 : Nat) == ceF ks (intAt ws (Int.toNat n)) (0 : Nat) && (ceF ts (intAt ws (Int.toNat n)) (1 : Nat) == ceF ks (intAt ws (Int.toNat n)) (1 : Nat) && (ceF ts (intAt ws (Int.toNat n)) (2 : Nat) == ceF ks (intAt ws (Int.toNat n)) (2 : Nat) && (ceF ts (intAt ws (Int.toNat n)) (3 : Nat) == ceF ks (intAt ws (Int.toNat n)) (3 : Nat) && (ceF ts (intAt ws (Int.toNat n)) (4 : Nat) == ceF ks (intAt ws (Int.toNat n)) (4 : Nat) && (ceF ts (intAt ws (Int.toNat n)) (5 : Nat) == ceF ks (intAt ws (Int.toNat n)) (5 : Nat) && (ceF ts (intAt ws (Int.toNat n)) (6 : Nat) == ceF ks (intAt ws (Int.toNat n)) (6 : Nat) && ceF ts (intAt ws (Int.toNat n)) (7 : Nat) == ceF ks (intAt ws (Int.toNat n)) (7 : Nat))))))))) == false) = false → false = true)) ∧ (((quF ts (intAt ws (Int.toNat n)) != quF ks (intAt ws (Int.toNat n))) == false) = false → false = true)) ∧ (true = false → false = true)) ∧ (true = false → false = true)) ∧ (((upF ts (intAt ws (Int.toNat n)) == h) == true) = false → (true = true → (true = true → (((quF ts (intAt ws (Int.toNat n)) != quF ks (intAt ws (Int.toNat n))) == false) = true → (((!(ceF ts (intAt ws (Int.toNat n)) (0 : Nat) == ceF ks (intAt ws (Int.toNat n)) (0 : Nat) && (ceF ts (intAt ws (Int.toNat n)) (1 : Nat) == ceF ks (intAt ws (Int.toNat n)) (1 : Nat) && (ceF ts (intAt ws (Int.toNat n)) (2 : Nat) == ceF ks (intAt ws (Int.toNat n)) (2 : Nat) && (ceF ts (intAt ws (Int.toNat n)) (3 : Nat) == ceF ks (intAt ws (Int.toNat n)) (3 : Nat) && (ceF ts (intAt ws (Int.toNat n)) (4 : Nat) == ceF ks (intAt ws (Int.toNat n)) (4 : Nat) && (ceF ts (intAt ws (Int.toNat n)) (5 : Nat) == ceF ks (intAt ws (Int.toNat n)) (5 : Nat) && (ceF ts (intAt ws (Int.toNat n)) (6 : Nat) == ceF ks (intAt ws (Int.toNat n)) (6 : Nat) && ceF ts (intAt ws (Int.toNat n)) (7 : Nat) == ceF ks (intAt ws (Int.toNat n)) (7 : Nat))))))))) == false) = true → (((lnF ts (intAt ws (Int.toNat n)) != lnF ks (intAt ws (Int.toNat n))) == false) = true → ((((↑a : Int) != (↑b : Int)) == false) = true → (((upF ts (intAt ws (Int.toNat n)) != upF ks (intAt ws (Int.toNat n))) == true) = true → false = true) ∧ (((upF ts (intAt ws (Int.toNat n)) != upF ks (intAt ws (Int.toNat n))) == true) = false → (decide (ari BinOp.add IntKind.i64 n (1 : Int) < (↑k : Int)) = true → QsC i h e (ari BinOp.add IntKind.i64 n (1 : Int)) ts ks k ws ∧ CallKind.normal = CallKind.normal ∧ TodoOk (ren 1 [(1, 1), (2, 2), (3, 3), (4, 4)]) sC_d0 sC_d0 ∧ off = off ∧ num = num ∧ k = k ∧ i = i ∧ e = e ∧ h = h ∧ ari BinOp.add IntKind.i64 n (1 : Int) = ari BinOp.add IntKind.i64 n (1 : Int) ∧ ty = ty ∧ ds = ds ∧ (41 : TypeId) = (41 : TypeId) ∧ ts = ts ∧ (41 : TypeId) = (41 : TypeId) ∧ ks = ks ∧ (59 : TypeId) = (59 : TypeId) ∧ intAt ds (off + Int.toNat i * 15) = intAt ds (off + Int.toNat i * 15) ∧ intAt ds (off + Int.toNat i * 15 + 1) = intAt ds (off + Int.toNat i * 15 + 1) ∧ intAt ds (off + Int.toNat i * 15 + 2) = intAt ds (off + Int.toNat i * 15 + 2) ∧ intAt ds (off + Int.toNat i * 15 + 3) = intAt ds (off + Int.toNat i * 15 + 3) ∧ intAt ds (off + Int.toNat i * 15 + 4) = intAt ds (off + Int.toNat i * 15 + 4) ∧ valAt ds (off + Int.toNat i * 15 + 5) = valAt ds (off + Int.toNat i * 15 + 5) ∧ intAt ds (off + Int.toNat i * 15 + 6) = intAt ds (off + Int.toNat i * 15 + 6) ∧ intAt ds (off + Int.toNat i * 15 + 7) = intAt ds (off + Int.toNat i * 15 + 7) ∧ intAt ds (off + Int.toNat i * 15 + 8) = intAt ds (off + Int.toNat i * 15 + 8) ∧ intAt ds (off + Int.toNat i * 15 + 9) = intAt ds (off + Int.toNat i * 15 + 9) ∧ intAt ds (off + Int.toNat i * 15 + 10) = intAt ds (off + Int.toNat i * 15 + 10) ∧ intAt ds (off + Int.toNat i * 15 + 11) = intAt ds (off + Int.toNat i * 15 + 11) ∧ intAt ds (off + Int.toNat i * 15 + 12) = intAt ds (off + Int.toNat i * 15 + 12) ∧ intAt ds (off + Int.toNat i * 15 + 13) = intAt ds (off + Int.toNat i * 15 + 13) ∧ intAt ds (off + Int.toNat i * 15 + 14) = intAt ds (off + Int.toNat i * 15 + 14) ∧ (32 : TypeId) = (32 : TypeId) ∧ ws = ws ∧ True) ∧ (decide (ari BinOp.add IntKind.i64 n (1 : Int) < (↑k : Int)) = false → QsD i ts ks ∧ CallKind.normal = CallKind.normal ∧ TodoOk (ren 1 [(1, 1), (3, 3)]) sD_d0 sD_d0 ∧ off = off ∧ num = num ∧ i = i ∧ ty = ty ∧ ds = ds ∧ (41 : TypeId) = (41 : TypeId) ∧ ts = ts ∧ (41 : TypeId) = (41 : TypeId) ∧ ks = ks ∧ True))) ∧ ((((↑a : Int) != (↑b : Int)) == false) = false → false = true)) ∧ (((lnF ts (intAt ws (Int.toNat n)) != lnF ks (intAt ws (Int.toNat n))) == false) = false → false = true)) ∧ (((!(ceF ts (intAt ws (Int.toNat n)) (0 : Nat) == ceF ks (intAt ws (Int.toNat n)) (0 : Nat) && (ceF ts (intAt ws (Int.toNat n)) (1 : Nat) == ceF ks (intAt ws (Int.toNat n)) (1 : Nat) && (ceF ts (intAt ws (Int.toNat n)) (2 : Nat) == ceF ks (intAt ws (Int.toNat n)) (2 : Nat) && (ceF ts (intAt ws (Int.toNat n)) (3 : Nat) == ceF ks (intAt ws (Int.toNat n)) (3 : Nat) && (ceF ts (intAt ws (Int.toNat n)) (4 : Nat) == ceF ks (intAt ws (Int.toNat n)) (4 : Nat) && (ceF ts (intAt ws (Int.toNat n)) (5 : Nat) == ceF ks (intAt ws (Int.toNat n)) (5 : Nat) && (ceF ts (intAt ws (Int.toNat n)) (6 : Nat) == ceF ks (intAt ws (Int.toNat n)) (6 : Nat) && ceF ts (intAt ws (Int.toNat n)) (7 : Nat) == ceF ks (intAt ws (Int.toNat n)) (7 : Nat))))))))) == false) = false → false = true)) ∧ (((quF ts (intAt ws (Int.toNat n)) != quF ks (intAt ws (Int.toNat n))) == false) = false → false = true)) ∧ (true = false → false = true)) ∧ (true = false → false = true))) ∧ (((intAt ds (off + Int.toNat i * 15) == (0 : Int)) == true) = false → (true = true → (true = true → (((quF ts (intAt ws (Int.toNat n)) != quF ks (intAt ws (Int.toNat n))) == false) = true → (((!(ceF ts (intAt ws (Int.toNat n)) (0 : Nat) == ceF ks (intAt ws (Int.toNat n)) (0 : Nat) && (ceF ts (intAt ws (Int.toNat n)) (1 : Nat) == ceF ks (intAt ws (Int.toNat n)) (1 : Nat) && (ceF ts (intAt ws (Int.toNat n)) (2 : Nat) == ceF ks (intAt ws (Int.toNat n)) (2 : Nat) && (ceF ts (intAt ws (Int.toNat n)) (3 : Nat) == ceF ks (intAt ws (Int.toNat n)) (3 : Nat) && (ceF ts (intAt ws (Int.toNat n)) (4 : Nat) == ceF ks (intAt ws (Int.toNat n)) (4 : Nat) && (ceF ts (intAt ws (Int.toNat n)) (5 : Nat) == ceF ks (intAt ws (Int.toNat n)) (5 : Nat) && (ceF ts (intAt ws (Int.toNat n)) (6 : Nat) == ceF ks (intAt ws (Int.toNat n)) (6 : Nat) && ceF ts (intAt ws (Int.toNat n)) (7 : Nat) == ceF ks (intAt ws (Int.toNat n)) (7 : Nat))))))))) == false) = true → (((lnF ts (intAt ws (Int.toNat n)) != lnF ks (intAt ws (Int.toNat n))) == false) = true → ((((↑a : Int) != (↑b : Int)) == false) = true → (((upF ts (intAt ws (Int.toNat n)) != upF ks (intAt ws (Int.toNat n))) == true) = true → false = true) ∧ (((upF ts (intAt ws (Int.toNat n)) != upF ks (intAt ws (Int.toNat n))) == true) = false → (decide (ari BinOp.add IntKind.i64 n (1 : Int) < (↑k : Int)) = true → QsC i h e (ari BinOp.add IntKind.i64 n (1 : Int)) ts ks k ws ∧ CallKind.normal = CallKind.normal ∧ TodoOk (ren 1 [(1, 1), (2, 2), (3, 3), (4, 4)]) sC_d0 sC_d0 ∧ off = off ∧ num = num ∧ k = k ∧ i = i ∧ e = e ∧ h = h ∧ ari BinOp.add IntKind.i64 n (1 : Int) = ari BinOp.add IntKind.i64 n (1 : Int) ∧ ty = ty ∧ ds = ds ∧ (41 : TypeId) = (41 : TypeId) ∧ ts = ts ∧ (41 : TypeId) = (41 : TypeId) ∧ ks = ks ∧ (59 : TypeId) = (59 : TypeId) ∧ intAt ds (off + Int.toNat i * 15) = intAt ds (off + Int.toNat i * 15) ∧ intAt ds (off + Int.toNat i * 15 + 1) = intAt ds (off + Int.toNat i * 15 + 1) ∧ intAt ds (off + Int.toNat i * 15 + 2) = intAt ds (off + Int.toNat i * 15 + 2) ∧ intAt ds (off + Int.toNat i * 15 + 3) = intAt ds (off + Int.toNat i * 15 + 3) ∧ intAt ds (off + Int.toNat i * 15 + 4) = intAt ds (off + Int.toNat i * 15 + 4) ∧ valAt ds (off + Int.toNat i * 15 + 5) = valAt ds (off + Int.toNat i * 15 + 5) ∧ intAt ds (off + Int.toNat i * 15 + 6) = intAt ds (off + Int.toNat i * 15 + 6) ∧ intAt ds (off + Int.toNat i * 15 + 7) = intAt ds (off + Int.toNat i * 15 + 7) ∧ intAt ds (off + Int.toNat i * 15 + 8) = intAt ds (off + Int.toNat i * 15 + 8) ∧ intAt ds (off + Int.toNat i * 15 + 9) = intAt ds (off + Int.toNat i * 15 + 9) ∧ intAt ds (off + Int.toNat i * 15 + 10) = intAt ds (off + Int.toNat i * 15 + 10) ∧ intAt ds (off + Int.toNat i * 15 + 11) = intAt ds (off + Int.toNat i * 15 + 11) ∧ intAt ds (off + Int.toNat i * 15 + 12) = intAt ds (off + Int.toNat i * 15 + 12) ∧ intAt ds (off + Int.toNat i * 15 + 13) = intAt ds (off + Int.toNat i * 15 + 13) ∧ intAt ds (off + Int.toNat i * 15 + 14) = intAt ds (off + Int.toNat i * 15 + 14) ∧ (32 : TypeId) = (32 : TypeId) ∧ ws = ws ∧ True) ∧ (decide (ari BinOp.add IntKind.i64 n (1 : Int) < (↑k : Int)) = false → QsD i ts ks ∧ CallKind.normal = CallKind.normal ∧ TodoOk (ren 1 [(1, 1), (3, 3)]) sD_d0 sD_d0 ∧ off = off ∧ num = num ∧ i = i ∧ ty = ty ∧ ds = ds ∧ (41 : TypeId) = (41 : TypeId) ∧ ts = ts ∧ (41 : TypeId) = (41 : TypeId) ∧ ks = ks ∧ True))) ∧ ((((↑a : Int) != (↑b : Int)) == false) = false → false = true)) ∧ (((lnF ts (intAt ws (Int.toNat n)) != lnF ks (intAt ws (Int.toNat n))) == false) = false → false = true)) ∧ (((!(ceF ts (intAt ws (Int.toNat n)) (0 : Nat) == ceF ks (intAt ws (Int.toNat n)) (0 : Nat) && (ceF ts (intAt ws (Int.toNat n)) (1 : Nat) == ceF ks (intAt ws (Int.toNat n)) (1 : Nat) && (ceF ts (intAt ws (Int.toNat n)) (2 : Nat) == ceF ks (intAt ws (Int.toNat n)) (2 : Nat) && (ceF ts (intAt ws (Int.toNat n)) (3 : Nat) == ceF ks (intAt ws (Int.toNat n)) (3 : Nat) && (ceF ts (intAt ws (Int.toNat n)) (4 : Nat) == ceF ks (intAt ws (Int.toNat n)) (4 : Nat) && (ceF ts (intAt ws (Int.toNat n)) (5 : Nat) == ceF ks (intAt ws (Int.toNat n)) (5 : Nat) && (ceF ts (intAt ws (Int.toNat n)) (6 : Nat) == ceF ks (intAt ws (Int.toNat n)) (6 : Nat) && ceF ts (intAt ws (Int.toNat n)) (7 : Nat) == ceF ks (intAt ws (Int.toNat n)) (7 : Nat))))))))) == false) = false → false = true)) ∧ (((quF ts (intAt ws (Int.toNat n)) != quF ks (intAt ws (Int.toNat n))) == false) = false → false = true)) ∧ (true = false → false = true)) ∧ (true = false → false = true))) ∧ (((e == (0 : Int)) == true) = false → (true = true → (true = true → (((quF ts (intAt ws (Int.toNat n)) != quF ks (intAt ws (Int.toNat n))) == false) = true → (((!(ceF ts (intAt ws (Int.toNat n)) (0 : Nat) == ceF ks (intAt ws (Int.toNat n)) (0 : Nat) && (ceF ts (intAt ws (Int.toNat n)) (1 : Nat) == ceF ks (intAt ws (Int.toNat n)) (1 : Nat) && (ceF ts (intAt ws (Int.toNat n)) (2 : Nat) == ceF ks (intAt ws (Int.toNat n)) (2 : Nat) && (ceF ts (intAt ws (Int.toNat n)) (3 : Nat) == ceF ks (intAt ws (Int.toNat n)) (3 : Nat) && (ceF ts (intAt ws (Int.toNat n)) (4 : Nat) == ceF ks (intAt ws (Int.toNat n)) (4 : Nat) && (ceF ts (intAt ws (Int.toNat n)) (5 : Nat) == ceF ks (intAt ws (Int.toNat n)) (5 : Nat) && (ceF ts (intAt ws (Int.toNat n)) (6 : Nat) == ceF ks (intAt ws (Int.toNat n)) (6 : Nat) && ceF ts (intAt ws (Int.toNat n)) (7 : Nat) == ceF ks (intAt ws (Int.toNat n)) (7 : Nat))))))))) == false) = true → (((lnF ts (intAt ws (Int.toNat n)) != lnF ks (intAt ws (Int.toNat n))) == false) = true → ((((↑a : Int) != (↑b : Int)) == false) = true → (((upF ts (intAt ws (Int.toNat n)) != upF ks (intAt ws (Int.toNat n))) == true) = true → false = true) ∧ (((upF ts (intAt ws (Int.toNat n)) != upF ks (intAt ws (Int.toNat n))) == true) = false → (decide (ari BinOp.add IntKind.i64 n (1 : Int) < (↑k : Int)) = true → QsC i h e (ari BinOp.add IntKind.i64 n (1 : Int)) ts ks k ws ∧ CallKind.normal = CallKind.normal ∧ TodoOk (ren 1 [(1, 1), (2, 2), (3, 3), (4, 4)]) sC_d0 sC_d0 ∧ off = off ∧ num = num ∧ k = k ∧ i = i ∧ e = e ∧ h = h ∧ ari BinOp.add IntKind.i64 n (1 : Int) = ari BinOp.add IntKind.i64 n (1 : Int) ∧ ty = ty ∧ ds = ds ∧ (41 : TypeId) = (41 : TypeId) ∧ ts = ts ∧ (41 : TypeId) = (41 : TypeId) ∧ ks = ks ∧ (59 : TypeId) = (59 : TypeId) ∧ intAt ds (off + Int.toNat i * 15) = intAt ds (off + Int.toNat i * 15) ∧ intAt ds (off + Int.toNat i * 15 + 1) = intAt ds (off + Int.toNat i * 15 + 1) ∧ intAt ds (off + Int.toNat i * 15 + 2) = intAt ds (off + Int.toNat i * 15 + 2) ∧ intAt ds (off + Int.toNat i * 15 + 3) = intAt ds (off + Int.toNat i * 15 + 3) ∧ intAt ds (off + Int.toNat i * 15 + 4) = intAt ds (off + Int.toNat i * 15 + 4) ∧ valAt ds (off + Int.toNat i * 15 + 5) = valAt ds (off + Int.toNat i * 15 + 5) ∧ intAt ds (off + Int.toNat i * 15 + 6) = intAt ds (off + Int.toNat i * 15 + 6) ∧ intAt ds (off + Int.toNat i * 15 + 7) = intAt ds (off + Int.toNat i * 15 + 7) ∧ intAt ds (off + Int.toNat i * 15 + 8) = intAt ds (off + Int.toNat i * 15 + 8) ∧ intAt ds (off + Int.toNat i * 15 + 9) = intAt ds (off + Int.toNat i * 15 + 9) ∧ intAt ds (off + Int.toNat i * 15 + 10) = intAt ds (off + Int.toNat i * 15 + 10) ∧ intAt ds (off + Int.toNat i * 15 + 11) = intAt ds (off + Int.toNat i * 15 + 11) ∧ intAt ds (off + Int.toNat i * 15 + 12) = intAt ds (off + Int.toNat i * 15 + 12) ∧ intAt ds (off + Int.toNat i * 15 + 13) = intAt ds (off + Int.toNat i * 15 + 13) ∧ intAt ds (off + Int.toNat i * 15 + 14) = intAt ds (off + Int.toNat i * 15 + 14) ∧ (32 : TypeId) = (32 : TypeId) ∧ ws = ws ∧ True) ∧ (decide (ari BinOp.add IntKind.i64 n (1 : Int) < (↑k : Int)) = false → QsD i ts ks ∧ CallKind.normal = CallKind.normal ∧ TodoOk (ren 1 [(1, 1), (3, 3)]) sD_d0 sD_d0 ∧ off = off ∧ num = num ∧ i = i ∧ ty = ty ∧ ds = ds ∧ (41 : TypeId) = (41 : TypeId) ∧ ts = ts ∧ (41 : TypeId) = (41 : TypeId) ∧ ks = ks ∧ True))) ∧ ((((↑a : Int) != (↑b : Int)) == false) = false → false = true)) ∧ (((lnF ts (intAt ws (Int.toNat n)) != lnF ks (intAt ws (Int.toNat n))) == false) = false → false = true)) ∧ (((!(ceF ts (intAt ws (Int.toNat n)) (0 : Nat) == ceF ks (intAt ws (Int.toNat n)) (0 : Nat) && (ceF ts (intAt ws (Int.toNat n)) (1 : Nat) == ceF ks (intAt ws (Int.toNat n)) (1 : Nat) && (ceF ts (intAt ws (Int.toNat n)) (2 : Nat) == ceF ks (intAt ws (Int.toNat n)) (2 : Nat) && (ceF ts (intAt ws (Int.toNat n)) (3 : Nat) == ceF ks (intAt ws (Int.toNat n)) (3 : Nat) && (ceF ts (intAt ws (Int.toNat n)) (4 : Nat) == ceF ks (intAt ws (Int.toNat n)) (4 : Nat) && (ceF ts (intAt ws (Int.toNat n)) (5 : Nat) == ceF ks (intAt ws (Int.toNat n)) (5 : Nat) && (ceF ts (intAt ws (Int.toNat n)) (6 : Nat) == ceF ks (intAt ws (Int.toNat n)) (6 : Nat) && ceF ts (intAt ws (Int.toNat n)) (7 : Nat) == ceF ks (intAt ws (Int.toNat n)) (7 : Nat))))))))) == false) = false → false = true)) ∧ (((quF ts (intAt ws (Int.toNat n)) != quF ks (intAt ws (Int.toNat n))) == false) = false → false = true)) ∧ (true = false → false = true)) ∧ (true = false → false = true))) := by kernel_rfl
theorem td_vc (off : Nat) (num : Nat) (ds : Array Value) (ty : TypeId) (i : Int) (ts : Array Value) (ks : Array Value) (QsE : Int → Int → Array Value → Nat → Array Value → Prop) (QsA : Int → Array Value → Prop) : (td_t off num ds ty i ts ks).vc ((isB true)) (td_x off num ds ty i ts ks QsE QsA) =
    ((Array.size ks = (448 : Nat) ∧ True) ∧ (Array.size ks = (448 : Nat) ∧ Array.size ks = Array.size ts ∧ True) ∧ (Array.size ks = (448 : Nat) ∧ True) ∧ (64 ≤ Array.size ks ∧ True) ∧ (BkOk (Array.extract ks (0 : Nat) (64)) ∧ True) ∧ (decide (List.length (issued (Array.extract ks (0 : Nat) (64))) = (0 : Nat)) = true → (decide (ari BinOp.add IntKind.i64 i (1 : Int) < (↑num : Int)) = true → QsA (ari BinOp.add IntKind.i64 i (1 : Int)) ks ∧ CallKind.normal = CallKind.normal ∧ TodoOk (ren 1 [(1, 1)]) sA_d0 sA_d0 ∧ off = off ∧ num = num ∧ ari BinOp.add IntKind.i64 i (1 : Int) = ari BinOp.add IntKind.i64 i (1 : Int) ∧ ty = ty ∧ ds = ds ∧ (41 : TypeId) = (41 : TypeId) ∧ ks = ks ∧ True) ∧ (decide (ari BinOp.add IntKind.i64 i (1 : Int) < (↑num : Int)) = false → true = true)) ∧ (decide (List.length (issued (Array.extract ks (0 : Nat) (64))) = (0 : Nat)) = false → (decide ((0 : Int) < (↑(List.length (issued (Array.extract ks (0 : Nat) (64)))) : Int)) = true → QsE i (0 : Int) ks (List.length (issued (Array.extract ks (0 : Nat) (64)))) (u32s (issued (Array.extract ks (0 : Nat) (64)))) ∧ CallKind.normal = CallKind.normal ∧ TodoOk (ren 1 [(1, 1), (2, 5)]) sE_d0 sE_d0 ∧ off = off ∧ num = num ∧ (0 : Int) = (0 : Int) ∧ i = i ∧ List.length (issued (Array.extract ks (0 : Nat) (64))) = List.length (issued (Array.extract ks (0 : Nat) (64))) ∧ ty = ty ∧ ds = ds ∧ (41 : TypeId) = (41 : TypeId) ∧ ks = ks ∧ (32 : TypeId) = (32 : TypeId) ∧ u32s (issued (Array.extract ks (0 : Nat) (64))) = u32s (issued (Array.extract ks (0 : Nat) (64))) ∧ True) ∧ (decide ((0 : Int) < (↑(List.length (issued (Array.extract ks (0 : Nat) (64)))) : Int)) = false → (decide (ari BinOp.add IntKind.i64 i (1 : Int) < (↑num : Int)) = true → QsA (ari BinOp.add IntKind.i64 i (1 : Int)) ks ∧ CallKind.normal = CallKind.normal ∧ TodoOk (ren 1 [(1, 1)]) sA_d0 sA_d0 ∧ off = off ∧ num = num ∧ ari BinOp.add IntKind.i64 i (1 : Int) = ari BinOp.add IntKind.i64 i (1 : Int) ∧ ty = ty ∧ ds = ds ∧ (41 : TypeId) = (41 : TypeId) ∧ ks = ks ∧ True) ∧ (decide (ari BinOp.add IntKind.i64 i (1 : Int) < (↑num : Int)) = false → true = true)))) := by kernel_rfl
theorem te_vc (off : Nat) (num : Nat) (ds : Array Value) (ty : TypeId) (i : Int) (n : Int) (ts : Array Value) (k : Nat) (ws : Array Value) (QsF : Int → Int → Array Value → Nat → Array Value → Int → Int → Prop) : (te_t off num ds ty i n ts k ws).vc ((isB true)) (te_x off num ds ty i n ts k ws QsF) =
    ((((0 : Int) ≤ n ∧ n < (↑k : Int)) ∧ True) ∧ (IsInt IntKind.u32 ws ((0 : Nat) + Int.toNat n * 1) ∧ True) ∧ QsF i n ts k ws (intAt ws ((0 : Nat) + Int.toNat n * 1)) (0 : Int) ∧ CallKind.normal = CallKind.normal ∧ TodoOk (ren 1 [(1, 1), (2, 2)]) sF_d0 sF_d0 ∧ off = off ∧ num = num ∧ (0 : Int) = (0 : Int) ∧ n = n ∧ i = i ∧ k = k ∧ intAt ws ((0 : Nat) + Int.toNat n * 1) = intAt ws ((0 : Nat) + Int.toNat n * 1) ∧ ty = ty ∧ ds = ds ∧ (41 : TypeId) = (41 : TypeId) ∧ ts = ts ∧ (32 : TypeId) = (32 : TypeId) ∧ ws = ws ∧ True) := by kernel_rfl
theorem tf_vc (off : Nat) (num : Nat) (ds : Array Value) (ty : TypeId) (i : Int) (n : Int) (ts : Array Value) (k : Nat) (ws : Array Value) (u : Int) (c : Int) (QsF : Int → Int → Array Value → Nat → Array Value → Int → Int → Prop) (QsE : Int → Int → Array Value → Nat → Array Value → Prop) (QsA : Int → Array Value → Prop) : (tf_t off num ds ty i n ts k ws u c).vc ((isB true)) (tf_x off num ds ty i n ts k ws u c QsF QsE QsA) =
    ((((u != (0 : Int)) == true) = true → (decide (c ≤ (32 : Int)) = true → (Array.size ts = (448 : Nat) ∧ True) ∧ (TbOk ts ∧ ((0 : Int) ≤ u ∧ u < (4294967296 : Int)) ∧ True) ∧ (gdF ts u = true → (decide (nV (slF ts u) = (0 : Nat)) = true → (false = true → false = true) ∧ (false = false → QsF i n ts k ws (upF ts u) (ari BinOp.add IntKind.i64 c (1 : Int)) ∧ CallKind.normal = CallKind.normal ∧ TodoOk (ren 1 [(1, 1), (2, 2)]) sF_d0 sF_d0 ∧ off = off ∧ num = num ∧ ari BinOp.add IntKind.i64 c (1 : Int) = ari BinOp.add IntKind.i64 c (1 : Int) ∧ n = n ∧ i = i ∧ k = k ∧ upF ts u = upF ts u ∧ ty = ty ∧ ds = ds ∧ (41 : TypeId) = (41 : TypeId) ∧ ts = ts ∧ (32 : TypeId) = (32 : TypeId) ∧ ws = ws ∧ True)) ∧ (decide (nV (slF ts u) = (0 : Nat)) = false → (false = true → false = true) ∧ (false = false → QsF i n ts k ws (upF ts u) (ari BinOp.add IntKind.i64 c (1 : Int)) ∧ CallKind.normal = CallKind.normal ∧ TodoOk (ren 1 [(1, 1), (2, 2)]) sF_d0 sF_d0 ∧ off = off ∧ num = num ∧ ari BinOp.add IntKind.i64 c (1 : Int) = ari BinOp.add IntKind.i64 c (1 : Int) ∧ n = n ∧ i = i ∧ k = k ∧ upF ts u = upF ts u ∧ ty = ty ∧ ds = ds ∧ (41 : TypeId) = (41 : TypeId) ∧ ts = ts ∧ (32 : TypeId) = (32 : TypeId) ∧ ws = ws ∧ True))) ∧ (gdF ts u = false → (true = true → false = true) ∧ (true = false → QsF i n ts k ws (0 : Int) (ari BinOp.add IntKind.i64 c (1 : Int)) ∧ CallKind.normal = CallKind.normal ∧ TodoOk (ren 1 [(1, 1), (2, 2)]) sF_d0 sF_d0 ∧ off = off ∧ num = num ∧ ari BinOp.add IntKind.i64 c (1 : Int) = ari BinOp.add IntKind.i64 c (1 : Int) ∧ n = n ∧ i = i ∧ k = k ∧ (0 : Int) = (0 : Int) ∧ ty = ty ∧ ds = ds ∧ (41 : TypeId) = (41 : TypeId) ∧ ts = ts ∧ (32 : TypeId) = (32 : TypeId) ∧ ws = ws ∧ True))) ∧ (decide (c ≤ (32 : Int)) = false → (decide (c > (32 : Int)) = true → false = true) ∧ (decide (c > (32 : Int)) = false → (decide (ari BinOp.add IntKind.i64 n (1 : Int) < (↑k : Int)) = true → QsE i (ari BinOp.add IntKind.i64 n (1 : Int)) ts k ws ∧ CallKind.normal = CallKind.normal ∧ TodoOk (ren 1 [(1, 1), (2, 2)]) sE_d0 sE_d0 ∧ off = off ∧ num = num ∧ ari BinOp.add IntKind.i64 n (1 : Int) = ari BinOp.add IntKind.i64 n (1 : Int) ∧ i = i ∧ k = k ∧ ty = ty ∧ ds = ds ∧ (41 : TypeId) = (41 : TypeId) ∧ ts = ts ∧ (32 : TypeId) = (32 : TypeId) ∧ ws = ws ∧ True) ∧ (decide (ari BinOp.add IntKind.i64 n (1 : Int) < (↑k : Int)) = false → (decide (ari BinOp.add IntKind.i64 i (1 : Int) < (↑num : Int)) = true → QsA (ari BinOp.add IntKind.i64 i (1 : Int)) ts ∧ CallKind.normal = CallKind.normal ∧ TodoOk (ren 1 [(1, 1)]) sA_d0 sA_d0 ∧ off = off ∧ num = num ∧ ari BinOp.add IntKind.i64 i (1 : Int) = ari BinOp.add IntKind.i64 i (1 : Int) ∧ ty = ty ∧ ds = ds ∧ (41 : TypeId) = (41 : TypeId) ∧ ts = ts ∧ True) ∧ (decide (ari BinOp.add IntKind.i64 i (1 : Int) < (↑num : Int)) = false → true = true))))) ∧ (((u != (0 : Int)) == true) = false → (decide (c > (32 : Int)) = true → false = true) ∧ (decide (c > (32 : Int)) = false → (decide (ari BinOp.add IntKind.i64 n (1 : Int) < (↑k : Int)) = true → QsE i (ari BinOp.add IntKind.i64 n (1 : Int)) ts k ws ∧ CallKind.normal = CallKind.normal ∧ TodoOk (ren 1 [(1, 1), (2, 2)]) sE_d0 sE_d0 ∧ off = off ∧ num = num ∧ ari BinOp.add IntKind.i64 n (1 : Int) = ari BinOp.add IntKind.i64 n (1 : Int) ∧ i = i ∧ k = k ∧ ty = ty ∧ ds = ds ∧ (41 : TypeId) = (41 : TypeId) ∧ ts = ts ∧ (32 : TypeId) = (32 : TypeId) ∧ ws = ws ∧ True) ∧ (decide (ari BinOp.add IntKind.i64 n (1 : Int) < (↑k : Int)) = false → (decide (ari BinOp.add IntKind.i64 i (1 : Int) < (↑num : Int)) = true → QsA (ari BinOp.add IntKind.i64 i (1 : Int)) ts ∧ CallKind.normal = CallKind.normal ∧ TodoOk (ren 1 [(1, 1)]) sA_d0 sA_d0 ∧ off = off ∧ num = num ∧ ari BinOp.add IntKind.i64 i (1 : Int) = ari BinOp.add IntKind.i64 i (1 : Int) ∧ ty = ty ∧ ds = ds ∧ (41 : TypeId) = (41 : TypeId) ∧ ts = ts ∧ True) ∧ (decide (ari BinOp.add IntKind.i64 i (1 : Int) < (↑num : Int)) = false → true = true))))) := by kernel_rfl
theorem t0_vc (off : Nat) (num : Nat) (ds : Array Value) (ty : TypeId) (QsA : Int → Array Value → Prop) : (t0_t off num ds ty).vc ((isB true)) (t0_x off num ds ty QsA) =
    ((AcOk ds off num ∧ True) ∧ (grB ds off num = true → true = true) ∧ (grB ds off num = false → (decide ((0 : Int) < (↑num : Int)) = true → QsA (0 : Int) zT ∧ CallKind.normal = CallKind.normal ∧ TodoOk (ren 1 [(1, 1)]) sA_d0 sA_d0 ∧ off = off ∧ num = num ∧ (0 : Int) = (0 : Int) ∧ ty = ty ∧ ds = ds ∧ (41 : TypeId) = (41 : Nat) ∧ zT = zT ∧ True) ∧ (decide ((0 : Int) < (↑num : Int)) = false → true = true))) := by kernel_rfl
theorem tz_vc (ty : TypeId) : (tz_t ty).vc ((isB true)) (tz_x ty ) =
    ((false = true → true = true) ∧ (false = false → true = true)) := by kernel_rfl
end Go.Proofs.YtjjeahnbppmigaaDoor
/- Of TableAbove: the law's environment; the ways up. No condition. -/
namespace Go.Proofs.YtjjeahnbppmigaaDoor
set_option linter.unusedSectionVars false
variable [Gh]
set_option maxRecDepth 100000
set_option linter.unusedSimpArgs false
set_option linter.unusedVariables false
theorem conL_ok : ∀ g l m t, conL g l m = some t → Con E0 g l m t := by
  intro g l m t h
  unfold conL at h
  split at h
  · rename_i i off n cap
    split at h
    · rename_i hb; cases h; exact great_con hb
    · cases h
  · cases h; exact great_none m
  · cases h; exact wakes_con m
  · rename_i ts x u; cases h
    refine Con.asked fun hq => Con.args (l' := [tbS ts, u32 x.den, u32 u.den]) (fun R vs ha => by
      match vs, ha with
      | [v, w, z], ha => exact ⟨ha.1, ha.2.1, ha.2.2.1, trivial⟩) ?_
    intro A hs
    exact raise_con x.den u.den m A ⟨fun p hp => hq p hp, hs⟩
  · exact conTg_ok _ _ _ _ h
theorem EL_ok : EnvOk EL := EnvOk.with E0_ok _ _ conL_ok
omit [Gh] in
theorem u32s_at {l : List Int} {i : Nat} (hi : i < l.length) : (u32s l)[i]? = some (.int .u32 (l.getD i 0)) := by
  unfold u32s
  rw [List.getElem?_toArray, List.getElem?_map, List.getD_eq_getElem?_getD, List.getElem?_eq_getElem hi]
  rfl
omit [Gh] in
theorem lv_at {ts : Array Value} {i : Nat} (hi : i < (lvT ts).length) : (lvT ts).getD i 0 ∈ lvT ts := by
  rw [List.getD_eq_getElem?_getD, List.getElem?_eq_getElem hi]; exact List.getElem_mem _
omit [Gh] in
theorem lv_f (ts : Array Value) : issued (bkB ts) = lvT ts := rfl
omit [Gh] in
theorem add1 {i : Nat} (h : i ≤ 1000) : ari .add .i64 (i : Int) 1 = ((i + 1 : Nat) : Int) := by rw [ari_add, i64w (by omega)]; omega
section
variable {off num : Nat} {ds : Array Value} {ty : TypeId} {ts : Array Value}
def GA (off num : Nat) (ds : Array Value) (ty : TypeId) (i : Nat) (ts : Array Value) : Prop := Good Tryd.prog (isB true) 1 (sA_F off num ds ty (i : Int) ts) (sA_M off num ds ty (i : Int) ts)
def GE (off num : Nat) (ds : Array Value) (ty : TypeId) (i n : Nat) (ts : Array Value) : Prop := Good Tryd.prog (isB true) 1 (sE_F off num ds ty (i : Int) (n : Int) ts (lvT ts).length (u32s (lvT ts))) (sE_M off num ds ty (i : Int) (n : Int) ts (lvT ts).length (u32s (lvT ts)))
theorem sF_ok (hi : TI ts) {i n : Nat} (hn : num ≤ 150) (hin : i < num) (hl : n < (lvT ts).length) (hE : n + 1 < (lvT ts).length → GE off num ds ty i (n + 1) ts) (hA : n + 1 = (lvT ts).length → i + 1 < num → GA off num ds ty (i + 1) ts) :
    ∀ u, u = 0 ∨ u ∈ lvT ts → ∀ c : Nat, c + depL (upF ts) u ≤ 32 → Good Tryd.prog (isB true) 1 (sF_F off num ds ty (i : Int) (n : Int) ts (lvT ts).length (u32s (lvT ts)) u (c : Int)) (sF_M off num ds ty (i : Int) (n : Int) ts (lvT ts).length (u32s (lvT ts)) u (c : Int)) := by
  have h32 := lv_len ts
  have n1 := add1 (i := n) (by omega)
  have i1 := add1 (i := i) (by omega)
  refine up_ind hi.fo (fun c hc => ?_) fun x hx ih c hc => ?_
  · refine past_vc EL_ok 1000 (tf_vc off num ds ty i n ts (lvT ts).length (u32s (lvT ts)) 0 c (fun _ _ _ _ _ _ _ => False) (fun i' n' ts' k' ws' => i' = (i : Int) ∧ n' = ((n + 1 : Nat) : Int) ∧ ts' = ts ∧ k' = (lvT ts).length ∧ ws' = u32s (lvT ts) ∧ n + 1 < (lvT ts).length) (fun i' ts' => i' = ((i + 1 : Nat) : Int) ∧ ts' = ts ∧ n + 1 = (lvT ts).length ∧ i + 1 < num)) ?_ (fun _ _ h => h)
      (fun fs m hb => tf_go (fun _ _ _ _ _ _ _ h => h.elim) (fun i' n' ts' k' ws' ⟨e1, e2, e3, e4, e5, e6⟩ => by rw [e1, e2, e3, e4, e5]; exact hE e6) (fun i' ts' ⟨e1, e2, e3, e4⟩ => by rw [e1, e2]; exact hA e3 e4) hb)
    have d2 : decide ((c : Int) > 32) = false := decide_eq_false (by omega)
    simp only [n1, i1, d2, bne_self_eq_false, beqT, true_implies, false_implies, Bool.false_eq_true, Bool.true_eq_false, and_true, true_and, sE_d0_ok, sA_d0_ok]
    refine ⟨fun h => of_decide_eq_true h |> fun h => by omega, fun h => ⟨fun h' => ?_, fun _ => trivial⟩⟩
    have h := of_decide_eq_false h
    have h' := of_decide_eq_true h'
    exact ⟨by omega, by omega⟩
  · have hg := (lv_mem hi.ok).1 hx
    have hx' : 0 ≤ x ∧ x < 4294967296 := lv_in hi.ok (.inr hx)
    have d := dep_cons hi.fo hx
    have c1 := add1 (i := c) (by omega)
    refine past_vc EL_ok 1000 (tf_vc off num ds ty i n ts (lvT ts).length (u32s (lvT ts)) x c (fun i' n' ts' k' ws' u' c' => i' = (i : Int) ∧ n' = (n : Int) ∧ ts' = ts ∧ k' = (lvT ts).length ∧ ws' = u32s (lvT ts) ∧ u' = upF ts x ∧ c' = ((c + 1 : Nat) : Int)) (fun _ _ _ _ _ => False) (fun _ _ => False)) ?_ (fun _ _ h => h)
      (fun fs m hb => tf_go (fun i' n' ts' k' ws' u' c' ⟨e1, e2, e3, e4, e5, e6, e7⟩ => by rw [e1, e2, e3, e4, e5, e6, e7]; exact ih (c + 1) (by omega)) (fun _ _ _ _ _ h => h.elim) (fun _ _ h => h.elim) hb)
    have d0 : (x != 0) = true := bne_iff_ne.2 (hi.fo.nz x hx)
    have d1 : decide ((c : Int) ≤ 32) = true := decide_eq_true (by omega)
    have hs := hi.ok.sz
    have hb := hi.ok
    simp only [c1, d0, d1, hs, hb, hg, hx', beqT, true_implies, false_implies, implies_true, Bool.false_eq_true, Bool.true_eq_false, and_true, true_and, sF_d0_ok]
theorem sE_ok (hi : TI ts) {i : Nat} (hn : num ≤ 150) (hin : i < num) (hA : i + 1 < num → GA off num ds ty (i + 1) ts) : ∀ k n : Nat, n + (k + 1) = (lvT ts).length → GE off num ds ty i n ts := by
  have h32 := lv_len ts
  intro k
  induction k with
  | zero =>
    intro n hk
    have hl : n < (lvT ts).length := by omega
    refine past_vc EL_ok 1000 (te_vc off num ds ty i n ts (lvT ts).length (u32s (lvT ts)) (fun i' n' ts' k' ws' u' c' => i' = (i : Int) ∧ n' = (n : Int) ∧ ts' = ts ∧ k' = (lvT ts).length ∧ ws' = u32s (lvT ts) ∧ u' = (lvT ts).getD n 0 ∧ c' = ((0 : Nat) : Int))) ?_ (fun _ _ h => h)
      (fun fs m hb => te_go (fun i' n' ts' k' ws' u' c' ⟨e1, e2, e3, e4, e5, e6, e7⟩ => by
        rw [e1, e2, e3, e4, e5, e6, e7]
        exact sF_ok hi hn hin hl (fun h => by omega) (fun _ => hA) _ (.inr (lv_at hl)) 0 (by rw [Nat.zero_add]; exact ch_len hi.fo h32 _ (.inr (lv_at hl)))) hb)
    have ha := u32s_at hl
    have h1 : (0 : Int) ≤ (n : Int) ∧ (n : Int) < ((lvT ts).length : Int) := by omega
    simp only [Int.toNat_natCast, Nat.zero_add, Nat.mul_one, h1, isI_of ha, intAt_of ha, and_true, true_and, sF_d0_ok]
    repeat' first | exact trivial | exact rfl | apply And.intro
  | succ k ih =>
    intro n hk
    have hl : n < (lvT ts).length := by omega
    refine past_vc EL_ok 1000 (te_vc off num ds ty i n ts (lvT ts).length (u32s (lvT ts)) (fun i' n' ts' k' ws' u' c' => i' = (i : Int) ∧ n' = (n : Int) ∧ ts' = ts ∧ k' = (lvT ts).length ∧ ws' = u32s (lvT ts) ∧ u' = (lvT ts).getD n 0 ∧ c' = ((0 : Nat) : Int))) ?_ (fun _ _ h => h)
      (fun fs m hb => te_go (fun i' n' ts' k' ws' u' c' ⟨e1, e2, e3, e4, e5, e6, e7⟩ => by
        rw [e1, e2, e3, e4, e5, e6, e7]
        exact sF_ok hi hn hin hl (fun _ => ih (n + 1) (by omega)) (fun h => by omega) _ (.inr (lv_at hl)) 0 (by rw [Nat.zero_add]; exact ch_len hi.fo h32 _ (.inr (lv_at hl)))) hb)
    have ha := u32s_at hl
    have h1 : (0 : Int) ≤ (n : Int) ∧ (n : Int) < ((lvT ts).length : Int) := by omega
    simp only [Int.toNat_natCast, Nat.zero_add, Nat.mul_one, h1, isI_of ha, intAt_of ha, and_true, true_and, sF_d0_ok]
    repeat' first | exact trivial | exact rfl | apply And.intro
def GD (off num : Nat) (ds : Array Value) (ty : TypeId) (i : Nat) (ts ks : Array Value) : Prop := Good Tryd.prog (isB true) 1 (sD_F off num ds ty (i : Int) ts ks) (sD_M off num ds ty (i : Int) ts ks)
theorem sD_ok {ks : Array Value} (hz : ts.size = 448) (hi : TI ks) {i : Nat} (hn : num ≤ 150) (hin : i < num) (hA : i + 1 < num → GA off num ds ty (i + 1) ks) : GD off num ds ty i ts ks := by
  have h32 := lv_len ks
  have i1 := add1 (i := i) (by omega)
  refine past_vc EL_ok 1000 (td_vc off num ds ty i ts ks (fun i' n' ts' k' ws' => i' = (i : Int) ∧ n' = ((0 : Nat) : Int) ∧ ts' = ks ∧ k' = (lvT ks).length ∧ ws' = u32s (lvT ks) ∧ 0 < (lvT ks).length) (fun i' ts' => i' = ((i + 1 : Nat) : Int) ∧ ts' = ks ∧ i + 1 < num)) ?_ (fun _ _ h => h)
    (fun fs m hb => td_go (fun i' n' ts' k' ws' ⟨e1, e2, e3, e4, e5, e6⟩ => by
      rw [e1, e2, e3, e4, e5]
      exact sE_ok hi hn hin hA ((lvT ks).length - 1) 0 (by omega)) (fun i' ts' ⟨e1, e2, e3⟩ => by rw [e1, e2]; exact hA e3) hb)
  have hs := hi.ok.sz
  have hbk : BkOk (bkB ks) := hi.ok.bk
  have h64 : (64 : Nat) ≤ 448 := by decide
  have dA : decide (((i + 1 : Nat) : Int) < (num : Int)) = true → i + 1 < num := fun h => by have := of_decide_eq_true h; omega
  simp only [bk_f, lv_f, i1, hz, hs, hbk, h64, true_implies, false_implies, Bool.false_eq_true, Bool.true_eq_false, and_true, true_and, implies_true, sE_d0_ok, sA_d0_ok]
  refine ⟨fun _ h => dA h, fun h => ⟨fun h' => ⟨rfl, by have := of_decide_eq_true h'; omega⟩, fun h' => ?_⟩⟩
  have := of_decide_eq_false h
  have := of_decide_eq_false h'
  omega
end
end Go.Proofs.YtjjeahnbppmigaaDoor
/- Of TableAbove: what is compared behind each act. No condition. -/
namespace Go.Proofs.YtjjeahnbppmigaaDoor
set_option linter.unusedSectionVars false
variable [Gh]
set_option maxRecDepth 100000
set_option linter.unusedSimpArgs false
set_option linter.unusedVariables false
section
variable {off num : Nat} {ds : Array Value} {ty : TypeId} {ts ks : Array Value} {h e : Int} {i : Nat}
def GC (off num : Nat) (ds : Array Value) (ty : TypeId) (i : Nat) (h e : Int) (ts ks : Array Value) (n : Nat) : Prop := Good Tryd.prog (isB true) 1 (sC_F off num ds ty (i : Int) h e (n : Int) ts ks (lvT ts).length (u32s (lvT ts))) (sC_M off num ds ty (i : Int) h e (n : Int) ts ks (lvT ts).length (u32s (lvT ts)))
theorem sCx_good {A : SV → SMem → Prop} {QC : Int → Int → Int → Int → Array Value → Array Value → Nat → Array Value → Prop} {QD : Int → Array Value → Array Value → Prop} {QG : Int → Int → Int → Int → Array Value → Array Value → Nat → Array Value → Prop} {QR : Int → Int → Int → Int → Array Value → Array Value → Nat → Array Value → Nat → Prop} {fs : List SFr} {m : SMem}
    (hC : ∀ i h e n ts ks k ws, QC i h e n ts ks k ws → Good Tryd.prog A 1 (sC_F off num ds ty i h e n ts ks k ws) (sC_M off num ds ty i h e n ts ks k ws)) (hD : ∀ i ts ks, QD i ts ks → Good Tryd.prog A 1 (sD_F off num ds ty i ts ks) (sD_M off num ds ty i ts ks))
    (hG : ∀ i h e n ts ks k ws, QG i h e n ts ks k ws → Good Tryd.prog A 1 (sG_F off num ds ty i h e n ts ks k ws) (sG_M off num ds ty i h e n ts ks k ws)) (hR : ∀ i h e n ts ks k ws a, QR i h e n ts ks k ws a → Good Tryd.prog A 1 (sGr_F off num ds ty i h e n ts ks k ws a) (sGr_M off num ds ty i h e n ts ks k ws a))
    (hb : sCx off num ds ty QC QD QG QR fs m) : Good Tryd.prog A 1 fs m := by
  unfold sCx at hb
  split at hb
  · split at hb
    · exact sC_good hC hb
    · split at hb
      · exact sD_good hD hb
      · split at hb
        · exact sGr_good hR hb
        · exact sG_good hG hb
  · exact hb.elim
theorem sGx_good {A : SV → SMem → Prop} {QH : Int → Int → Int → Int → Array Value → Array Value → Nat → Array Value → Prop} {fs : List SFr} {m : SMem}
    (hH : ∀ i h e n ts ks k ws, QH i h e n ts ks k ws → Good Tryd.prog A 1 (sH_F off num ds ty i h e n ts ks k ws) (sH_M off num ds ty i h e n ts ks k ws)) (hb : sGx off num ds ty QH fs m) : Good Tryd.prog A 1 fs m := by
  unfold sGx at hb
  split at hb
  · split at hb
    · exact hb.elim
    · exact sH_good hH hb
  · exact hb.elim
theorem sRx_good {A : SV → SMem → Prop} {QH : Int → Int → Int → Int → Array Value → Array Value → Nat → Array Value → Nat → Nat → Prop} {fs : List SFr} {m : SMem}
    (hH : ∀ i h e n ts ks k ws a b, QH i h e n ts ks k ws a b → Good Tryd.prog A 1 (sHr_F off num ds ty i h e n ts ks k ws a b) (sHr_M off num ds ty i h e n ts ks k ws a b)) (hb : sRx off num ds ty QH fs m) : Good Tryd.prog A 1 fs m := by
  unfold sRx at hb
  split at hb
  · split at hb
    · exact sHr_good hH hb
    · exact hb.elim
  · exact hb.elim
omit [Gh] in
def Asks (ds : Array Value) (off i : Nat) (ts ks : Array Value) (h e x : Int) : Prop := gdF ks x = true ∧ Same12 ks ts x ∧ (upF ks x = upF ts x ∨ (e = 0 ∧ intAt ds (off + i * 15) = 0 ∧ upF ts x = h ∧ h ≠ 0 ∧ upF ks x = 0))
section
variable {n : Nat} (hi : TI ts) (hk : TI ks) (hl : n < (lvT ts).length) (hask : Asks ds off i ts ks h e ((lvT ts).getD n 0)) (hC : n + 1 < (lvT ts).length → GC off num ds ty i h e ts ks (n + 1)) (hD : n + 1 = (lvT ts).length → GD off num ds ty i ts ks)
include hi hk hl hask hC hD
theorem sH_ok : Good Tryd.prog (isB true) 1 (sH_F off num ds ty (i : Int) h e (n : Int) ts ks (lvT ts).length (u32s (lvT ts))) (sH_M off num ds ty (i : Int) h e (n : Int) ts ks (lvT ts).length (u32s (lvT ts))) := by
  have h32 := lv_len ts
  have n1 := add1 (i := n) (by omega)
  refine past_vc EL_ok 1000 (th_vc off num ds ty i h e n ts ks (lvT ts).length (u32s (lvT ts)) (fun i' h' e' n' ts' ks' k' ws' => i' = (i : Int) ∧ h' = h ∧ e' = e ∧ n' = ((n + 1 : Nat) : Int) ∧ ts' = ts ∧ ks' = ks ∧ k' = (lvT ts).length ∧ ws' = u32s (lvT ts) ∧ n + 1 < (lvT ts).length) (fun i' ts' ks' => i' = (i : Int) ∧ ts' = ts ∧ ks' = ks ∧ n + 1 = (lvT ts).length)) ?_ (fun _ _ h => h)
    (fun fs m hb => th_go (fun i' h' e' n' ts' ks' k' ws' ⟨e1, e2, e3, e4, e5, e6, e7, e8, e9⟩ => by rw [e1, e2, e3, e4, e5, e6, e7, e8]; exact hC e9) (fun i' ts' ks' ⟨e1, e2, e3, e4⟩ => by rw [e1, e2, e3]; exact hD e4) hb)
  obtain ⟨a1, a2, a3⟩ := hask
  obtain ⟨r1, r2, r3, r4, r5⟩ := rg_eq a2
  have ex : intAt (u32s (lvT ts)) n = (lvT ts).getD n 0 := intAt_of (u32s_at hl)
  have c0 := r3 0 (by decide); have c1 := r3 1 (by decide); have c2 := r3 2 (by decide); have c3 := r3 3 (by decide)
  have c4 := r3 4 (by decide); have c5 := r3 5 (by decide); have c6 := r3 6 (by decide); have c7 := r3 7 (by decide)
  have l1 : decide (((n + 1 : Nat) : Int) < ((lvT ts).length : Int)) = true → n + 1 < (lvT ts).length := fun h => by have := of_decide_eq_true h; omega
  have l2 : decide (((n + 1 : Nat) : Int) < ((lvT ts).length : Int)) = false → n + 1 = (lvT ts).length := fun h => by have := of_decide_eq_false h; omega
  generalize (lvT ts).getD n 0 = x at *
  rcases a3 with a3 | ⟨e1, e2, e3, e4, e5⟩
  · simp only [Int.toNat_natCast, ex, n1, r2, r5, c0, c1, c2, c3, c4, c5, c6, c7, a3, bne_self_eq_false, beq_self_eq_true, Bool.and_self, Bool.not_true, beqT, beqF, Bool.not_false, true_implies, false_implies, Bool.false_eq_true, Bool.true_eq_false, and_true, true_and, sC_d0_ok, sD_d0_ok]
    repeat' first | exact l1 | exact l2 | apply And.intro | (intro _)
  · have d4 : (h != 0) = true := bne_iff_ne.2 e4
    have d5 : (h != 0 : Bool) = true := d4
    simp only [Int.toNat_natCast, ex, n1, r2, r5, c0, c1, c2, c3, c4, c5, c6, c7, e1, e2, e3, e5, d4, bne_self_eq_false, beq_self_eq_true, Bool.and_self, Bool.not_true, beqT, beqF, Bool.not_false, true_implies, false_implies, Bool.false_eq_true, Bool.true_eq_false, and_true, true_and, sC_d0_ok, sD_d0_ok]
    repeat' first | exact l1 | exact l2 | apply And.intro | (intro _)
theorem sHr_ok {a : Nat} : Good Tryd.prog (isB true) 1 (sHr_F off num ds ty (i : Int) h e (n : Int) ts ks (lvT ts).length (u32s (lvT ts)) a a) (sHr_M off num ds ty (i : Int) h e (n : Int) ts ks (lvT ts).length (u32s (lvT ts)) a a) := by
  have h32 := lv_len ts
  have n1 := add1 (i := n) (by omega)
  refine past_vc EL_ok 1000 (tq_vc off num ds ty i h e n ts ks (lvT ts).length (u32s (lvT ts)) a a (fun i' h' e' n' ts' ks' k' ws' => i' = (i : Int) ∧ h' = h ∧ e' = e ∧ n' = ((n + 1 : Nat) : Int) ∧ ts' = ts ∧ ks' = ks ∧ k' = (lvT ts).length ∧ ws' = u32s (lvT ts) ∧ n + 1 < (lvT ts).length) (fun i' ts' ks' => i' = (i : Int) ∧ ts' = ts ∧ ks' = ks ∧ n + 1 = (lvT ts).length)) ?_ (fun _ _ h => h)
    (fun fs m hb => tq_go (fun i' h' e' n' ts' ks' k' ws' ⟨e1, e2, e3, e4, e5, e6, e7, e8, e9⟩ => by rw [e1, e2, e3, e4, e5, e6, e7, e8]; exact hC e9) (fun i' ts' ks' ⟨e1, e2, e3, e4⟩ => by rw [e1, e2, e3]; exact hD e4) hb)
  obtain ⟨a1, a2, a3⟩ := hask
  obtain ⟨r1, r2, r3, r4, r5⟩ := rg_eq a2
  have ex : intAt (u32s (lvT ts)) n = (lvT ts).getD n 0 := intAt_of (u32s_at hl)
  have c0 := r3 0 (by decide); have c1 := r3 1 (by decide); have c2 := r3 2 (by decide); have c3 := r3 3 (by decide)
  have c4 := r3 4 (by decide); have c5 := r3 5 (by decide); have c6 := r3 6 (by decide); have c7 := r3 7 (by decide)
  have l1 : decide (((n + 1 : Nat) : Int) < ((lvT ts).length : Int)) = true → n + 1 < (lvT ts).length := fun h => by have := of_decide_eq_true h; omega
  have l2 : decide (((n + 1 : Nat) : Int) < ((lvT ts).length : Int)) = false → n + 1 = (lvT ts).length := fun h => by have := of_decide_eq_false h; omega
  generalize (lvT ts).getD n 0 = x at *
  rcases a3 with a3 | ⟨e1, e2, e3, e4, e5⟩
  · simp only [Int.toNat_natCast, ex, n1, r2, r5, c0, c1, c2, c3, c4, c5, c6, c7, a3, bne_self_eq_false, beq_self_eq_true, Bool.and_self, Bool.not_true, beqT, beqF, Bool.not_false, true_implies, false_implies, Bool.false_eq_true, Bool.true_eq_false, and_true, true_and, sC_d0_ok, sD_d0_ok]
    repeat' first | exact l1 | exact l2 | apply And.intro | (intro _)
  · have d4 : (h != 0) = true := bne_iff_ne.2 e4
    simp only [Int.toNat_natCast, ex, n1, r2, r5, c0, c1, c2, c3, c4, c5, c6, c7, e1, e2, e3, e5, d4, bne_self_eq_false, beq_self_eq_true, Bool.and_self, Bool.not_true, beqT, beqF, Bool.not_false, true_implies, false_implies, Bool.false_eq_true, Bool.true_eq_false, and_true, true_and, sC_d0_ok, sD_d0_ok]
    repeat' first | exact l1 | exact l2 | apply And.intro | (intro _)
end
end
end Go.Proofs.YtjjeahnbppmigaaDoor
/- Of TableAbove: the rounds over what was there. No condition. -/
namespace Go.Proofs.YtjjeahnbppmigaaDoor
set_option linter.unusedSectionVars false
variable [Gh]
set_option maxRecDepth 100000
set_option linter.unusedSimpArgs false
set_option linter.unusedVariables false
section
variable {off num : Nat} {ds : Array Value} {ty : TypeId} {ts ks : Array Value} {h e : Int} {i : Nat}
section
variable {n : Nat} (hi : TI ts) (hk : TI ks) (hl : n < (lvT ts).length) (hask : Asks ds off i ts ks h e ((lvT ts).getD n 0)) (hC : n + 1 < (lvT ts).length → GC off num ds ty i h e ts ks (n + 1)) (hD : n + 1 = (lvT ts).length → GD off num ds ty i ts ks)
include hi hk hl hask hC hD
theorem sG_ok (hv : nV (slF ts ((lvT ts).getD n 0)) = 0) : Good Tryd.prog (isB true) 1 (sG_F off num ds ty (i : Int) h e (n : Int) ts ks (lvT ts).length (u32s (lvT ts))) (sG_M off num ds ty (i : Int) h e (n : Int) ts ks (lvT ts).length (u32s (lvT ts))) := by
  refine past_vc EL_ok 1000 (tgF off num ds ty i h e n ts ks (lvT ts).length (u32s (lvT ts)) (fun i' h' e' n' ts' ks' k' ws' => i' = (i : Int) ∧ h' = h ∧ e' = e ∧ n' = (n : Int) ∧ ts' = ts ∧ ks' = ks ∧ k' = (lvT ts).length ∧ ws' = u32s (lvT ts))) ?_ (fun _ _ h => h)
    (fun fs m hb => sGx_good (fun i' h' e' n' ts' ks' k' ws' ⟨e1, e2, e3, e4, e5, e6, e7, e8⟩ => by rw [e1, e2, e3, e4, e5, e6, e7, e8]; exact sH_ok hi hk hl hask hC hD) hb)
  have ex : intAt (u32s (lvT ts)) n = (lvT ts).getD n 0 := intAt_of (u32s_at hl)
  have ew : IsInt .u32 (u32s (lvT ts)) n := isI_of (u32s_at hl)
  have hx := lv_in hi.ok (.inr (lv_at hl))
  have hx' : 0 ≤ (lvT ts).getD n 0 ∧ (lvT ts).getD n 0 < 4294967296 := hx
  have h1 : (0 : Int) ≤ (n : Int) ∧ (n : Int) < ((lvT ts).length : Int) := by omega
  obtain ⟨a1, a2, a3⟩ := hask
  have hv' : nV (slF ks ((lvT ts).getD n 0)) = 0 := by rw [(rg_eq a2).2.2.2.1]; exact hv
  have hs := hk.ok.sz
  have hb := hk.ok
  simp only [Int.toNat_natCast, Nat.zero_add, Nat.mul_one, ex, ew, hx', h1, hs, hb, a1, hv', decide_true, true_implies, false_implies, Bool.false_eq_true, Bool.true_eq_false, and_true, true_and, sH_d0_ok]
theorem sR_ok (hv : nV (slF ts ((lvT ts).getD n 0)) ≠ 0) : Good Tryd.prog (isB true) 1 (sGr_F off num ds ty (i : Int) h e (n : Int) ts ks (lvT ts).length (u32s (lvT ts)) (nV (slF ts ((lvT ts).getD n 0)))) (sGr_M off num ds ty (i : Int) h e (n : Int) ts ks (lvT ts).length (u32s (lvT ts)) (nV (slF ts ((lvT ts).getD n 0)))) := by
  refine past_vc EL_ok 1000 (trF off num ds ty i h e n ts ks (lvT ts).length (u32s (lvT ts)) (nV (slF ts ((lvT ts).getD n 0))) (fun i' h' e' n' ts' ks' k' ws' a b => i' = (i : Int) ∧ h' = h ∧ e' = e ∧ n' = (n : Int) ∧ ts' = ts ∧ ks' = ks ∧ k' = (lvT ts).length ∧ ws' = u32s (lvT ts) ∧ a = nV (slF ts ((lvT ts).getD n 0)) ∧ b = nV (slF ts ((lvT ts).getD n 0)))) ?_ (fun _ _ h => h)
    (fun fs m hb => sRx_good (fun i' h' e' n' ts' ks' k' ws' a b ⟨e1, e2, e3, e4, e5, e6, e7, e8, e9, e10⟩ => by rw [e1, e2, e3, e4, e5, e6, e7, e8, e9, e10]; exact sHr_ok hi hk hl hask hC hD) hb)
  have ex : intAt (u32s (lvT ts)) n = (lvT ts).getD n 0 := intAt_of (u32s_at hl)
  have ew : IsInt .u32 (u32s (lvT ts)) n := isI_of (u32s_at hl)
  have hx := lv_in hi.ok (.inr (lv_at hl))
  have hx' : 0 ≤ (lvT ts).getD n 0 ∧ (lvT ts).getD n 0 < 4294967296 := hx
  have h1 : (0 : Int) ≤ (n : Int) ∧ (n : Int) < ((lvT ts).length : Int) := by omega
  obtain ⟨a1, a2, a3⟩ := hask
  have e1 : slF ks ((lvT ts).getD n 0) = slF ts ((lvT ts).getD n 0) := (rg_eq a2).2.2.2.1
  have d : decide (nV (slF ts ((lvT ts).getD n 0)) = 0) = false := decide_eq_false hv
  have hs := hk.ok.sz
  have hb := hk.ok
  simp only [Int.toNat_natCast, Nat.zero_add, Nat.mul_one, ex, ew, hx', h1, hs, hb, a1, e1, d, true_implies, false_implies, Bool.false_eq_true, Bool.true_eq_false, and_true, true_and, sH_d0_ok]
end
theorem sC_one {n : Nat} (hi : TI ts) (hk : TI ks) (ha : Acts ts ks h e (intAt ds (off + i * 15))) (hl : n < (lvT ts).length) (hC : n + 1 < (lvT ts).length → GC off num ds ty i h e ts ks (n + 1)) (hD : n + 1 = (lvT ts).length → GD off num ds ty i ts ks) : GC off num ds ty i h e ts ks n := by
  have h32 := lv_len ts
  have n1 := add1 (i := n) (by omega)
  have hx := lv_at hl
  have hask : ¬ ((lvT ts).getD n 0 = h ∧ e = 0) → Asks ds off i ts ks h e ((lvT ts).getD n 0) := fun k => (ha _ hx).resolve_left k
  refine past_vc EL_ok 1000 (tcF off num ds ty i h e n ts ks (lvT ts).length (u32s (lvT ts)) (fun i' h' e' n' ts' ks' k' ws' => i' = (i : Int) ∧ h' = h ∧ e' = e ∧ n' = ((n + 1 : Nat) : Int) ∧ ts' = ts ∧ ks' = ks ∧ k' = (lvT ts).length ∧ ws' = u32s (lvT ts) ∧ n + 1 < (lvT ts).length) (fun i' ts' ks' => i' = (i : Int) ∧ ts' = ts ∧ ks' = ks ∧ n + 1 = (lvT ts).length)
    (fun i' h' e' n' ts' ks' k' ws' => i' = (i : Int) ∧ h' = h ∧ e' = e ∧ n' = (n : Int) ∧ ts' = ts ∧ ks' = ks ∧ k' = (lvT ts).length ∧ ws' = u32s (lvT ts) ∧ nV (slF ts ((lvT ts).getD n 0)) = 0 ∧ ¬ ((lvT ts).getD n 0 = h ∧ e = 0))
    (fun i' h' e' n' ts' ks' k' ws' a => i' = (i : Int) ∧ h' = h ∧ e' = e ∧ n' = (n : Int) ∧ ts' = ts ∧ ks' = ks ∧ k' = (lvT ts).length ∧ ws' = u32s (lvT ts) ∧ a = nV (slF ts ((lvT ts).getD n 0)) ∧ nV (slF ts ((lvT ts).getD n 0)) ≠ 0 ∧ ¬ ((lvT ts).getD n 0 = h ∧ e = 0))) ?_ (fun _ _ h => h)
    (fun fs m hb => sCx_good (fun i' h' e' n' ts' ks' k' ws' ⟨e1, e2, e3, e4, e5, e6, e7, e8, e9⟩ => by rw [e1, e2, e3, e4, e5, e6, e7, e8]; exact hC e9) (fun i' ts' ks' ⟨e1, e2, e3, e4⟩ => by rw [e1, e2, e3]; exact hD e4)
      (fun i' h' e' n' ts' ks' k' ws' ⟨e1, e2, e3, e4, e5, e6, e7, e8, e9, e10⟩ => by rw [e1, e2, e3, e4, e5, e6, e7, e8]; exact sG_ok hi hk hl (hask e10) hC hD e9)
      (fun i' h' e' n' ts' ks' k' ws' a ⟨e1, e2, e3, e4, e5, e6, e7, e8, e9, e10, e11⟩ => by rw [e1, e2, e3, e4, e5, e6, e7, e8, e9]; exact sR_ok hi hk hl (hask e11) hC hD e10) hb)
  have ex : intAt (u32s (lvT ts)) n = (lvT ts).getD n 0 := intAt_of (u32s_at hl)
  have ew : IsInt .u32 (u32s (lvT ts)) n := isI_of (u32s_at hl)
  have hx0 := lv_in hi.ok (.inr hx)
  have hx' : 0 ≤ (lvT ts).getD n 0 ∧ (lvT ts).getD n 0 < 4294967296 := hx0
  have h1 : (0 : Int) ≤ (n : Int) ∧ (n : Int) < ((lvT ts).length : Int) := by omega
  have hg := (lv_mem hi.ok).1 hx
  have hs := hi.ok.sz
  have hb := hi.ok
  have l1 : decide (((n + 1 : Nat) : Int) < ((lvT ts).length : Int)) = true → n + 1 < (lvT ts).length := fun h => by have := of_decide_eq_true h; omega
  have l2 : decide (((n + 1 : Nat) : Int) < ((lvT ts).length : Int)) = false → n + 1 = (lvT ts).length := fun h => by have := of_decide_eq_false h; omega
  generalize (lvT ts).getD n 0 = x at *
  cases c1 : (x == h) with
  | true =>
    cases c2 : (e == 0) with
    | true =>
      simp only [Int.toNat_natCast, Nat.zero_add, Nat.mul_one, ex, ew, hx', h1, hs, hb, hg, n1, c1, c2, beqT, true_implies, false_implies, Bool.false_eq_true, Bool.true_eq_false, and_true, true_and, sC_d0_ok, sD_d0_ok]
      exact ⟨l1, l2⟩
    | false =>
      have no : ¬ (x = h ∧ e = 0) := fun k => beq_eq_false_iff_ne.1 c2 k.2
      have no' : (¬ (x = h ∧ e = 0)) = True := eq_true no
      simp only [Int.toNat_natCast, Nat.zero_add, Nat.mul_one, ex, ew, hx', h1, hs, hb, hg, n1, c1, c2, beqT, no', true_implies, false_implies, Bool.false_eq_true, Bool.true_eq_false, and_true, true_and, sG_d0_ok]
      exact ⟨fun h => of_decide_eq_true h, fun h => of_decide_eq_false h⟩
  | false =>
    have no : ¬ (x = h ∧ e = 0) := fun k => beq_eq_false_iff_ne.1 c1 k.1
    have no' : (¬ (x = h ∧ e = 0)) = True := eq_true no
    simp only [Int.toNat_natCast, Nat.zero_add, Nat.mul_one, ex, ew, hx', h1, hs, hb, hg, n1, c1, beqT, no', true_implies, false_implies, Bool.false_eq_true, Bool.true_eq_false, and_true, true_and, sG_d0_ok]
    exact ⟨fun h => of_decide_eq_true h, fun h => of_decide_eq_false h⟩
theorem sC_ok (hi : TI ts) (hk : TI ks) (ha : Acts ts ks h e (intAt ds (off + i * 15))) (hD : GD off num ds ty i ts ks) : ∀ k n : Nat, n + (k + 1) = (lvT ts).length → GC off num ds ty i h e ts ks n := by
  intro k
  induction k with
  | zero => intro n hn; exact sC_one hi hk ha (by omega) (fun h => by omega) (fun _ => hD)
  | succ k ih => intro n hn; exact sC_one hi hk ha (by omega) (fun _ => ih (n + 1) (by omega)) (fun _ => hD)
def GB (off num : Nat) (ds : Array Value) (ty : TypeId) (i : Nat) (h e : Int) (ts ks : Array Value) : Prop := Good Tryd.prog (isB true) 1 (sB_F off num ds ty (i : Int) h e ts ks) (sB_M off num ds ty (i : Int) h e ts ks)
theorem sB_ok (hi : TI ts) (hk : TI ks) (ha : Acts ts ks h e (intAt ds (off + i * 15))) (hn : num ≤ 150) (hin : i < num) (hA : i + 1 < num → GA off num ds ty (i + 1) ks) : GB off num ds ty i h e ts ks := by
  have hD : GD off num ds ty i ts ks := sD_ok hi.ok.sz hk hn hin hA
  refine past_vc EL_ok 1000 (tb_vc off num ds ty i h e ts ks (fun i' h' e' n' ts' ks' k' ws' => i' = (i : Int) ∧ h' = h ∧ e' = e ∧ n' = ((0 : Nat) : Int) ∧ ts' = ts ∧ ks' = ks ∧ k' = (lvT ts).length ∧ ws' = u32s (lvT ts) ∧ 0 < (lvT ts).length) (fun i' ts' ks' => i' = (i : Int) ∧ ts' = ts ∧ ks' = ks)) ?_ (fun _ _ h => h)
    (fun fs m hb => tb_go (fun i' h' e' n' ts' ks' k' ws' ⟨e1, e2, e3, e4, e5, e6, e7, e8, e9⟩ => by
      rw [e1, e2, e3, e4, e5, e6, e7, e8]
      exact sC_ok hi hk ha hD ((lvT ts).length - 1) 0 (by omega)) (fun i' ts' ks' ⟨e1, e2, e3⟩ => by rw [e1, e2, e3]; exact hD) hb)
  have hs := hi.ok.sz
  have hbk : BkOk (bkB ts) := hi.ok.bk
  have h64 : (64 : Nat) ≤ 448 := by decide
  simp only [bk_f, lv_f, hs, hbk, h64, implies_true, true_implies, false_implies, Bool.false_eq_true, Bool.true_eq_false, and_true, true_and, sC_d0_ok, sD_d0_ok]
  intro _
  refine fun h' => ⟨rfl, ?_⟩
  have := of_decide_eq_true h'
  omega
end
end Go.Proofs.YtjjeahnbppmigaaDoor
