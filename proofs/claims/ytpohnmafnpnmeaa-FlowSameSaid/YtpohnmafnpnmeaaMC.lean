/- Of flow: FlowSame: its states. No condition. -/
import Derived.Test.YtpohnmafnpnmeaaMB
set_option linter.unusedVariables false
set_option linter.unusedSimpArgs false
namespace Go.Proofs.Ytpohnmafnpnmeaa
set_option linter.unusedVariables false
abbrev Q8y := Int → Nat → Int → Int → Int → Int → Int → Int → Int → Int → Int → Array Value → Nat → Array Value → Nat → Int → Int → Int → Int → Int → Int → Int → Int → Int → Array Value → Prop
abbrev Q9y := Int → Nat → Int → Int → Int → Int → Int → Int → Int → Int → Int → Array Value → Nat → Array Value → Nat → Int → Int → Int → Int → Int → Int → Int → Int → Int → Array Value → Nat → Array Value → Prop
noncomputable def Fy (kd : Nat) : Env := ⟨Try.prog, fnOf, conS kd, haltAt [4012, 4017, 4024, 4025]⟩
noncomputable def cy_d0 : List SIt := sekF Try.f4 12
noncomputable def cy_F (off : Nat) (num : Nat) (cs : Array Value) (ty : TypeId) (i : Int) (k : Nat) (nx : Int) (g0 g1 g2 g3 g4 g5 g6 g7 : Int) (row : Array Value) (tk : Nat) (ts : Array Value) (bk : Nat) (ny : Int) (h0 h1 h2 h3 h4 h5 h6 h7 : Int) (bow : Array Value) (uk : Nat) (us : Array Value) : List SFr := [frOf 4 Try.f4 [(0, prS off num), (1, .s (.c (.f .e0))), (5, ptr 1 (.l 0)), (7, boS 3 tk), (9, ptr 4 (.l 0)), (11, boS 6 uk), (13, i64 (.o i))] cy_d0]
noncomputable def cy_M (off : Nat) (num : Nat) (cs : Array Value) (ty : TypeId) (i : Int) (k : Nat) (nx : Int) (g0 g1 g2 g3 g4 g5 g6 g7 : Int) (row : Array Value) (tk : Nat) (ts : Array Value) (bk : Nat) (ny : Int) (h0 h1 h2 h3 h4 h5 h6 h7 : Int) (bow : Array Value) (uk : Nat) (us : Array Value) : SMem := mkM 7 [(0, ⟨.raw cs, ty, false⟩), (1, ⟨.ls [cd 2 k, .f (.int .i64 (.o nx)), .f (.int .u64 (.o g0)), .f (.int .u64 (.o g1)), .f (.int .u64 (.o g2)), .f (.int .u64 (.o g3)), .f (.int .u64 (.o g4)), .f (.int .u64 (.o g5)), .f (.int .u64 (.o g6)), .f (.int .u64 (.o g7))], 28, true⟩), (2, ⟨.pop row, 52, true⟩), (3, ⟨.pop ts, 52, true⟩), (4, ⟨.ls [cd 5 bk, .f (.int .i64 (.o ny)), .f (.int .u64 (.o h0)), .f (.int .u64 (.o h1)), .f (.int .u64 (.o h2)), .f (.int .u64 (.o h3)), .f (.int .u64 (.o h4)), .f (.int .u64 (.o h5)), .f (.int .u64 (.o h6)), .f (.int .u64 (.o h7))], 28, true⟩), (5, ⟨.pop bow, 52, true⟩), (6, ⟨.pop us, 52, true⟩)]
noncomputable def cy_n (off : Nat) (num : Nat) (cs : Array Value) (ty : TypeId) (Q : Q9y) (fs : List SFr) (m : SMem) : Prop := (match frNth fs 0 with | some f0 => (match rdI f0 13 with | some i => (match rdP f0 5 with | some pa => (match rdSI f0 7 with | some pt => (match rdSN f0 7 with | some tk => (match rdP f0 9 with | some pb => (match rdSI f0 11 with | some pu => (match rdSN f0 11 with | some uk => (match rdA m pu with | some us => (match rdCP m pa 0 with | some pc => (match rdCN m pa 0 with | some k => (match rdCI m pa 1 with | some nx => (match rdCI m pa 2 with | some g0 => (match rdCI m pa 3 with | some g1 => (match rdCI m pa 4 with | some g2 => (match rdCI m pa 5 with | some g3 => (match rdCI m pa 6 with | some g4 => (match rdCI m pa 7 with | some g5 => (match rdCI m pa 8 with | some g6 => (match rdCI m pa 9 with | some g7 => (match rdA m pc with | some row => (match rdA m pt with | some ts => (match rdCP m pb 0 with | some pd => (match rdCN m pb 0 with | some bk => (match rdCI m pb 1 with | some ny => (match rdCI m pb 2 with | some h0 => (match rdCI m pb 3 with | some h1 => (match rdCI m pb 4 with | some h2 => (match rdCI m pb 5 with | some h3 => (match rdCI m pb 6 with | some h4 => (match rdCI m pb 7 with | some h5 => (match rdCI m pb 8 with | some h6 => (match rdCI m pb 9 with | some h7 => (match rdA m pd with | some bow => Q i k nx g0 g1 g2 g3 g4 g5 g6 g7 row tk ts bk ny h0 h1 h2 h3 h4 h5 h6 h7 bow uk us ∧ subOk 1 [(1, pa), (2, pc), (3, pt), (4, pb), (5, pd), (6, pu)] (cy_F off num cs ty i k nx g0 g1 g2 g3 g4 g5 g6 g7 row tk ts bk ny h0 h1 h2 h3 h4 h5 h6 h7 bow uk us) (cy_M off num cs ty i k nx g0 g1 g2 g3 g4 g5 g6 g7 row tk ts bk ny h0 h1 h2 h3 h4 h5 h6 h7 bow uk us) fs m | none => False) | none => False) | none => False) | none => False) | none => False) | none => False) | none => False) | none => False) | none => False) | none => False) | none => False) | none => False) | none => False) | none => False) | none => False) | none => False) | none => False) | none => False) | none => False) | none => False) | none => False) | none => False) | none => False) | none => False) | none => False) | none => False) | none => False) | none => False) | none => False) | none => False) | none => False) | none => False) | none => False) | none => False)
noncomputable def sy_d0 : List SIt := sekF Try.f4 17
noncomputable def sy_F (off : Nat) (num : Nat) (cs : Array Value) (ty : TypeId) (i : Int) (k : Nat) (nx : Int) (g0 g1 g2 g3 g4 g5 g6 g7 : Int) (row : Array Value) (tk : Nat) (ts : Array Value) (bk : Nat) (ny : Int) (h0 h1 h2 h3 h4 h5 h6 h7 : Int) (bow : Array Value) : List SFr := [frOf 4 Try.f4 [(0, prS off num), (1, .s (.c (.f .e0))), (5, ptr 1 (.l 0)), (7, boS 3 tk), (9, ptr 4 (.l 0)), (14, i64 (.o i))] sy_d0]
noncomputable def sy_M (off : Nat) (num : Nat) (cs : Array Value) (ty : TypeId) (i : Int) (k : Nat) (nx : Int) (g0 g1 g2 g3 g4 g5 g6 g7 : Int) (row : Array Value) (tk : Nat) (ts : Array Value) (bk : Nat) (ny : Int) (h0 h1 h2 h3 h4 h5 h6 h7 : Int) (bow : Array Value) : SMem := mkM 6 [(0, ⟨.raw cs, ty, false⟩), (1, ⟨.ls [cd 2 k, .f (.int .i64 (.o nx)), .f (.int .u64 (.o g0)), .f (.int .u64 (.o g1)), .f (.int .u64 (.o g2)), .f (.int .u64 (.o g3)), .f (.int .u64 (.o g4)), .f (.int .u64 (.o g5)), .f (.int .u64 (.o g6)), .f (.int .u64 (.o g7))], 28, true⟩), (2, ⟨.pop row, 52, true⟩), (3, ⟨.pop ts, 52, true⟩), (4, ⟨.ls [cd 5 bk, .f (.int .i64 (.o ny)), .f (.int .u64 (.o h0)), .f (.int .u64 (.o h1)), .f (.int .u64 (.o h2)), .f (.int .u64 (.o h3)), .f (.int .u64 (.o h4)), .f (.int .u64 (.o h5)), .f (.int .u64 (.o h6)), .f (.int .u64 (.o h7))], 28, true⟩), (5, ⟨.pop bow, 52, true⟩)]
noncomputable def sy_n (off : Nat) (num : Nat) (cs : Array Value) (ty : TypeId) (Q : Q8y) (fs : List SFr) (m : SMem) : Prop := (match frNth fs 0 with | some f0 => (match rdI f0 14 with | some i => (match rdP f0 5 with | some pa => (match rdSI f0 7 with | some pt => (match rdSN f0 7 with | some tk => (match rdP f0 9 with | some pb => (match rdCP m pa 0 with | some pc => (match rdCN m pa 0 with | some k => (match rdCI m pa 1 with | some nx => (match rdCI m pa 2 with | some g0 => (match rdCI m pa 3 with | some g1 => (match rdCI m pa 4 with | some g2 => (match rdCI m pa 5 with | some g3 => (match rdCI m pa 6 with | some g4 => (match rdCI m pa 7 with | some g5 => (match rdCI m pa 8 with | some g6 => (match rdCI m pa 9 with | some g7 => (match rdA m pc with | some row => (match rdA m pt with | some ts => (match rdCP m pb 0 with | some pd => (match rdCN m pb 0 with | some bk => (match rdCI m pb 1 with | some ny => (match rdCI m pb 2 with | some h0 => (match rdCI m pb 3 with | some h1 => (match rdCI m pb 4 with | some h2 => (match rdCI m pb 5 with | some h3 => (match rdCI m pb 6 with | some h4 => (match rdCI m pb 7 with | some h5 => (match rdCI m pb 8 with | some h6 => (match rdCI m pb 9 with | some h7 => (match rdA m pd with | some bow => Q i k nx g0 g1 g2 g3 g4 g5 g6 g7 row tk ts bk ny h0 h1 h2 h3 h4 h5 h6 h7 bow ∧ subOk 1 [(1, pa), (2, pc), (3, pt), (4, pb), (5, pd)] (sy_F off num cs ty i k nx g0 g1 g2 g3 g4 g5 g6 g7 row tk ts bk ny h0 h1 h2 h3 h4 h5 h6 h7 bow) (sy_M off num cs ty i k nx g0 g1 g2 g3 g4 g5 g6 g7 row tk ts bk ny h0 h1 h2 h3 h4 h5 h6 h7 bow) fs m | none => False) | none => False) | none => False) | none => False) | none => False) | none => False) | none => False) | none => False) | none => False) | none => False) | none => False) | none => False) | none => False) | none => False) | none => False) | none => False) | none => False) | none => False) | none => False) | none => False) | none => False) | none => False) | none => False) | none => False) | none => False) | none => False) | none => False) | none => False) | none => False) | none => False) | none => False)
noncomputable def uy_d0 : List SIt := sekF Try.f4 24
noncomputable def uy_F (off : Nat) (num : Nat) (cs : Array Value) (ty : TypeId) (i : Int) (k : Nat) (nx : Int) (g0 g1 g2 g3 g4 g5 g6 g7 : Int) (row : Array Value) (tk : Nat) (ts : Array Value) (bk : Nat) (ny : Int) (h0 h1 h2 h3 h4 h5 h6 h7 : Int) (bow : Array Value) : List SFr := [frOf 4 Try.f4 [(0, prS off num), (1, .s (.c (.f .e0))), (5, ptr 1 (.l 0)), (7, boS 3 tk), (9, ptr 4 (.l 0)), (14, i64 (.o i))] uy_d0]
noncomputable def uy_M (off : Nat) (num : Nat) (cs : Array Value) (ty : TypeId) (i : Int) (k : Nat) (nx : Int) (g0 g1 g2 g3 g4 g5 g6 g7 : Int) (row : Array Value) (tk : Nat) (ts : Array Value) (bk : Nat) (ny : Int) (h0 h1 h2 h3 h4 h5 h6 h7 : Int) (bow : Array Value) : SMem := mkM 6 [(0, ⟨.raw cs, ty, false⟩), (1, ⟨.ls [cd 2 k, .f (.int .i64 (.o nx)), .f (.int .u64 (.o g0)), .f (.int .u64 (.o g1)), .f (.int .u64 (.o g2)), .f (.int .u64 (.o g3)), .f (.int .u64 (.o g4)), .f (.int .u64 (.o g5)), .f (.int .u64 (.o g6)), .f (.int .u64 (.o g7))], 28, true⟩), (2, ⟨.pop row, 52, true⟩), (3, ⟨.pop ts, 52, true⟩), (4, ⟨.ls [cd 5 bk, .f (.int .i64 (.o ny)), .f (.int .u64 (.o h0)), .f (.int .u64 (.o h1)), .f (.int .u64 (.o h2)), .f (.int .u64 (.o h3)), .f (.int .u64 (.o h4)), .f (.int .u64 (.o h5)), .f (.int .u64 (.o h6)), .f (.int .u64 (.o h7))], 28, true⟩), (5, ⟨.pop bow, 52, true⟩)]
noncomputable def uy_n (off : Nat) (num : Nat) (cs : Array Value) (ty : TypeId) (Q : Q8y) (fs : List SFr) (m : SMem) : Prop := (match frNth fs 0 with | some f0 => (match rdI f0 14 with | some i => (match rdP f0 5 with | some pa => (match rdSI f0 7 with | some pt => (match rdSN f0 7 with | some tk => (match rdP f0 9 with | some pb => (match rdCP m pa 0 with | some pc => (match rdCN m pa 0 with | some k => (match rdCI m pa 1 with | some nx => (match rdCI m pa 2 with | some g0 => (match rdCI m pa 3 with | some g1 => (match rdCI m pa 4 with | some g2 => (match rdCI m pa 5 with | some g3 => (match rdCI m pa 6 with | some g4 => (match rdCI m pa 7 with | some g5 => (match rdCI m pa 8 with | some g6 => (match rdCI m pa 9 with | some g7 => (match rdA m pc with | some row => (match rdA m pt with | some ts => (match rdCP m pb 0 with | some pd => (match rdCN m pb 0 with | some bk => (match rdCI m pb 1 with | some ny => (match rdCI m pb 2 with | some h0 => (match rdCI m pb 3 with | some h1 => (match rdCI m pb 4 with | some h2 => (match rdCI m pb 5 with | some h3 => (match rdCI m pb 6 with | some h4 => (match rdCI m pb 7 with | some h5 => (match rdCI m pb 8 with | some h6 => (match rdCI m pb 9 with | some h7 => (match rdA m pd with | some bow => Q i k nx g0 g1 g2 g3 g4 g5 g6 g7 row tk ts bk ny h0 h1 h2 h3 h4 h5 h6 h7 bow ∧ subOk 1 [(1, pa), (2, pc), (3, pt), (4, pb), (5, pd)] (uy_F off num cs ty i k nx g0 g1 g2 g3 g4 g5 g6 g7 row tk ts bk ny h0 h1 h2 h3 h4 h5 h6 h7 bow) (uy_M off num cs ty i k nx g0 g1 g2 g3 g4 g5 g6 g7 row tk ts bk ny h0 h1 h2 h3 h4 h5 h6 h7 bow) fs m | none => False) | none => False) | none => False) | none => False) | none => False) | none => False) | none => False) | none => False) | none => False) | none => False) | none => False) | none => False) | none => False) | none => False) | none => False) | none => False) | none => False) | none => False) | none => False) | none => False) | none => False) | none => False) | none => False) | none => False) | none => False) | none => False) | none => False) | none => False) | none => False) | none => False) | none => False)
noncomputable def vy_d0 : List SIt := sekF Try.f4 25
noncomputable def vy_F (off : Nat) (num : Nat) (cs : Array Value) (ty : TypeId) (i : Int) (k : Nat) (nx : Int) (g0 g1 g2 g3 g4 g5 g6 g7 : Int) (row : Array Value) (tk : Nat) (ts : Array Value) (bk : Nat) (ny : Int) (h0 h1 h2 h3 h4 h5 h6 h7 : Int) (bow : Array Value) : List SFr := [frOf 4 Try.f4 [(0, prS off num), (1, .s (.c (.f .e0))), (5, ptr 1 (.l 0)), (7, boS 3 tk), (9, ptr 4 (.l 0)), (14, i64 (.o i))] vy_d0]
noncomputable def vy_M (off : Nat) (num : Nat) (cs : Array Value) (ty : TypeId) (i : Int) (k : Nat) (nx : Int) (g0 g1 g2 g3 g4 g5 g6 g7 : Int) (row : Array Value) (tk : Nat) (ts : Array Value) (bk : Nat) (ny : Int) (h0 h1 h2 h3 h4 h5 h6 h7 : Int) (bow : Array Value) : SMem := mkM 6 [(0, ⟨.raw cs, ty, false⟩), (1, ⟨.ls [cd 2 k, .f (.int .i64 (.o nx)), .f (.int .u64 (.o g0)), .f (.int .u64 (.o g1)), .f (.int .u64 (.o g2)), .f (.int .u64 (.o g3)), .f (.int .u64 (.o g4)), .f (.int .u64 (.o g5)), .f (.int .u64 (.o g6)), .f (.int .u64 (.o g7))], 28, true⟩), (2, ⟨.pop row, 52, true⟩), (3, ⟨.pop ts, 52, true⟩), (4, ⟨.ls [cd 5 bk, .f (.int .i64 (.o ny)), .f (.int .u64 (.o h0)), .f (.int .u64 (.o h1)), .f (.int .u64 (.o h2)), .f (.int .u64 (.o h3)), .f (.int .u64 (.o h4)), .f (.int .u64 (.o h5)), .f (.int .u64 (.o h6)), .f (.int .u64 (.o h7))], 28, true⟩), (5, ⟨.pop bow, 52, true⟩)]
noncomputable def vy_n (off : Nat) (num : Nat) (cs : Array Value) (ty : TypeId) (Q : Q8y) (fs : List SFr) (m : SMem) : Prop := (match frNth fs 0 with | some f0 => (match rdI f0 14 with | some i => (match rdP f0 5 with | some pa => (match rdSI f0 7 with | some pt => (match rdSN f0 7 with | some tk => (match rdP f0 9 with | some pb => (match rdCP m pa 0 with | some pc => (match rdCN m pa 0 with | some k => (match rdCI m pa 1 with | some nx => (match rdCI m pa 2 with | some g0 => (match rdCI m pa 3 with | some g1 => (match rdCI m pa 4 with | some g2 => (match rdCI m pa 5 with | some g3 => (match rdCI m pa 6 with | some g4 => (match rdCI m pa 7 with | some g5 => (match rdCI m pa 8 with | some g6 => (match rdCI m pa 9 with | some g7 => (match rdA m pc with | some row => (match rdA m pt with | some ts => (match rdCP m pb 0 with | some pd => (match rdCN m pb 0 with | some bk => (match rdCI m pb 1 with | some ny => (match rdCI m pb 2 with | some h0 => (match rdCI m pb 3 with | some h1 => (match rdCI m pb 4 with | some h2 => (match rdCI m pb 5 with | some h3 => (match rdCI m pb 6 with | some h4 => (match rdCI m pb 7 with | some h5 => (match rdCI m pb 8 with | some h6 => (match rdCI m pb 9 with | some h7 => (match rdA m pd with | some bow => Q i k nx g0 g1 g2 g3 g4 g5 g6 g7 row tk ts bk ny h0 h1 h2 h3 h4 h5 h6 h7 bow ∧ subOk 1 [(1, pa), (2, pc), (3, pt), (4, pb), (5, pd)] (vy_F off num cs ty i k nx g0 g1 g2 g3 g4 g5 g6 g7 row tk ts bk ny h0 h1 h2 h3 h4 h5 h6 h7 bow) (vy_M off num cs ty i k nx g0 g1 g2 g3 g4 g5 g6 g7 row tk ts bk ny h0 h1 h2 h3 h4 h5 h6 h7 bow) fs m | none => False) | none => False) | none => False) | none => False) | none => False) | none => False) | none => False) | none => False) | none => False) | none => False) | none => False) | none => False) | none => False) | none => False) | none => False) | none => False) | none => False) | none => False) | none => False) | none => False) | none => False) | none => False) | none => False) | none => False) | none => False) | none => False) | none => False) | none => False) | none => False) | none => False) | none => False)
noncomputable def by_t (off : Nat) (num : Nat) (cs : Array Value) (ty : TypeId) : Tree := run (Fy 0) 8000 1 [callFr 4 Try.f4.ntmps [prS off num, .s (.c (.f .e0))] (Try.f4.body.getD .skip)] (rawM cs ty)
noncomputable def by_x (off : Nat) (num : Nat) (cs : Array Value) (ty : TypeId) (Qcy : Q9y) (fs : List SFr) (m : SMem) : Prop := cy_n off num cs ty Qcy fs m
noncomputable def dy_t (off : Nat) (num : Nat) (cs : Array Value) (ty : TypeId) (i : Int) (k : Nat) (nx : Int) (g0 g1 g2 g3 g4 g5 g6 g7 : Int) (row : Array Value) (tk : Nat) (ts : Array Value) (bk : Nat) (ny : Int) (h0 h1 h2 h3 h4 h5 h6 h7 : Int) (bow : Array Value) (uk : Nat) (us : Array Value) : Tree := stepT (Fy 0).go (run (Fy 0) 1000) 1 (cy_F off num cs ty i k nx g0 g1 g2 g3 g4 g5 g6 g7 row tk ts bk ny h0 h1 h2 h3 h4 h5 h6 h7 bow uk us) (cy_M off num cs ty i k nx g0 g1 g2 g3 g4 g5 g6 g7 row tk ts bk ny h0 h1 h2 h3 h4 h5 h6 h7 bow uk us)
noncomputable def dy_x (off : Nat) (num : Nat) (cs : Array Value) (ty : TypeId) (i : Int) (k : Nat) (nx : Int) (g0 g1 g2 g3 g4 g5 g6 g7 : Int) (row : Array Value) (tk : Nat) (ts : Array Value) (bk : Nat) (ny : Int) (h0 h1 h2 h3 h4 h5 h6 h7 : Int) (bow : Array Value) (uk : Nat) (us : Array Value) (Qcy : Q9y) (Qsy : Q8y) (fs : List SFr) (m : SMem) : Prop := (match Nat.beq (atR fs) 4012 with | true => cy_n off num cs ty Qcy fs m | false => sy_n off num cs ty Qsy fs m)
noncomputable def xy_t (kd : Nat) (off : Nat) (num : Nat) (cs : Array Value) (ty : TypeId) (i : Int) (k : Nat) (nx : Int) (g0 g1 g2 g3 g4 g5 g6 g7 : Int) (row : Array Value) (tk : Nat) (ts : Array Value) (bk : Nat) (ny : Int) (h0 h1 h2 h3 h4 h5 h6 h7 : Int) (bow : Array Value) : Tree := stepT (Fy kd).go (run (Fy kd) 1000) 1 (sy_F off num cs ty i k nx g0 g1 g2 g3 g4 g5 g6 g7 row tk ts bk ny h0 h1 h2 h3 h4 h5 h6 h7 bow) (sy_M off num cs ty i k nx g0 g1 g2 g3 g4 g5 g6 g7 row tk ts bk ny h0 h1 h2 h3 h4 h5 h6 h7 bow)
noncomputable def xy_x (kd : Nat) (off : Nat) (num : Nat) (cs : Array Value) (ty : TypeId) (i : Int) (k : Nat) (nx : Int) (g0 g1 g2 g3 g4 g5 g6 g7 : Int) (row : Array Value) (tk : Nat) (ts : Array Value) (bk : Nat) (ny : Int) (h0 h1 h2 h3 h4 h5 h6 h7 : Int) (bow : Array Value) (Quy : Q8y) (fs : List SFr) (m : SMem) : Prop := uy_n off num cs ty Quy fs m
noncomputable def yy_t (kd : Nat) (off : Nat) (num : Nat) (cs : Array Value) (ty : TypeId) (i : Int) (k : Nat) (nx : Int) (g0 g1 g2 g3 g4 g5 g6 g7 : Int) (row : Array Value) (tk : Nat) (ts : Array Value) (bk : Nat) (ny : Int) (h0 h1 h2 h3 h4 h5 h6 h7 : Int) (bow : Array Value) : Tree := stepT (Fy kd).go (run (Fy kd) 1000) 1 (uy_F off num cs ty i k nx g0 g1 g2 g3 g4 g5 g6 g7 row tk ts bk ny h0 h1 h2 h3 h4 h5 h6 h7 bow) (uy_M off num cs ty i k nx g0 g1 g2 g3 g4 g5 g6 g7 row tk ts bk ny h0 h1 h2 h3 h4 h5 h6 h7 bow)
noncomputable def yy_x (kd : Nat) (off : Nat) (num : Nat) (cs : Array Value) (ty : TypeId) (i : Int) (k : Nat) (nx : Int) (g0 g1 g2 g3 g4 g5 g6 g7 : Int) (row : Array Value) (tk : Nat) (ts : Array Value) (bk : Nat) (ny : Int) (h0 h1 h2 h3 h4 h5 h6 h7 : Int) (bow : Array Value) (Qvy : Q8y) (fs : List SFr) (m : SMem) : Prop := vy_n off num cs ty Qvy fs m
noncomputable def zy_t (kd : Nat) (off : Nat) (num : Nat) (cs : Array Value) (ty : TypeId) (i : Int) (k : Nat) (nx : Int) (g0 g1 g2 g3 g4 g5 g6 g7 : Int) (row : Array Value) (tk : Nat) (ts : Array Value) (bk : Nat) (ny : Int) (h0 h1 h2 h3 h4 h5 h6 h7 : Int) (bow : Array Value) : Tree := stepT (Fy kd).go (run (Fy kd) 1000) 1 (vy_F off num cs ty i k nx g0 g1 g2 g3 g4 g5 g6 g7 row tk ts bk ny h0 h1 h2 h3 h4 h5 h6 h7 bow) (vy_M off num cs ty i k nx g0 g1 g2 g3 g4 g5 g6 g7 row tk ts bk ny h0 h1 h2 h3 h4 h5 h6 h7 bow)
noncomputable def zy_x (kd : Nat) (off : Nat) (num : Nat) (cs : Array Value) (ty : TypeId) (i : Int) (k : Nat) (nx : Int) (g0 g1 g2 g3 g4 g5 g6 g7 : Int) (row : Array Value) (tk : Nat) (ts : Array Value) (bk : Nat) (ny : Int) (h0 h1 h2 h3 h4 h5 h6 h7 : Int) (bow : Array Value) (Qsy : Q8y) (fs : List SFr) (m : SMem) : Prop := sy_n off num cs ty Qsy fs m
theorem cy_d0_ok (r : Nat → Option Nat) : TodoOk r cy_d0 cy_d0 := TodoOk.it (by kernel_rfl)
theorem sy_d0_ok (r : Nat → Option Nat) : TodoOk r sy_d0 sy_d0 := TodoOk.it (by kernel_rfl)
theorem uy_d0_ok (r : Nat → Option Nat) : TodoOk r uy_d0 uy_d0 := TodoOk.it (by kernel_rfl)
theorem vy_d0_ok (r : Nat → Option Nat) : TodoOk r vy_d0 vy_d0 := TodoOk.it (by kernel_rfl)
theorem cy_good {A : SV → SMem → Prop} {off : Nat} {num : Nat} {cs : Array Value} {ty : TypeId} {Q : Q9y} {fs : List SFr} {m : SMem} (H : ∀ i k nx g0 g1 g2 g3 g4 g5 g6 g7 row tk ts bk ny h0 h1 h2 h3 h4 h5 h6 h7 bow uk us, Q i k nx g0 g1 g2 g3 g4 g5 g6 g7 row tk ts bk ny h0 h1 h2 h3 h4 h5 h6 h7 bow uk us → Good Try.prog A 1 (cy_F off num cs ty i k nx g0 g1 g2 g3 g4 g5 g6 g7 row tk ts bk ny h0 h1 h2 h3 h4 h5 h6 h7 bow uk us) (cy_M off num cs ty i k nx g0 g1 g2 g3 g4 g5 g6 g7 row tk ts bk ny h0 h1 h2 h3 h4 h5 h6 h7 bow uk us)) (hb : cy_n off num cs ty Q fs m) : Good Try.prog A 1 fs m := by
  unfold cy_n at hb
  split at hb
  rotate_left
  · exact hb.elim
  split at hb
  rotate_left
  · exact hb.elim
  split at hb
  rotate_left
  · exact hb.elim
  split at hb
  rotate_left
  · exact hb.elim
  split at hb
  rotate_left
  · exact hb.elim
  split at hb
  rotate_left
  · exact hb.elim
  split at hb
  rotate_left
  · exact hb.elim
  split at hb
  rotate_left
  · exact hb.elim
  split at hb
  rotate_left
  · exact hb.elim
  split at hb
  rotate_left
  · exact hb.elim
  split at hb
  rotate_left
  · exact hb.elim
  split at hb
  rotate_left
  · exact hb.elim
  split at hb
  rotate_left
  · exact hb.elim
  split at hb
  rotate_left
  · exact hb.elim
  split at hb
  rotate_left
  · exact hb.elim
  split at hb
  rotate_left
  · exact hb.elim
  split at hb
  rotate_left
  · exact hb.elim
  split at hb
  rotate_left
  · exact hb.elim
  split at hb
  rotate_left
  · exact hb.elim
  split at hb
  rotate_left
  · exact hb.elim
  split at hb
  rotate_left
  · exact hb.elim
  split at hb
  rotate_left
  · exact hb.elim
  split at hb
  rotate_left
  · exact hb.elim
  split at hb
  rotate_left
  · exact hb.elim
  split at hb
  rotate_left
  · exact hb.elim
  split at hb
  rotate_left
  · exact hb.elim
  split at hb
  rotate_left
  · exact hb.elim
  split at hb
  rotate_left
  · exact hb.elim
  split at hb
  rotate_left
  · exact hb.elim
  split at hb
  rotate_left
  · exact hb.elim
  split at hb
  rotate_left
  · exact hb.elim
  split at hb
  rotate_left
  · exact hb.elim
  split at hb
  rotate_left
  · exact hb.elim
  split at hb
  rotate_left
  · exact hb.elim
  exact Good.of_sub hb.2 (H _ _ _ _ _ _ _ _ _ _ _ _ _ _ _ _ _ _ _ _ _ _ _ _ _ _ _ hb.1)
theorem sy_good {A : SV → SMem → Prop} {off : Nat} {num : Nat} {cs : Array Value} {ty : TypeId} {Q : Q8y} {fs : List SFr} {m : SMem} (H : ∀ i k nx g0 g1 g2 g3 g4 g5 g6 g7 row tk ts bk ny h0 h1 h2 h3 h4 h5 h6 h7 bow, Q i k nx g0 g1 g2 g3 g4 g5 g6 g7 row tk ts bk ny h0 h1 h2 h3 h4 h5 h6 h7 bow → Good Try.prog A 1 (sy_F off num cs ty i k nx g0 g1 g2 g3 g4 g5 g6 g7 row tk ts bk ny h0 h1 h2 h3 h4 h5 h6 h7 bow) (sy_M off num cs ty i k nx g0 g1 g2 g3 g4 g5 g6 g7 row tk ts bk ny h0 h1 h2 h3 h4 h5 h6 h7 bow)) (hb : sy_n off num cs ty Q fs m) : Good Try.prog A 1 fs m := by
  unfold sy_n at hb
  split at hb
  rotate_left
  · exact hb.elim
  split at hb
  rotate_left
  · exact hb.elim
  split at hb
  rotate_left
  · exact hb.elim
  split at hb
  rotate_left
  · exact hb.elim
  split at hb
  rotate_left
  · exact hb.elim
  split at hb
  rotate_left
  · exact hb.elim
  split at hb
  rotate_left
  · exact hb.elim
  split at hb
  rotate_left
  · exact hb.elim
  split at hb
  rotate_left
  · exact hb.elim
  split at hb
  rotate_left
  · exact hb.elim
  split at hb
  rotate_left
  · exact hb.elim
  split at hb
  rotate_left
  · exact hb.elim
  split at hb
  rotate_left
  · exact hb.elim
  split at hb
  rotate_left
  · exact hb.elim
  split at hb
  rotate_left
  · exact hb.elim
  split at hb
  rotate_left
  · exact hb.elim
  split at hb
  rotate_left
  · exact hb.elim
  split at hb
  rotate_left
  · exact hb.elim
  split at hb
  rotate_left
  · exact hb.elim
  split at hb
  rotate_left
  · exact hb.elim
  split at hb
  rotate_left
  · exact hb.elim
  split at hb
  rotate_left
  · exact hb.elim
  split at hb
  rotate_left
  · exact hb.elim
  split at hb
  rotate_left
  · exact hb.elim
  split at hb
  rotate_left
  · exact hb.elim
  split at hb
  rotate_left
  · exact hb.elim
  split at hb
  rotate_left
  · exact hb.elim
  split at hb
  rotate_left
  · exact hb.elim
  split at hb
  rotate_left
  · exact hb.elim
  split at hb
  rotate_left
  · exact hb.elim
  split at hb
  rotate_left
  · exact hb.elim
  exact Good.of_sub hb.2 (H _ _ _ _ _ _ _ _ _ _ _ _ _ _ _ _ _ _ _ _ _ _ _ _ _ hb.1)
theorem uy_good {A : SV → SMem → Prop} {off : Nat} {num : Nat} {cs : Array Value} {ty : TypeId} {Q : Q8y} {fs : List SFr} {m : SMem} (H : ∀ i k nx g0 g1 g2 g3 g4 g5 g6 g7 row tk ts bk ny h0 h1 h2 h3 h4 h5 h6 h7 bow, Q i k nx g0 g1 g2 g3 g4 g5 g6 g7 row tk ts bk ny h0 h1 h2 h3 h4 h5 h6 h7 bow → Good Try.prog A 1 (uy_F off num cs ty i k nx g0 g1 g2 g3 g4 g5 g6 g7 row tk ts bk ny h0 h1 h2 h3 h4 h5 h6 h7 bow) (uy_M off num cs ty i k nx g0 g1 g2 g3 g4 g5 g6 g7 row tk ts bk ny h0 h1 h2 h3 h4 h5 h6 h7 bow)) (hb : uy_n off num cs ty Q fs m) : Good Try.prog A 1 fs m := by
  unfold uy_n at hb
  split at hb
  rotate_left
  · exact hb.elim
  split at hb
  rotate_left
  · exact hb.elim
  split at hb
  rotate_left
  · exact hb.elim
  split at hb
  rotate_left
  · exact hb.elim
  split at hb
  rotate_left
  · exact hb.elim
  split at hb
  rotate_left
  · exact hb.elim
  split at hb
  rotate_left
  · exact hb.elim
  split at hb
  rotate_left
  · exact hb.elim
  split at hb
  rotate_left
  · exact hb.elim
  split at hb
  rotate_left
  · exact hb.elim
  split at hb
  rotate_left
  · exact hb.elim
  split at hb
  rotate_left
  · exact hb.elim
  split at hb
  rotate_left
  · exact hb.elim
  split at hb
  rotate_left
  · exact hb.elim
  split at hb
  rotate_left
  · exact hb.elim
  split at hb
  rotate_left
  · exact hb.elim
  split at hb
  rotate_left
  · exact hb.elim
  split at hb
  rotate_left
  · exact hb.elim
  split at hb
  rotate_left
  · exact hb.elim
  split at hb
  rotate_left
  · exact hb.elim
  split at hb
  rotate_left
  · exact hb.elim
  split at hb
  rotate_left
  · exact hb.elim
  split at hb
  rotate_left
  · exact hb.elim
  split at hb
  rotate_left
  · exact hb.elim
  split at hb
  rotate_left
  · exact hb.elim
  split at hb
  rotate_left
  · exact hb.elim
  split at hb
  rotate_left
  · exact hb.elim
  split at hb
  rotate_left
  · exact hb.elim
  split at hb
  rotate_left
  · exact hb.elim
  split at hb
  rotate_left
  · exact hb.elim
  split at hb
  rotate_left
  · exact hb.elim
  exact Good.of_sub hb.2 (H _ _ _ _ _ _ _ _ _ _ _ _ _ _ _ _ _ _ _ _ _ _ _ _ _ hb.1)
theorem vy_good {A : SV → SMem → Prop} {off : Nat} {num : Nat} {cs : Array Value} {ty : TypeId} {Q : Q8y} {fs : List SFr} {m : SMem} (H : ∀ i k nx g0 g1 g2 g3 g4 g5 g6 g7 row tk ts bk ny h0 h1 h2 h3 h4 h5 h6 h7 bow, Q i k nx g0 g1 g2 g3 g4 g5 g6 g7 row tk ts bk ny h0 h1 h2 h3 h4 h5 h6 h7 bow → Good Try.prog A 1 (vy_F off num cs ty i k nx g0 g1 g2 g3 g4 g5 g6 g7 row tk ts bk ny h0 h1 h2 h3 h4 h5 h6 h7 bow) (vy_M off num cs ty i k nx g0 g1 g2 g3 g4 g5 g6 g7 row tk ts bk ny h0 h1 h2 h3 h4 h5 h6 h7 bow)) (hb : vy_n off num cs ty Q fs m) : Good Try.prog A 1 fs m := by
  unfold vy_n at hb
  split at hb
  rotate_left
  · exact hb.elim
  split at hb
  rotate_left
  · exact hb.elim
  split at hb
  rotate_left
  · exact hb.elim
  split at hb
  rotate_left
  · exact hb.elim
  split at hb
  rotate_left
  · exact hb.elim
  split at hb
  rotate_left
  · exact hb.elim
  split at hb
  rotate_left
  · exact hb.elim
  split at hb
  rotate_left
  · exact hb.elim
  split at hb
  rotate_left
  · exact hb.elim
  split at hb
  rotate_left
  · exact hb.elim
  split at hb
  rotate_left
  · exact hb.elim
  split at hb
  rotate_left
  · exact hb.elim
  split at hb
  rotate_left
  · exact hb.elim
  split at hb
  rotate_left
  · exact hb.elim
  split at hb
  rotate_left
  · exact hb.elim
  split at hb
  rotate_left
  · exact hb.elim
  split at hb
  rotate_left
  · exact hb.elim
  split at hb
  rotate_left
  · exact hb.elim
  split at hb
  rotate_left
  · exact hb.elim
  split at hb
  rotate_left
  · exact hb.elim
  split at hb
  rotate_left
  · exact hb.elim
  split at hb
  rotate_left
  · exact hb.elim
  split at hb
  rotate_left
  · exact hb.elim
  split at hb
  rotate_left
  · exact hb.elim
  split at hb
  rotate_left
  · exact hb.elim
  split at hb
  rotate_left
  · exact hb.elim
  split at hb
  rotate_left
  · exact hb.elim
  split at hb
  rotate_left
  · exact hb.elim
  split at hb
  rotate_left
  · exact hb.elim
  split at hb
  rotate_left
  · exact hb.elim
  split at hb
  rotate_left
  · exact hb.elim
  exact Good.of_sub hb.2 (H _ _ _ _ _ _ _ _ _ _ _ _ _ _ _ _ _ _ _ _ _ _ _ _ _ hb.1)
theorem by_go {A : SV → SMem → Prop} {off : Nat} {num : Nat} {cs : Array Value} {ty : TypeId} {Qcy : Q9y} {fs : List SFr} {m : SMem} (hcy : ∀ i' k' nx' g0' g1' g2' g3' g4' g5' g6' g7' row' tk' ts' bk' ny' h0' h1' h2' h3' h4' h5' h6' h7' bow' uk' us', Qcy i' k' nx' g0' g1' g2' g3' g4' g5' g6' g7' row' tk' ts' bk' ny' h0' h1' h2' h3' h4' h5' h6' h7' bow' uk' us' → Good Try.prog A 1 (cy_F off num cs ty i' k' nx' g0' g1' g2' g3' g4' g5' g6' g7' row' tk' ts' bk' ny' h0' h1' h2' h3' h4' h5' h6' h7' bow' uk' us') (cy_M off num cs ty i' k' nx' g0' g1' g2' g3' g4' g5' g6' g7' row' tk' ts' bk' ny' h0' h1' h2' h3' h4' h5' h6' h7' bow' uk' us')) (hb : by_x off num cs ty Qcy fs m) : Good Try.prog A 1 fs m := by
  unfold by_x at hb
  exact cy_good hcy hb
theorem dy_go {A : SV → SMem → Prop} {off : Nat} {num : Nat} {cs : Array Value} {ty : TypeId} {i : Int} {k : Nat} {nx : Int} {g0 g1 g2 g3 g4 g5 g6 g7 : Int} {row : Array Value} {tk : Nat} {ts : Array Value} {bk : Nat} {ny : Int} {h0 h1 h2 h3 h4 h5 h6 h7 : Int} {bow : Array Value} {uk : Nat} {us : Array Value} {Qcy : Q9y} {Qsy : Q8y} {fs : List SFr} {m : SMem} (hcy : ∀ i' k' nx' g0' g1' g2' g3' g4' g5' g6' g7' row' tk' ts' bk' ny' h0' h1' h2' h3' h4' h5' h6' h7' bow' uk' us', Qcy i' k' nx' g0' g1' g2' g3' g4' g5' g6' g7' row' tk' ts' bk' ny' h0' h1' h2' h3' h4' h5' h6' h7' bow' uk' us' → Good Try.prog A 1 (cy_F off num cs ty i' k' nx' g0' g1' g2' g3' g4' g5' g6' g7' row' tk' ts' bk' ny' h0' h1' h2' h3' h4' h5' h6' h7' bow' uk' us') (cy_M off num cs ty i' k' nx' g0' g1' g2' g3' g4' g5' g6' g7' row' tk' ts' bk' ny' h0' h1' h2' h3' h4' h5' h6' h7' bow' uk' us')) (hsy : ∀ i' k' nx' g0' g1' g2' g3' g4' g5' g6' g7' row' tk' ts' bk' ny' h0' h1' h2' h3' h4' h5' h6' h7' bow', Qsy i' k' nx' g0' g1' g2' g3' g4' g5' g6' g7' row' tk' ts' bk' ny' h0' h1' h2' h3' h4' h5' h6' h7' bow' → Good Try.prog A 1 (sy_F off num cs ty i' k' nx' g0' g1' g2' g3' g4' g5' g6' g7' row' tk' ts' bk' ny' h0' h1' h2' h3' h4' h5' h6' h7' bow') (sy_M off num cs ty i' k' nx' g0' g1' g2' g3' g4' g5' g6' g7' row' tk' ts' bk' ny' h0' h1' h2' h3' h4' h5' h6' h7' bow')) (hb : dy_x off num cs ty i k nx g0 g1 g2 g3 g4 g5 g6 g7 row tk ts bk ny h0 h1 h2 h3 h4 h5 h6 h7 bow uk us Qcy Qsy fs m) : Good Try.prog A 1 fs m := by
  unfold dy_x at hb
  split at hb
  · exact cy_good hcy hb
  exact sy_good hsy hb
theorem xy_go {kd : Nat} {A : SV → SMem → Prop} {off : Nat} {num : Nat} {cs : Array Value} {ty : TypeId} {i : Int} {k : Nat} {nx : Int} {g0 g1 g2 g3 g4 g5 g6 g7 : Int} {row : Array Value} {tk : Nat} {ts : Array Value} {bk : Nat} {ny : Int} {h0 h1 h2 h3 h4 h5 h6 h7 : Int} {bow : Array Value} {Quy : Q8y} {fs : List SFr} {m : SMem} (huy : ∀ i' k' nx' g0' g1' g2' g3' g4' g5' g6' g7' row' tk' ts' bk' ny' h0' h1' h2' h3' h4' h5' h6' h7' bow', Quy i' k' nx' g0' g1' g2' g3' g4' g5' g6' g7' row' tk' ts' bk' ny' h0' h1' h2' h3' h4' h5' h6' h7' bow' → Good Try.prog A 1 (uy_F off num cs ty i' k' nx' g0' g1' g2' g3' g4' g5' g6' g7' row' tk' ts' bk' ny' h0' h1' h2' h3' h4' h5' h6' h7' bow') (uy_M off num cs ty i' k' nx' g0' g1' g2' g3' g4' g5' g6' g7' row' tk' ts' bk' ny' h0' h1' h2' h3' h4' h5' h6' h7' bow')) (hb : xy_x kd off num cs ty i k nx g0 g1 g2 g3 g4 g5 g6 g7 row tk ts bk ny h0 h1 h2 h3 h4 h5 h6 h7 bow Quy fs m) : Good Try.prog A 1 fs m := by
  unfold xy_x at hb
  exact uy_good huy hb
theorem yy_go {kd : Nat} {A : SV → SMem → Prop} {off : Nat} {num : Nat} {cs : Array Value} {ty : TypeId} {i : Int} {k : Nat} {nx : Int} {g0 g1 g2 g3 g4 g5 g6 g7 : Int} {row : Array Value} {tk : Nat} {ts : Array Value} {bk : Nat} {ny : Int} {h0 h1 h2 h3 h4 h5 h6 h7 : Int} {bow : Array Value} {Qvy : Q8y} {fs : List SFr} {m : SMem} (hvy : ∀ i' k' nx' g0' g1' g2' g3' g4' g5' g6' g7' row' tk' ts' bk' ny' h0' h1' h2' h3' h4' h5' h6' h7' bow', Qvy i' k' nx' g0' g1' g2' g3' g4' g5' g6' g7' row' tk' ts' bk' ny' h0' h1' h2' h3' h4' h5' h6' h7' bow' → Good Try.prog A 1 (vy_F off num cs ty i' k' nx' g0' g1' g2' g3' g4' g5' g6' g7' row' tk' ts' bk' ny' h0' h1' h2' h3' h4' h5' h6' h7' bow') (vy_M off num cs ty i' k' nx' g0' g1' g2' g3' g4' g5' g6' g7' row' tk' ts' bk' ny' h0' h1' h2' h3' h4' h5' h6' h7' bow')) (hb : yy_x kd off num cs ty i k nx g0 g1 g2 g3 g4 g5 g6 g7 row tk ts bk ny h0 h1 h2 h3 h4 h5 h6 h7 bow Qvy fs m) : Good Try.prog A 1 fs m := by
  unfold yy_x at hb
  exact vy_good hvy hb
theorem zy_go {kd : Nat} {A : SV → SMem → Prop} {off : Nat} {num : Nat} {cs : Array Value} {ty : TypeId} {i : Int} {k : Nat} {nx : Int} {g0 g1 g2 g3 g4 g5 g6 g7 : Int} {row : Array Value} {tk : Nat} {ts : Array Value} {bk : Nat} {ny : Int} {h0 h1 h2 h3 h4 h5 h6 h7 : Int} {bow : Array Value} {Qsy : Q8y} {fs : List SFr} {m : SMem} (hsy : ∀ i' k' nx' g0' g1' g2' g3' g4' g5' g6' g7' row' tk' ts' bk' ny' h0' h1' h2' h3' h4' h5' h6' h7' bow', Qsy i' k' nx' g0' g1' g2' g3' g4' g5' g6' g7' row' tk' ts' bk' ny' h0' h1' h2' h3' h4' h5' h6' h7' bow' → Good Try.prog A 1 (sy_F off num cs ty i' k' nx' g0' g1' g2' g3' g4' g5' g6' g7' row' tk' ts' bk' ny' h0' h1' h2' h3' h4' h5' h6' h7' bow') (sy_M off num cs ty i' k' nx' g0' g1' g2' g3' g4' g5' g6' g7' row' tk' ts' bk' ny' h0' h1' h2' h3' h4' h5' h6' h7' bow')) (hb : zy_x kd off num cs ty i k nx g0 g1 g2 g3 g4 g5 g6 g7 row tk ts bk ny h0 h1 h2 h3 h4 h5 h6 h7 bow Qsy fs m) : Good Try.prog A 1 fs m := by
  unfold zy_x at hb
  exact sy_good hsy hb
end Go.Proofs.Ytpohnmafnpnmeaa
/- Of flow: FlowSame: its states. -/
namespace Go.Proofs.Ytpohnmafnpnmeaa
set_option maxRecDepth 100000
def lcy (r : Nat → Option Nat) (off : Nat) (num : Nat) (cs : Array Value) (ty : TypeId) (Q : Q9y) (i : Int) (k : Nat) (nx : Int) (g0 : Int) (g1 : Int) (g2 : Int) (g3 : Int) (g4 : Int) (g5 : Int) (g6 : Int) (g7 : Int) (row : Array Value) (tk : Nat) (ts : Array Value) (bk : Nat) (ny : Int) (h0 : Int) (h1 : Int) (h2 : Int) (h3 : Int) (h4 : Int) (h5 : Int) (h6 : Int) (h7 : Int) (bow : Array Value) (uk : Nat) (us : Array Value) : Prop := Q i k nx g0 g1 g2 g3 g4 g5 g6 g7 row tk ts bk ny h0 h1 h2 h3 h4 h5 h6 h7 bow uk us ∧ CallKind.normal = CallKind.normal ∧ TodoOk r cy_d0 cy_d0 ∧ off = off ∧ num = num ∧ tk = tk ∧ uk = uk ∧ i = i ∧ ty = ty ∧ cs = cs ∧ (28 : TypeId) = (28 : TypeId) ∧ k = k ∧ nx = nx ∧ g0 = g0 ∧ g1 = g1 ∧ g2 = g2 ∧ g3 = g3 ∧ g4 = g4 ∧ g5 = g5 ∧ g6 = g6 ∧ g7 = g7 ∧ (52 : TypeId) = (52 : TypeId) ∧ ts = ts ∧ (52 : TypeId) = (52 : TypeId) ∧ bow = bow ∧ (52 : TypeId) = (52 : TypeId) ∧ row = row ∧ (28 : TypeId) = (28 : TypeId) ∧ bk = bk ∧ ny = ny ∧ h0 = h0 ∧ h1 = h1 ∧ h2 = h2 ∧ h3 = h3 ∧ h4 = h4 ∧ h5 = h5 ∧ h6 = h6 ∧ h7 = h7 ∧ (52 : TypeId) = (52 : TypeId) ∧ us = us ∧ True
theorem lcy_eq (r : Nat → Option Nat) (off : Nat) (num : Nat) (cs : Array Value) (ty : TypeId) (Q : Q9y) (i : Int) (k : Nat) (nx : Int) (g0 : Int) (g1 : Int) (g2 : Int) (g3 : Int) (g4 : Int) (g5 : Int) (g6 : Int) (g7 : Int) (row : Array Value) (tk : Nat) (ts : Array Value) (bk : Nat) (ny : Int) (h0 : Int) (h1 : Int) (h2 : Int) (h3 : Int) (h4 : Int) (h5 : Int) (h6 : Int) (h7 : Int) (bow : Array Value) (uk : Nat) (us : Array Value) : lcy r off num cs ty Q i k nx g0 g1 g2 g3 g4 g5 g6 g7 row tk ts bk ny h0 h1 h2 h3 h4 h5 h6 h7 bow uk us = Q i k nx g0 g1 g2 g3 g4 g5 g6 g7 row tk ts bk ny h0 h1 h2 h3 h4 h5 h6 h7 bow uk us := by
  unfold lcy
  simp [cy_d0_ok]
def lsy (r : Nat → Option Nat) (off : Nat) (num : Nat) (cs : Array Value) (ty : TypeId) (Q : Q8y) (i : Int) (k : Nat) (nx : Int) (g0 : Int) (g1 : Int) (g2 : Int) (g3 : Int) (g4 : Int) (g5 : Int) (g6 : Int) (g7 : Int) (row : Array Value) (tk : Nat) (ts : Array Value) (bk : Nat) (ny : Int) (h0 : Int) (h1 : Int) (h2 : Int) (h3 : Int) (h4 : Int) (h5 : Int) (h6 : Int) (h7 : Int) (bow : Array Value) : Prop := Q i k nx g0 g1 g2 g3 g4 g5 g6 g7 row tk ts bk ny h0 h1 h2 h3 h4 h5 h6 h7 bow ∧ CallKind.normal = CallKind.normal ∧ TodoOk r sy_d0 sy_d0 ∧ off = off ∧ num = num ∧ tk = tk ∧ i = i ∧ ty = ty ∧ cs = cs ∧ (28 : TypeId) = (28 : TypeId) ∧ k = k ∧ nx = nx ∧ g0 = g0 ∧ g1 = g1 ∧ g2 = g2 ∧ g3 = g3 ∧ g4 = g4 ∧ g5 = g5 ∧ g6 = g6 ∧ g7 = g7 ∧ (52 : TypeId) = (52 : TypeId) ∧ ts = ts ∧ (52 : TypeId) = (52 : TypeId) ∧ bow = bow ∧ (52 : TypeId) = (52 : TypeId) ∧ row = row ∧ (28 : TypeId) = (28 : TypeId) ∧ bk = bk ∧ ny = ny ∧ h0 = h0 ∧ h1 = h1 ∧ h2 = h2 ∧ h3 = h3 ∧ h4 = h4 ∧ h5 = h5 ∧ h6 = h6 ∧ h7 = h7 ∧ True
theorem lsy_eq (r : Nat → Option Nat) (off : Nat) (num : Nat) (cs : Array Value) (ty : TypeId) (Q : Q8y) (i : Int) (k : Nat) (nx : Int) (g0 : Int) (g1 : Int) (g2 : Int) (g3 : Int) (g4 : Int) (g5 : Int) (g6 : Int) (g7 : Int) (row : Array Value) (tk : Nat) (ts : Array Value) (bk : Nat) (ny : Int) (h0 : Int) (h1 : Int) (h2 : Int) (h3 : Int) (h4 : Int) (h5 : Int) (h6 : Int) (h7 : Int) (bow : Array Value) : lsy r off num cs ty Q i k nx g0 g1 g2 g3 g4 g5 g6 g7 row tk ts bk ny h0 h1 h2 h3 h4 h5 h6 h7 bow = Q i k nx g0 g1 g2 g3 g4 g5 g6 g7 row tk ts bk ny h0 h1 h2 h3 h4 h5 h6 h7 bow := by
  unfold lsy
  simp [sy_d0_ok]
def luy (r : Nat → Option Nat) (off : Nat) (num : Nat) (cs : Array Value) (ty : TypeId) (Q : Q8y) (i : Int) (k : Nat) (nx : Int) (g0 : Int) (g1 : Int) (g2 : Int) (g3 : Int) (g4 : Int) (g5 : Int) (g6 : Int) (g7 : Int) (row : Array Value) (tk : Nat) (ts : Array Value) (bk : Nat) (ny : Int) (h0 : Int) (h1 : Int) (h2 : Int) (h3 : Int) (h4 : Int) (h5 : Int) (h6 : Int) (h7 : Int) (bow : Array Value) : Prop := Q i k nx g0 g1 g2 g3 g4 g5 g6 g7 row tk ts bk ny h0 h1 h2 h3 h4 h5 h6 h7 bow ∧ CallKind.normal = CallKind.normal ∧ TodoOk r uy_d0 uy_d0 ∧ off = off ∧ num = num ∧ tk = tk ∧ i = i ∧ ty = ty ∧ cs = cs ∧ (28 : TypeId) = (28 : TypeId) ∧ k = k ∧ nx = nx ∧ g0 = g0 ∧ g1 = g1 ∧ g2 = g2 ∧ g3 = g3 ∧ g4 = g4 ∧ g5 = g5 ∧ g6 = g6 ∧ g7 = g7 ∧ (52 : TypeId) = (52 : TypeId) ∧ ts = ts ∧ (52 : TypeId) = (52 : TypeId) ∧ bow = bow ∧ (52 : TypeId) = (52 : TypeId) ∧ row = row ∧ (28 : TypeId) = (28 : TypeId) ∧ bk = bk ∧ ny = ny ∧ h0 = h0 ∧ h1 = h1 ∧ h2 = h2 ∧ h3 = h3 ∧ h4 = h4 ∧ h5 = h5 ∧ h6 = h6 ∧ h7 = h7 ∧ True
theorem luy_eq (r : Nat → Option Nat) (off : Nat) (num : Nat) (cs : Array Value) (ty : TypeId) (Q : Q8y) (i : Int) (k : Nat) (nx : Int) (g0 : Int) (g1 : Int) (g2 : Int) (g3 : Int) (g4 : Int) (g5 : Int) (g6 : Int) (g7 : Int) (row : Array Value) (tk : Nat) (ts : Array Value) (bk : Nat) (ny : Int) (h0 : Int) (h1 : Int) (h2 : Int) (h3 : Int) (h4 : Int) (h5 : Int) (h6 : Int) (h7 : Int) (bow : Array Value) : luy r off num cs ty Q i k nx g0 g1 g2 g3 g4 g5 g6 g7 row tk ts bk ny h0 h1 h2 h3 h4 h5 h6 h7 bow = Q i k nx g0 g1 g2 g3 g4 g5 g6 g7 row tk ts bk ny h0 h1 h2 h3 h4 h5 h6 h7 bow := by
  unfold luy
  simp [uy_d0_ok]
def lvy (r : Nat → Option Nat) (off : Nat) (num : Nat) (cs : Array Value) (ty : TypeId) (Q : Q8y) (i : Int) (k : Nat) (nx : Int) (g0 : Int) (g1 : Int) (g2 : Int) (g3 : Int) (g4 : Int) (g5 : Int) (g6 : Int) (g7 : Int) (row : Array Value) (tk : Nat) (ts : Array Value) (bk : Nat) (ny : Int) (h0 : Int) (h1 : Int) (h2 : Int) (h3 : Int) (h4 : Int) (h5 : Int) (h6 : Int) (h7 : Int) (bow : Array Value) : Prop := Q i k nx g0 g1 g2 g3 g4 g5 g6 g7 row tk ts bk ny h0 h1 h2 h3 h4 h5 h6 h7 bow ∧ CallKind.normal = CallKind.normal ∧ TodoOk r vy_d0 vy_d0 ∧ off = off ∧ num = num ∧ tk = tk ∧ i = i ∧ ty = ty ∧ cs = cs ∧ (28 : TypeId) = (28 : TypeId) ∧ k = k ∧ nx = nx ∧ g0 = g0 ∧ g1 = g1 ∧ g2 = g2 ∧ g3 = g3 ∧ g4 = g4 ∧ g5 = g5 ∧ g6 = g6 ∧ g7 = g7 ∧ (52 : TypeId) = (52 : TypeId) ∧ ts = ts ∧ (52 : TypeId) = (52 : TypeId) ∧ bow = bow ∧ (52 : TypeId) = (52 : Nat) ∧ row = row ∧ (28 : TypeId) = (28 : TypeId) ∧ bk = bk ∧ ny = ny ∧ h0 = h0 ∧ h1 = h1 ∧ h2 = h2 ∧ h3 = h3 ∧ h4 = h4 ∧ h5 = h5 ∧ h6 = h6 ∧ h7 = h7 ∧ True
theorem lvy_eq (r : Nat → Option Nat) (off : Nat) (num : Nat) (cs : Array Value) (ty : TypeId) (Q : Q8y) (i : Int) (k : Nat) (nx : Int) (g0 : Int) (g1 : Int) (g2 : Int) (g3 : Int) (g4 : Int) (g5 : Int) (g6 : Int) (g7 : Int) (row : Array Value) (tk : Nat) (ts : Array Value) (bk : Nat) (ny : Int) (h0 : Int) (h1 : Int) (h2 : Int) (h3 : Int) (h4 : Int) (h5 : Int) (h6 : Int) (h7 : Int) (bow : Array Value) : lvy r off num cs ty Q i k nx g0 g1 g2 g3 g4 g5 g6 g7 row tk ts bk ny h0 h1 h2 h3 h4 h5 h6 h7 bow = Q i k nx g0 g1 g2 g3 g4 g5 g6 g7 row tk ts bk ny h0 h1 h2 h3 h4 h5 h6 h7 bow := by
  unfold lvy
  simp [vy_d0_ok]
section
variable (off : Nat) (num : Nat) (cs : Array Value) (ty : TypeId) (i : Int) (k : Nat) (nx : Int) (g0 : Int) (g1 : Int) (g2 : Int) (g3 : Int) (g4 : Int) (g5 : Int) (g6 : Int) (g7 : Int) (row : Array Value) (tk : Nat) (ts : Array Value) (bk : Nat) (ny : Int) (h0 : Int) (h1 : Int) (h2 : Int) (h3 : Int) (h4 : Int) (h5 : Int) (h6 : Int) (h7 : Int) (bow : Array Value) (uk : Nat) (us : Array Value) (Qcy : Q9y) (Qsy Quy Qvy : Q8y)
theorem by_vc : (by_t off num cs ty).vc (boolR true) (by_x off num cs ty Qcy) =
    (let t0 := (decide ((↑num : Int) > (200 : Int)) == false); let t1 := (trR cs off num); let t2 := (metB cs off num); let t3 := (Array.size t1 = cnt t2 num * 5 ∧ InsOk t1 (0 : Nat) (cnt t2 num) ∧ mayV t1 (0 : Nat) (cnt t2 num) = true ∧ cnt t2 num ≠ (0 : Nat) ∧ True); let t4 := (metB t1 (0 : Nat) (cnt t2 num)); let t5 := (cnt t4 (cnt t2 num)); let t6 := ((↑t5 : Int) != (↑(cnt t2 num) : Int)); ((t0 = true → (InsOk cs off num ∧ num ≠ (0 : Nat) ∧ True) ∧ (mayV cs off num = true → (InsOk cs off num ∧ mayV cs off num = true ∧ num ≠ (0 : Nat) ∧ True) ∧ t3 ∧ t3 ∧ (t6 = true → false = true) ∧ (t6 = false → Qcy (0 : Int) num (0 : Int) (0 : Int) (0 : Int) (0 : Int) (0 : Int) (0 : Int) (0 : Int) (0 : Int) (0 : Int) (cod cs off num) (cnt t2 num) t1 (cnt t2 num) (0 : Int) (0 : Int) (0 : Int) (0 : Int) (0 : Int) (0 : Int) (0 : Int) (0 : Int) (0 : Int) (cod t1 (0 : Nat) (cnt t2 num)) t5 (trR t1 (0 : Nat) (cnt t2 num)) ∧ CallKind.normal = CallKind.normal ∧ TodoOk (ren 1 [(1, 2), (2, 1), (3, 3), (4, 5), (5, 4), (6, 6)]) cy_d0 cy_d0 ∧ off = off ∧ num = num ∧ cnt t2 num = cnt t2 num ∧ cnt t4 (cnt t2 num) = cnt t4 (cnt t2 num) ∧ (0 : Int) = (0 : Int) ∧ ty = ty ∧ cs = cs ∧ (28 : TypeId) = (28 : Nat) ∧ num = num ∧ (0 : Int) = (0 : Int) ∧ (0 : Int) = (0 : Int) ∧ (0 : Int) = (0 : Int) ∧ (0 : Int) = (0 : Int) ∧ (0 : Int) = (0 : Int) ∧ (0 : Int) = (0 : Int) ∧ (0 : Int) = (0 : Int) ∧ (0 : Int) = (0 : Int) ∧ (0 : Int) = (0 : Int) ∧ (52 : TypeId) = (52 : TypeId) ∧ trR cs off num = trR cs off num ∧ (52 : TypeId) = (52 : TypeId) ∧ cod t1 (0 : Nat) (cnt t2 num) = cod t1 (0 : Nat) (cnt t2 num) ∧ (52 : TypeId) = (52 : TypeId) ∧ cod cs off num = cod cs off num ∧ (28 : TypeId) = (28 : Nat) ∧ cnt t2 num = cnt t2 num ∧ (0 : Int) = (0 : Int) ∧ (0 : Int) = (0 : Int) ∧ (0 : Int) = (0 : Int) ∧ (0 : Int) = (0 : Int) ∧ (0 : Int) = (0 : Int) ∧ (0 : Int) = (0 : Int) ∧ (0 : Int) = (0 : Int) ∧ (0 : Int) = (0 : Int) ∧ (0 : Int) = (0 : Int) ∧ (52 : TypeId) = (52 : TypeId) ∧ trR t1 (0 : Nat) (cnt t2 num) = trR t1 (0 : Nat) (cnt t2 num) ∧ True)) ∧ (mayV cs off num = false → true = true)) ∧ (t0 = false → true = true))) := by kernel_rfl
theorem dy_vc : (dy_t off num cs ty i k nx g0 g1 g2 g3 g4 g5 g6 g7 row tk ts bk ny h0 h1 h2 h3 h4 h5 h6 h7 bow uk us).vc (boolR true) (dy_x off num cs ty i k nx g0 g1 g2 g3 g4 g5 g6 g7 row tk ts bk ny h0 h1 h2 h3 h4 h5 h6 h7 bow uk us Qcy Qsy) =
    (let t0 := ((0 : Nat) + Int.toNat i * 5); let t1 := ((0 : Nat) + Int.toNat i * 5 + 1); let t2 := ((0 : Nat) + Int.toNat i * 5 + 2); let t3 := ((0 : Nat) + Int.toNat i * 5 + 3); let t4 := ((0 : Nat) + Int.toNat i * 5 + 4); let t5 := (!(intAt us t0 == intAt ts t0 && (intAt us t1 == intAt ts t1 && (intAt us t2 == intAt ts t2 && (intAt us t3 == intAt ts t3 && intAt us t4 == intAt ts t4))))); ((decide (i < (↑uk : Int)) = true → (((0 : Int) ≤ i ∧ i < (↑uk : Int)) ∧ True) ∧ (IsInt IntKind.u8 us t0 ∧ IsInt IntKind.u8 us t1 ∧ IsInt IntKind.u8 us t2 ∧ IsInt IntKind.u8 us t3 ∧ IsInt IntKind.u16 us t4 ∧ True) ∧ (((0 : Int) ≤ i ∧ i < (↑tk : Int)) ∧ True) ∧ (IsInt IntKind.u8 ts t0 ∧ IsInt IntKind.u8 ts t1 ∧ IsInt IntKind.u8 ts t2 ∧ IsInt IntKind.u8 ts t3 ∧ IsInt IntKind.u16 ts t4 ∧ True) ∧ (t5 = true → false = true) ∧ (t5 = false → lcy (ren 1 [(1, 1), (2, 2), (3, 3), (4, 4), (5, 5), (6, 6)]) off num cs ty Qcy (ari BinOp.add IntKind.i64 i (1 : Int)) k nx g0 g1 g2 g3 g4 g5 g6 g7 row tk ts bk ny h0 h1 h2 h3 h4 h5 h6 h7 bow uk us)) ∧ (decide (i < (↑uk : Int)) = false → lsy (ren 1 [(1, 1), (2, 2), (3, 3), (4, 4), (5, 5)]) off num cs ty Qsy (0 : Int) k nx g0 g1 g2 g3 g4 g5 g6 g7 row tk ts bk ny h0 h1 h2 h3 h4 h5 h6 h7 bow))) := by kernel_rfl
theorem xy0_vc : (xy_t 0 off num cs ty i k nx g0 g1 g2 g3 g4 g5 g6 g7 row tk ts bk ny h0 h1 h2 h3 h4 h5 h6 h7 bow).vc (boolR true) (xy_x 0 off num cs ty i k nx g0 g1 g2 g3 g4 g5 g6 g7 row tk ts bk ny h0 h1 h2 h3 h4 h5 h6 h7 bow Quy) =
    (let t0 := ((!(g0 == h0 && (g1 == h1 && (g2 == h2 && (g3 == h3 && (g4 == h4 && (g5 == h5 && (g6 == h6 && g7 == h7)))))))) == false); let t1 := (decide (nx ≥ (↑num : Int)) == false); let t2 := (((0 : Int) ≤ nx ∧ nx < (↑num : Int)) ∧ True); let t3 := (off + Int.toNat nx * 5); let t4 := (IsInt IntKind.u8 cs t3 ∧ True); let t5 := (decide (ny ≥ (↑tk : Int)) == false); let t6 := (((0 : Int) ≤ ny ∧ ny < (↑tk : Int)) ∧ True); let t7 := ((0 : Nat) + Int.toNat ny * 5); let t8 := (IsInt IntKind.u8 ts t7 ∧ True); let t9 := (intAt cs t3 == (0 : Int)); let t10 := (intAt ts t7 == (0 : Int)); let t11 := (t1 = true → t2 ∧ t4 ∧ (t9 = true → true = true) ∧ (t9 = false → luy (ren 1 [(1, 1), (2, 2), (3, 3), (4, 4), (5, 5)]) off num cs ty Quy i k nx g0 g1 g2 g3 g4 g5 g6 g7 row tk ts bk ny h0 h1 h2 h3 h4 h5 h6 h7 bow)); let t12 := (t1 = false → true = true); let t13 := (!true == t10); ((decide (i < (300 : Int)) = true → ((↑k : Int) ≤ nx ∧ True) ∧ ((↑bk : Int) ≤ ny ∧ True) ∧ (t0 = true → (t1 = true → t2 ∧ t4 ∧ (t5 = true → t6 ∧ t8 ∧ ((!t9 == t10) = true → false = true) ∧ ((!t9 == t10) = false → t11 ∧ t12)) ∧ (t5 = false → ((!t9 == true) = true → false = true) ∧ ((!t9 == true) = false → t11 ∧ t12))) ∧ (t1 = false → (t5 = true → t6 ∧ t8 ∧ (t13 = true → false = true) ∧ (t13 = false → t11 ∧ t12)) ∧ (t5 = false → t11 ∧ t12))) ∧ (t0 = false → false = true)) ∧ (decide (i < (300 : Int)) = false → true = true))) := by kernel_rfl
theorem xy1_vc : (xy_t 1 off num cs ty i k nx g0 g1 g2 g3 g4 g5 g6 g7 row tk ts bk ny h0 h1 h2 h3 h4 h5 h6 h7 bow).vc (boolR true) (xy_x 1 off num cs ty i k nx g0 g1 g2 g3 g4 g5 g6 g7 row tk ts bk ny h0 h1 h2 h3 h4 h5 h6 h7 bow Quy) =
    (let t0 := (at5 (0 : Nat) nx); let t1 := (at5 (0 : Nat) ny); let t2 := ((!(g0 == h0 && (g1 == h1 && (g2 == h2 && (g3 == h3 && (g4 == h4 && (g5 == h5 && (g6 == h6 && g7 == h7)))))))) == false); let t3 := (decide (nx ≥ (↑num : Int)) == false); let t4 := (((0 : Int) ≤ nx ∧ nx < (↑num : Int)) ∧ True); let t5 := (off + Int.toNat nx * 5); let t6 := (IsInt IntKind.u8 cs t5 ∧ True); let t7 := (decide (ny ≥ (↑tk : Int)) == false); let t8 := (((0 : Int) ≤ ny ∧ ny < (↑tk : Int)) ∧ True); let t9 := ((0 : Nat) + Int.toNat ny * 5); let t10 := (IsInt IntKind.u8 ts t9 ∧ True); let t11 := (intAt cs t5 == (0 : Int)); let t12 := (intAt ts t9 == (0 : Int)); let t13 := (t3 = true → t4 ∧ t6 ∧ (t11 = true → true = true) ∧ (t11 = false → luy (ren 1 [(1, 1), (2, 2), (3, 3), (4, 4), (5, 5)]) off num cs ty Quy i k nx g0 g1 g2 g3 g4 g5 g6 g7 row tk ts bk ny h0 h1 h2 h3 h4 h5 h6 h7 bow)); let t14 := (t3 = false → true = true); let t15 := (!t11 == true); let t16 := (!true == t12); ((decide (i < (300 : Int)) = true → (((0 : Int) ≤ nx ∧ nx < (↑k : Int)) ∧ InsAt row t0 ∧ in8 row t0 ∧ intAt row t0 = (0 : Int) ∧ True) ∧ (((0 : Int) ≤ ny ∧ ny < (↑bk : Int)) ∧ InsAt bow t1 ∧ in8 bow t1 ∧ intAt bow t1 = (0 : Int) ∧ True) ∧ (t2 = true → (t3 = true → t4 ∧ t6 ∧ (t7 = true → t8 ∧ t10 ∧ ((!t11 == t12) = true → false = true) ∧ ((!t11 == t12) = false → t13 ∧ t14)) ∧ (t7 = false → (t15 = true → false = true) ∧ (t15 = false → t13 ∧ t14))) ∧ (t3 = false → (t7 = true → t8 ∧ t10 ∧ (t16 = true → false = true) ∧ (t16 = false → t13 ∧ t14)) ∧ (t7 = false → t13 ∧ t14))) ∧ (t2 = false → false = true)) ∧ (decide (i < (300 : Int)) = false → true = true))) := by kernel_rfl
theorem xy2_vc : (xy_t 2 off num cs ty i k nx g0 g1 g2 g3 g4 g5 g6 g7 row tk ts bk ny h0 h1 h2 h3 h4 h5 h6 h7 bow).vc (boolR true) (xy_x 2 off num cs ty i k nx g0 g1 g2 g3 g4 g5 g6 g7 row tk ts bk ny h0 h1 h2 h3 h4 h5 h6 h7 bow Quy) =
    (let t0 := (at5 (0 : Nat) nx); let t1 := (at5 (0 : Nat) ny); let t2 := (Rg.mk g0 g1 g2 g3 g4 g5 g6 g7); let t3 := (Rg.mk h0 h1 h2 h3 h4 h5 h6 h7); let t4 := ((!(ari BinOp.sub IntKind.u8 (intAt row t0) (16 : Int) == ari BinOp.sub IntKind.u8 (intAt bow t1) (16 : Int) && (w32 (Rg.at t2 (Int.toNat (intAt row (at5 (0 : Nat) nx + 2)))) == w32 (Rg.at t3 (Int.toNat (intAt bow (at5 (0 : Nat) ny + 2)))) && (w32 (Rg.at t2 (Int.toNat (intAt row (at5 (0 : Nat) nx + 3)))) == w32 (Rg.at t3 (Int.toNat (intAt bow (at5 (0 : Nat) ny + 3)))) && (w32 g6 == w32 h6 && (w32 (intAt row (at5 (0 : Nat) nx + 4)) == w32 (intAt bow (at5 (0 : Nat) ny + 4)) && g5 == h5)))))) == false); let t5 := ((!(g0 == h0 && (g1 == h1 && (g2 == h2 && (g3 == h3 && (g4 == h4 && (g5 == h5 && (g6 == h6 && g7 == h7)))))))) == false); let t6 := (decide (nx ≥ (↑num : Int)) == false); let t7 := (((0 : Int) ≤ nx ∧ nx < (↑num : Int)) ∧ True); let t8 := (off + Int.toNat nx * 5); let t9 := (IsInt IntKind.u8 cs t8 ∧ True); let t10 := (decide (ny ≥ (↑tk : Int)) == false); let t11 := (((0 : Int) ≤ ny ∧ ny < (↑tk : Int)) ∧ True); let t12 := ((0 : Nat) + Int.toNat ny * 5); let t13 := (IsInt IntKind.u8 ts t12 ∧ True); let t14 := (intAt cs t8 == (0 : Int)); let t15 := (intAt ts t12 == (0 : Int)); let t16 := (t6 = true → t7 ∧ t9 ∧ (t14 = true → true = true) ∧ (t14 = false → luy (ren 1 [(1, 1), (2, 2), (3, 3), (4, 4), (5, 5)]) off num cs ty Quy i k nx g0 g1 g2 g3 g4 g5 g6 g7 row tk ts bk ny h0 h1 h2 h3 h4 h5 h6 h7 bow)); let t17 := (t6 = false → true = true); let t18 := (!t14 == true); let t19 := (!true == t15); ((decide (i < (300 : Int)) = true → (((0 : Int) ≤ nx ∧ nx < (↑k : Int)) ∧ InsAt row t0 ∧ in8 row t0 ∧ ((16 : Int) < intAt row t0 ∧ intAt row t0 ≤ (38 : Int)) ∧ True) ∧ (((0 : Int) ≤ ny ∧ ny < (↑bk : Int)) ∧ InsAt bow t1 ∧ in8 bow t1 ∧ ((16 : Int) < intAt bow t1 ∧ intAt bow t1 ≤ (38 : Int)) ∧ True) ∧ (t4 = true → (t5 = true → (t6 = true → t7 ∧ t9 ∧ (t10 = true → t11 ∧ t13 ∧ ((!t14 == t15) = true → false = true) ∧ ((!t14 == t15) = false → t16 ∧ t17)) ∧ (t10 = false → (t18 = true → false = true) ∧ (t18 = false → t16 ∧ t17))) ∧ (t6 = false → (t10 = true → t11 ∧ t13 ∧ (t19 = true → false = true) ∧ (t19 = false → t16 ∧ t17)) ∧ (t10 = false → t16 ∧ t17))) ∧ (t5 = false → false = true)) ∧ (t4 = false → false = true)) ∧ (decide (i < (300 : Int)) = false → true = true))) := by kernel_rfl
theorem xy3_vc : (xy_t 3 off num cs ty i k nx g0 g1 g2 g3 g4 g5 g6 g7 row tk ts bk ny h0 h1 h2 h3 h4 h5 h6 h7 bow).vc (boolR true) (xy_x 3 off num cs ty i k nx g0 g1 g2 g3 g4 g5 g6 g7 row tk ts bk ny h0 h1 h2 h3 h4 h5 h6 h7 bow Quy) =
    (let t0 := (at5 (0 : Nat) nx); let t1 := (at5 (0 : Nat) ny); let t2 := ((!(g0 == h0 && (g1 == h1 && (g2 == h2 && (g3 == h3 && (g4 == h4 && (g5 == h5 && (g6 == h6 && g7 == h7)))))))) == false); let t3 := (decide (nx ≥ (↑num : Int)) == false); let t4 := (((0 : Int) ≤ nx ∧ nx < (↑num : Int)) ∧ True); let t5 := (off + Int.toNat nx * 5); let t6 := (IsInt IntKind.u8 cs t5 ∧ True); let t7 := (decide (ny ≥ (↑tk : Int)) == false); let t8 := (((0 : Int) ≤ ny ∧ ny < (↑tk : Int)) ∧ True); let t9 := ((0 : Nat) + Int.toNat ny * 5); let t10 := (IsInt IntKind.u8 ts t9 ∧ True); let t11 := (intAt cs t5 == (0 : Int)); let t12 := (intAt ts t9 == (0 : Int)); let t13 := (t3 = true → t4 ∧ t6 ∧ (t11 = true → true = true) ∧ (t11 = false → luy (ren 1 [(1, 1), (2, 2), (3, 3), (4, 4), (5, 5)]) off num cs ty Quy i k nx g0 g1 g2 g3 g4 g5 g6 g7 row tk ts bk ny h0 h1 h2 h3 h4 h5 h6 h7 bow)); let t14 := (t3 = false → true = true); let t15 := (!t11 == true); let t16 := (!true == t12); ((decide (i < (300 : Int)) = true → (((0 : Int) ≤ nx ∧ nx < (↑k : Int)) ∧ InsAt row t0 ∧ in8 row t0 ∧ (intAt row t0 = (1 : Int) ∧ (0 : Int) < intAt row t0 ∧ intAt row t0 ≤ (6 : Int)) ∧ True) ∧ (((0 : Int) ≤ ny ∧ ny < (↑bk : Int)) ∧ InsAt bow t1 ∧ in8 bow t1 ∧ (intAt bow t1 = (1 : Int) ∧ (0 : Int) < intAt bow t1 ∧ intAt bow t1 ≤ (6 : Int)) ∧ True) ∧ (t2 = true → (t3 = true → t4 ∧ t6 ∧ (t7 = true → t8 ∧ t10 ∧ ((!t11 == t12) = true → false = true) ∧ ((!t11 == t12) = false → t13 ∧ t14)) ∧ (t7 = false → (t15 = true → false = true) ∧ (t15 = false → t13 ∧ t14))) ∧ (t3 = false → (t7 = true → t8 ∧ t10 ∧ (t16 = true → false = true) ∧ (t16 = false → t13 ∧ t14)) ∧ (t7 = false → t13 ∧ t14))) ∧ (t2 = false → false = true)) ∧ (decide (i < (300 : Int)) = false → true = true))) := by kernel_rfl
theorem xy4_vc : (xy_t 4 off num cs ty i k nx g0 g1 g2 g3 g4 g5 g6 g7 row tk ts bk ny h0 h1 h2 h3 h4 h5 h6 h7 bow).vc (boolR true) (xy_x 4 off num cs ty i k nx g0 g1 g2 g3 g4 g5 g6 g7 row tk ts bk ny h0 h1 h2 h3 h4 h5 h6 h7 bow Quy) =
    (let t0 := (at5 (0 : Nat) nx); let t1 := (at5 (0 : Nat) ny); let t2 := ((!(g0 == h0 && (g1 == h1 && (g2 == h2 && (g3 == h3 && (g4 == h4 && (g5 == h5 && (g6 == h6 && g7 == h7)))))))) == false); let t3 := (decide (nx ≥ (↑num : Int)) == false); let t4 := (((0 : Int) ≤ nx ∧ nx < (↑num : Int)) ∧ True); let t5 := (off + Int.toNat nx * 5); let t6 := (IsInt IntKind.u8 cs t5 ∧ True); let t7 := (decide (ny ≥ (↑tk : Int)) == false); let t8 := (((0 : Int) ≤ ny ∧ ny < (↑tk : Int)) ∧ True); let t9 := ((0 : Nat) + Int.toNat ny * 5); let t10 := (IsInt IntKind.u8 ts t9 ∧ True); let t11 := (intAt cs t5 == (0 : Int)); let t12 := (intAt ts t9 == (0 : Int)); let t13 := (t3 = true → t4 ∧ t6 ∧ (t11 = true → true = true) ∧ (t11 = false → luy (ren 1 [(1, 1), (2, 2), (3, 3), (4, 4), (5, 5)]) off num cs ty Quy i k nx g0 g1 g2 g3 g4 g5 g6 g7 row tk ts bk ny h0 h1 h2 h3 h4 h5 h6 h7 bow)); let t14 := (t3 = false → true = true); let t15 := (!t11 == true); let t16 := (!true == t12); ((decide (i < (300 : Int)) = true → (((0 : Int) ≤ nx ∧ nx < (↑k : Int)) ∧ InsAt row t0 ∧ in8 row t0 ∧ (intAt row t0 = (2 : Int) ∧ (0 : Int) < intAt row t0 ∧ intAt row t0 ≤ (6 : Int)) ∧ True) ∧ (((0 : Int) ≤ ny ∧ ny < (↑bk : Int)) ∧ InsAt bow t1 ∧ in8 bow t1 ∧ (intAt bow t1 = (2 : Int) ∧ (0 : Int) < intAt bow t1 ∧ intAt bow t1 ≤ (6 : Int)) ∧ True) ∧ (t2 = true → (t3 = true → t4 ∧ t6 ∧ (t7 = true → t8 ∧ t10 ∧ ((!t11 == t12) = true → false = true) ∧ ((!t11 == t12) = false → t13 ∧ t14)) ∧ (t7 = false → (t15 = true → false = true) ∧ (t15 = false → t13 ∧ t14))) ∧ (t3 = false → (t7 = true → t8 ∧ t10 ∧ (t16 = true → false = true) ∧ (t16 = false → t13 ∧ t14)) ∧ (t7 = false → t13 ∧ t14))) ∧ (t2 = false → false = true)) ∧ (decide (i < (300 : Int)) = false → true = true))) := by kernel_rfl
theorem xy5_vc : (xy_t 5 off num cs ty i k nx g0 g1 g2 g3 g4 g5 g6 g7 row tk ts bk ny h0 h1 h2 h3 h4 h5 h6 h7 bow).vc (boolR true) (xy_x 5 off num cs ty i k nx g0 g1 g2 g3 g4 g5 g6 g7 row tk ts bk ny h0 h1 h2 h3 h4 h5 h6 h7 bow Quy) =
    (let t0 := (at5 (0 : Nat) nx); let t1 := (at5 (0 : Nat) ny); let t2 := ((!(g0 == h0 && (g1 == h1 && (g2 == h2 && (g3 == h3 && (g4 == h4 && (g5 == h5 && (g6 == h6 && g7 == h7)))))))) == false); let t3 := (decide (nx ≥ (↑num : Int)) == false); let t4 := (((0 : Int) ≤ nx ∧ nx < (↑num : Int)) ∧ True); let t5 := (off + Int.toNat nx * 5); let t6 := (IsInt IntKind.u8 cs t5 ∧ True); let t7 := (decide (ny ≥ (↑tk : Int)) == false); let t8 := (((0 : Int) ≤ ny ∧ ny < (↑tk : Int)) ∧ True); let t9 := ((0 : Nat) + Int.toNat ny * 5); let t10 := (IsInt IntKind.u8 ts t9 ∧ True); let t11 := (intAt cs t5 == (0 : Int)); let t12 := (intAt ts t9 == (0 : Int)); let t13 := (t3 = true → t4 ∧ t6 ∧ (t11 = true → true = true) ∧ (t11 = false → luy (ren 1 [(1, 1), (2, 2), (3, 3), (4, 4), (5, 5)]) off num cs ty Quy i k nx g0 g1 g2 g3 g4 g5 g6 g7 row tk ts bk ny h0 h1 h2 h3 h4 h5 h6 h7 bow)); let t14 := (t3 = false → true = true); let t15 := (!t11 == true); let t16 := (!true == t12); ((decide (i < (300 : Int)) = true → (((0 : Int) ≤ nx ∧ nx < (↑k : Int)) ∧ InsAt row t0 ∧ in8 row t0 ∧ (intAt row t0 = (3 : Int) ∧ (0 : Int) < intAt row t0 ∧ intAt row t0 ≤ (6 : Int)) ∧ True) ∧ (((0 : Int) ≤ ny ∧ ny < (↑bk : Int)) ∧ InsAt bow t1 ∧ in8 bow t1 ∧ (intAt bow t1 = (3 : Int) ∧ (0 : Int) < intAt bow t1 ∧ intAt bow t1 ≤ (6 : Int)) ∧ True) ∧ (t2 = true → (t3 = true → t4 ∧ t6 ∧ (t7 = true → t8 ∧ t10 ∧ ((!t11 == t12) = true → false = true) ∧ ((!t11 == t12) = false → t13 ∧ t14)) ∧ (t7 = false → (t15 = true → false = true) ∧ (t15 = false → t13 ∧ t14))) ∧ (t3 = false → (t7 = true → t8 ∧ t10 ∧ (t16 = true → false = true) ∧ (t16 = false → t13 ∧ t14)) ∧ (t7 = false → t13 ∧ t14))) ∧ (t2 = false → false = true)) ∧ (decide (i < (300 : Int)) = false → true = true))) := by kernel_rfl
theorem xy6_vc : (xy_t 6 off num cs ty i k nx g0 g1 g2 g3 g4 g5 g6 g7 row tk ts bk ny h0 h1 h2 h3 h4 h5 h6 h7 bow).vc (boolR true) (xy_x 6 off num cs ty i k nx g0 g1 g2 g3 g4 g5 g6 g7 row tk ts bk ny h0 h1 h2 h3 h4 h5 h6 h7 bow Quy) =
    (let t0 := (at5 (0 : Nat) nx); let t1 := (at5 (0 : Nat) ny); let t2 := ((!(g0 == h0 && (g1 == h1 && (g2 == h2 && (g3 == h3 && (g4 == h4 && (g5 == h5 && (g6 == h6 && g7 == h7)))))))) == false); let t3 := (decide (nx ≥ (↑num : Int)) == false); let t4 := (((0 : Int) ≤ nx ∧ nx < (↑num : Int)) ∧ True); let t5 := (off + Int.toNat nx * 5); let t6 := (IsInt IntKind.u8 cs t5 ∧ True); let t7 := (decide (ny ≥ (↑tk : Int)) == false); let t8 := (((0 : Int) ≤ ny ∧ ny < (↑tk : Int)) ∧ True); let t9 := ((0 : Nat) + Int.toNat ny * 5); let t10 := (IsInt IntKind.u8 ts t9 ∧ True); let t11 := (intAt cs t5 == (0 : Int)); let t12 := (intAt ts t9 == (0 : Int)); let t13 := (t3 = true → t4 ∧ t6 ∧ (t11 = true → true = true) ∧ (t11 = false → luy (ren 1 [(1, 1), (2, 2), (3, 3), (4, 4), (5, 5)]) off num cs ty Quy i k nx g0 g1 g2 g3 g4 g5 g6 g7 row tk ts bk ny h0 h1 h2 h3 h4 h5 h6 h7 bow)); let t14 := (t3 = false → true = true); let t15 := (!t11 == true); let t16 := (!true == t12); ((decide (i < (300 : Int)) = true → (((0 : Int) ≤ nx ∧ nx < (↑k : Int)) ∧ InsAt row t0 ∧ in8 row t0 ∧ (intAt row t0 = (4 : Int) ∧ (0 : Int) < intAt row t0 ∧ intAt row t0 ≤ (6 : Int)) ∧ True) ∧ (((0 : Int) ≤ ny ∧ ny < (↑bk : Int)) ∧ InsAt bow t1 ∧ in8 bow t1 ∧ (intAt bow t1 = (4 : Int) ∧ (0 : Int) < intAt bow t1 ∧ intAt bow t1 ≤ (6 : Int)) ∧ True) ∧ (t2 = true → (t3 = true → t4 ∧ t6 ∧ (t7 = true → t8 ∧ t10 ∧ ((!t11 == t12) = true → false = true) ∧ ((!t11 == t12) = false → t13 ∧ t14)) ∧ (t7 = false → (t15 = true → false = true) ∧ (t15 = false → t13 ∧ t14))) ∧ (t3 = false → (t7 = true → t8 ∧ t10 ∧ (t16 = true → false = true) ∧ (t16 = false → t13 ∧ t14)) ∧ (t7 = false → t13 ∧ t14))) ∧ (t2 = false → false = true)) ∧ (decide (i < (300 : Int)) = false → true = true))) := by kernel_rfl
theorem xy7_vc : (xy_t 7 off num cs ty i k nx g0 g1 g2 g3 g4 g5 g6 g7 row tk ts bk ny h0 h1 h2 h3 h4 h5 h6 h7 bow).vc (boolR true) (xy_x 7 off num cs ty i k nx g0 g1 g2 g3 g4 g5 g6 g7 row tk ts bk ny h0 h1 h2 h3 h4 h5 h6 h7 bow Quy) =
    (let t0 := (at5 (0 : Nat) nx); let t1 := (at5 (0 : Nat) ny); let t2 := ((!(g0 == h0 && (g1 == h1 && (g2 == h2 && (g3 == h3 && (g4 == h4 && (g5 == h5 && (g6 == h6 && g7 == h7)))))))) == false); let t3 := (decide (nx ≥ (↑num : Int)) == false); let t4 := (((0 : Int) ≤ nx ∧ nx < (↑num : Int)) ∧ True); let t5 := (off + Int.toNat nx * 5); let t6 := (IsInt IntKind.u8 cs t5 ∧ True); let t7 := (decide (ny ≥ (↑tk : Int)) == false); let t8 := (((0 : Int) ≤ ny ∧ ny < (↑tk : Int)) ∧ True); let t9 := ((0 : Nat) + Int.toNat ny * 5); let t10 := (IsInt IntKind.u8 ts t9 ∧ True); let t11 := (intAt cs t5 == (0 : Int)); let t12 := (intAt ts t9 == (0 : Int)); let t13 := (t3 = true → t4 ∧ t6 ∧ (t11 = true → true = true) ∧ (t11 = false → luy (ren 1 [(1, 1), (2, 2), (3, 3), (4, 4), (5, 5)]) off num cs ty Quy i k nx g0 g1 g2 g3 g4 g5 g6 g7 row tk ts bk ny h0 h1 h2 h3 h4 h5 h6 h7 bow)); let t14 := (t3 = false → true = true); let t15 := (!t11 == true); let t16 := (!true == t12); ((decide (i < (300 : Int)) = true → (((0 : Int) ≤ nx ∧ nx < (↑k : Int)) ∧ InsAt row t0 ∧ in8 row t0 ∧ (intAt row t0 = (5 : Int) ∧ (0 : Int) < intAt row t0 ∧ intAt row t0 ≤ (6 : Int)) ∧ True) ∧ (((0 : Int) ≤ ny ∧ ny < (↑bk : Int)) ∧ InsAt bow t1 ∧ in8 bow t1 ∧ (intAt bow t1 = (5 : Int) ∧ (0 : Int) < intAt bow t1 ∧ intAt bow t1 ≤ (6 : Int)) ∧ True) ∧ (t2 = true → (t3 = true → t4 ∧ t6 ∧ (t7 = true → t8 ∧ t10 ∧ ((!t11 == t12) = true → false = true) ∧ ((!t11 == t12) = false → t13 ∧ t14)) ∧ (t7 = false → (t15 = true → false = true) ∧ (t15 = false → t13 ∧ t14))) ∧ (t3 = false → (t7 = true → t8 ∧ t10 ∧ (t16 = true → false = true) ∧ (t16 = false → t13 ∧ t14)) ∧ (t7 = false → t13 ∧ t14))) ∧ (t2 = false → false = true)) ∧ (decide (i < (300 : Int)) = false → true = true))) := by kernel_rfl
theorem xy8_vc : (xy_t 8 off num cs ty i k nx g0 g1 g2 g3 g4 g5 g6 g7 row tk ts bk ny h0 h1 h2 h3 h4 h5 h6 h7 bow).vc (boolR true) (xy_x 8 off num cs ty i k nx g0 g1 g2 g3 g4 g5 g6 g7 row tk ts bk ny h0 h1 h2 h3 h4 h5 h6 h7 bow Quy) =
    (let t0 := (at5 (0 : Nat) nx); let t1 := (at5 (0 : Nat) ny); let t2 := ((!(g0 == h0 && (g1 == h1 && (g2 == h2 && (g3 == h3 && (g4 == h4 && (g5 == h5 && (g6 == h6 && g7 == h7)))))))) == false); let t3 := (decide (nx ≥ (↑num : Int)) == false); let t4 := (((0 : Int) ≤ nx ∧ nx < (↑num : Int)) ∧ True); let t5 := (off + Int.toNat nx * 5); let t6 := (IsInt IntKind.u8 cs t5 ∧ True); let t7 := (decide (ny ≥ (↑tk : Int)) == false); let t8 := (((0 : Int) ≤ ny ∧ ny < (↑tk : Int)) ∧ True); let t9 := ((0 : Nat) + Int.toNat ny * 5); let t10 := (IsInt IntKind.u8 ts t9 ∧ True); let t11 := (intAt cs t5 == (0 : Int)); let t12 := (intAt ts t9 == (0 : Int)); let t13 := (t3 = true → t4 ∧ t6 ∧ (t11 = true → true = true) ∧ (t11 = false → luy (ren 1 [(1, 1), (2, 2), (3, 3), (4, 4), (5, 5)]) off num cs ty Quy i k nx g0 g1 g2 g3 g4 g5 g6 g7 row tk ts bk ny h0 h1 h2 h3 h4 h5 h6 h7 bow)); let t14 := (t3 = false → true = true); let t15 := (!t11 == true); let t16 := (!true == t12); ((decide (i < (300 : Int)) = true → (((0 : Int) ≤ nx ∧ nx < (↑k : Int)) ∧ InsAt row t0 ∧ in8 row t0 ∧ (intAt row t0 = (6 : Int) ∧ (0 : Int) < intAt row t0 ∧ intAt row t0 ≤ (6 : Int)) ∧ True) ∧ (((0 : Int) ≤ ny ∧ ny < (↑bk : Int)) ∧ InsAt bow t1 ∧ in8 bow t1 ∧ (intAt bow t1 = (6 : Int) ∧ (0 : Int) < intAt bow t1 ∧ intAt bow t1 ≤ (6 : Int)) ∧ True) ∧ (t2 = true → (t3 = true → t4 ∧ t6 ∧ (t7 = true → t8 ∧ t10 ∧ ((!t11 == t12) = true → false = true) ∧ ((!t11 == t12) = false → t13 ∧ t14)) ∧ (t7 = false → (t15 = true → false = true) ∧ (t15 = false → t13 ∧ t14))) ∧ (t3 = false → (t7 = true → t8 ∧ t10 ∧ (t16 = true → false = true) ∧ (t16 = false → t13 ∧ t14)) ∧ (t7 = false → t13 ∧ t14))) ∧ (t2 = false → false = true)) ∧ (decide (i < (300 : Int)) = false → true = true))) := by kernel_rfl
theorem yy2_vc : (yy_t 2 off num cs ty i k nx g0 g1 g2 g3 g4 g5 g6 g7 row tk ts bk ny h0 h1 h2 h3 h4 h5 h6 h7 bow).vc (boolR true) (yy_x 2 off num cs ty i k nx g0 g1 g2 g3 g4 g5 g6 g7 row tk ts bk ny h0 h1 h2 h3 h4 h5 h6 h7 bow Qvy) =
    (let t0 := (at5 (0 : Nat) nx); let t1 := ((0 : Nat) + k); let t2 := (Array.extract row (0 : Nat) ((0 : Nat) + k * 5)); let t3 := (((0 : Int) ≤ nx ∧ nx < (↑t1 : Int)) ∧ InsAt t2 t0 ∧ in8 t2 t0 ∧ ((16 : Int) < intAt t2 t0 ∧ intAt t2 t0 ≤ (38 : Int)) ∧ True); let t4 := (at5 (0 : Nat) nx + 1); let t5 := (ren 1 [(1, 1), (2, 15), (3, 3), (4, 4), (5, 5)]); let t6 := (ari BinOp.add IntKind.i64 nx (1 : Int)); let t7 := ((2 : Nat) + Int.toNat (intAt t2 t4) * 1); ((((0 : Int) ≤ nx ∧ nx < (↑k : Int)) ∧ InsAt row t0 ∧ in8 row t0 ∧ ((16 : Int) < intAt row t0 ∧ intAt row t0 ≤ (38 : Int)) ∧ True) ∧ ((0 : Nat) + k * 5 ≤ Array.size row ∧ (t1 * 6 ≤ (140737488355328 : Nat) ∧ (0 : Nat) + k ≤ (140737488355328 : Nat)) ∧ True) ∧ t3 ∧ t3 ∧ (decide (intAt t2 t4 < (8 : Int)) = true → (((0 : Int) ≤ intAt t2 t4 ∧ intAt t2 t4 < (8 : Int)) ∧ True) ∧ (((2 : Nat) ≤ (2 : Nat) + Int.toNat (intAt t2 t4) * 1 ∧ (2 : Nat) + Int.toNat (intAt t2 t4) * 1 < (10 : Nat)) ∧ True) ∧ lvy t5 off num cs ty Qvy i t1 t6 (selI t7 (2 : Nat) (0 : Int) g0) (selI t7 (3 : Nat) (0 : Int) g1) (selI t7 (4 : Nat) (0 : Int) g2) (selI t7 (5 : Nat) (0 : Int) g3) (0 : Int) (selI t7 (7 : Nat) (0 : Int) g5) (selI t7 (8 : Nat) (0 : Int) g6) (0 : Int) t2 tk ts bk ny h0 h1 h2 h3 h4 h5 h6 h7 bow) ∧ (decide (intAt t2 t4 < (8 : Int)) = false → lvy t5 off num cs ty Qvy i t1 t6 g0 g1 g2 g3 (0 : Int) g5 g6 (0 : Int) t2 tk ts bk ny h0 h1 h2 h3 h4 h5 h6 h7 bow))) := by kernel_rfl
theorem yy3_vc : (yy_t 3 off num cs ty i k nx g0 g1 g2 g3 g4 g5 g6 g7 row tk ts bk ny h0 h1 h2 h3 h4 h5 h6 h7 bow).vc (boolR true) (yy_x 3 off num cs ty i k nx g0 g1 g2 g3 g4 g5 g6 g7 row tk ts bk ny h0 h1 h2 h3 h4 h5 h6 h7 bow Qvy) =
    (let t0 := (at5 (0 : Nat) nx); let t1 := ((0 : Nat) + k); let t2 := (Array.extract row (0 : Nat) ((0 : Nat) + k * 5)); let t3 := (((0 : Int) ≤ nx ∧ nx < (↑t1 : Int)) ∧ InsAt t2 t0 ∧ in8 t2 t0 ∧ (intAt t2 t0 = (1 : Int) ∧ (0 : Int) < intAt t2 t0 ∧ intAt t2 t0 ≤ (6 : Int)) ∧ True); let t4 := (at5 (0 : Nat) nx + 1); let t5 := (ren 1 [(1, 1), (2, 14), (3, 3), (4, 4), (5, 5)]); let t6 := (ari BinOp.add IntKind.i64 nx (1 : Int)); let t7 := ((2 : Nat) + Int.toNat (intAt t2 t4) * 1); let t8 := (IntKind.wrap IntKind.u64 (intAt t2 (at5 (0 : Nat) nx + 4))); ((((0 : Int) ≤ nx ∧ nx < (↑k : Int)) ∧ InsAt row t0 ∧ in8 row t0 ∧ (intAt row t0 = (1 : Int) ∧ (0 : Int) < intAt row t0 ∧ intAt row t0 ≤ (6 : Int)) ∧ True) ∧ ((0 : Nat) + k * 5 ≤ Array.size row ∧ (t1 * 6 ≤ (140737488355328 : Nat) ∧ (0 : Nat) + k ≤ (140737488355328 : Nat)) ∧ True) ∧ t3 ∧ t3 ∧ (decide (intAt t2 t4 < (8 : Int)) = true → (((0 : Int) ≤ intAt t2 t4 ∧ intAt t2 t4 < (8 : Int)) ∧ True) ∧ (((2 : Nat) ≤ (2 : Nat) + Int.toNat (intAt t2 t4) * 1 ∧ (2 : Nat) + Int.toNat (intAt t2 t4) * 1 < (10 : Nat)) ∧ True) ∧ lvy t5 off num cs ty Qvy i t1 t6 (selI t7 (2 : Nat) t8 g0) (selI t7 (3 : Nat) t8 g1) (selI t7 (4 : Nat) t8 g2) (selI t7 (5 : Nat) t8 g3) (selI t7 (6 : Nat) t8 g4) (selI t7 (7 : Nat) t8 g5) (selI t7 (8 : Nat) t8 g6) (selI t7 (9 : Nat) t8 g7) t2 tk ts bk ny h0 h1 h2 h3 h4 h5 h6 h7 bow) ∧ (decide (intAt t2 t4 < (8 : Int)) = false → lvy t5 off num cs ty Qvy i t1 t6 g0 g1 g2 g3 g4 g5 g6 g7 t2 tk ts bk ny h0 h1 h2 h3 h4 h5 h6 h7 bow))) := by kernel_rfl
theorem yy4_vc : (yy_t 4 off num cs ty i k nx g0 g1 g2 g3 g4 g5 g6 g7 row tk ts bk ny h0 h1 h2 h3 h4 h5 h6 h7 bow).vc (boolR true) (yy_x 4 off num cs ty i k nx g0 g1 g2 g3 g4 g5 g6 g7 row tk ts bk ny h0 h1 h2 h3 h4 h5 h6 h7 bow Qvy) =
    (let t0 := (at5 (0 : Nat) nx); let t1 := ((0 : Nat) + k); let t2 := (Array.extract row (0 : Nat) ((0 : Nat) + k * 5)); let t3 := (((0 : Int) ≤ nx ∧ nx < (↑t1 : Int)) ∧ InsAt t2 t0 ∧ in8 t2 t0 ∧ (intAt t2 t0 = (2 : Int) ∧ (0 : Int) < intAt t2 t0 ∧ intAt t2 t0 ≤ (6 : Int)) ∧ True); let t4 := (at5 (0 : Nat) nx + 2); let t5 := (at5 (0 : Nat) nx + 3); let t6 := (at5 (0 : Nat) nx + 1); let t7 := (ren 1 [(1, 1), (2, 14), (3, 3), (4, 4), (5, 5)]); let t8 := (ari BinOp.add IntKind.i64 nx (1 : Int)); let t9 := ((2 : Nat) + Int.toNat (intAt t2 t6) * 1); let t10 := (Rg.mk g0 g1 g2 g3 g4 g5 g6 g7); let t11 := (ari BinOp.add IntKind.u64 (Rg.at t10 (Int.toNat (intAt t2 t4))) (Rg.at t10 (Int.toNat (intAt t2 t5)))); ((((0 : Int) ≤ nx ∧ nx < (↑k : Int)) ∧ InsAt row t0 ∧ in8 row t0 ∧ (intAt row t0 = (2 : Int) ∧ (0 : Int) < intAt row t0 ∧ intAt row t0 ≤ (6 : Int)) ∧ True) ∧ ((0 : Nat) + k * 5 ≤ Array.size row ∧ (t1 * 6 ≤ (140737488355328 : Nat) ∧ (0 : Nat) + k ≤ (140737488355328 : Nat)) ∧ True) ∧ t3 ∧ t3 ∧ (((0 : Int) ≤ intAt t2 t4 ∧ intAt t2 t4 < (8 : Int)) ∧ True) ∧ (((0 : Int) ≤ intAt t2 t5 ∧ intAt t2 t5 < (8 : Int)) ∧ True) ∧ (decide (intAt t2 t6 < (8 : Int)) = true → (((0 : Int) ≤ intAt t2 t6 ∧ intAt t2 t6 < (8 : Int)) ∧ True) ∧ (((2 : Nat) ≤ (2 : Nat) + Int.toNat (intAt t2 t6) * 1 ∧ (2 : Nat) + Int.toNat (intAt t2 t6) * 1 < (10 : Nat)) ∧ True) ∧ lvy t7 off num cs ty Qvy i t1 t8 (selI t9 (2 : Nat) t11 g0) (selI t9 (3 : Nat) t11 g1) (selI t9 (4 : Nat) t11 g2) (selI t9 (5 : Nat) t11 g3) (selI t9 (6 : Nat) t11 g4) (selI t9 (7 : Nat) t11 g5) (selI t9 (8 : Nat) t11 g6) (selI t9 (9 : Nat) t11 g7) t2 tk ts bk ny h0 h1 h2 h3 h4 h5 h6 h7 bow) ∧ (decide (intAt t2 t6 < (8 : Int)) = false → lvy t7 off num cs ty Qvy i t1 t8 g0 g1 g2 g3 g4 g5 g6 g7 t2 tk ts bk ny h0 h1 h2 h3 h4 h5 h6 h7 bow))) := by kernel_rfl
theorem yy5_vc : (yy_t 5 off num cs ty i k nx g0 g1 g2 g3 g4 g5 g6 g7 row tk ts bk ny h0 h1 h2 h3 h4 h5 h6 h7 bow).vc (boolR true) (yy_x 5 off num cs ty i k nx g0 g1 g2 g3 g4 g5 g6 g7 row tk ts bk ny h0 h1 h2 h3 h4 h5 h6 h7 bow Qvy) =
    (let t0 := (at5 (0 : Nat) nx); let t1 := ((0 : Nat) + k); let t2 := (Array.extract row (0 : Nat) ((0 : Nat) + k * 5)); let t3 := (((0 : Int) ≤ nx ∧ nx < (↑t1 : Int)) ∧ InsAt t2 t0 ∧ in8 t2 t0 ∧ (intAt t2 t0 = (3 : Int) ∧ (0 : Int) < intAt t2 t0 ∧ intAt t2 t0 ≤ (6 : Int)) ∧ True); let t4 := (at5 (0 : Nat) nx + 2); let t5 := (at5 (0 : Nat) nx + 3); let t6 := (at5 (0 : Nat) nx + 1); let t7 := (ren 1 [(1, 1), (2, 14), (3, 3), (4, 4), (5, 5)]); let t8 := (ari BinOp.add IntKind.i64 nx (1 : Int)); let t9 := ((2 : Nat) + Int.toNat (intAt t2 t6) * 1); let t10 := (Rg.mk g0 g1 g2 g3 g4 g5 g6 g7); let t11 := (ari BinOp.sub IntKind.u64 (Rg.at t10 (Int.toNat (intAt t2 t4))) (Rg.at t10 (Int.toNat (intAt t2 t5)))); ((((0 : Int) ≤ nx ∧ nx < (↑k : Int)) ∧ InsAt row t0 ∧ in8 row t0 ∧ (intAt row t0 = (3 : Int) ∧ (0 : Int) < intAt row t0 ∧ intAt row t0 ≤ (6 : Int)) ∧ True) ∧ ((0 : Nat) + k * 5 ≤ Array.size row ∧ (t1 * 6 ≤ (140737488355328 : Nat) ∧ (0 : Nat) + k ≤ (140737488355328 : Nat)) ∧ True) ∧ t3 ∧ t3 ∧ (((0 : Int) ≤ intAt t2 t4 ∧ intAt t2 t4 < (8 : Int)) ∧ True) ∧ (((0 : Int) ≤ intAt t2 t5 ∧ intAt t2 t5 < (8 : Int)) ∧ True) ∧ (decide (intAt t2 t6 < (8 : Int)) = true → (((0 : Int) ≤ intAt t2 t6 ∧ intAt t2 t6 < (8 : Int)) ∧ True) ∧ (((2 : Nat) ≤ (2 : Nat) + Int.toNat (intAt t2 t6) * 1 ∧ (2 : Nat) + Int.toNat (intAt t2 t6) * 1 < (10 : Nat)) ∧ True) ∧ lvy t7 off num cs ty Qvy i t1 t8 (selI t9 (2 : Nat) t11 g0) (selI t9 (3 : Nat) t11 g1) (selI t9 (4 : Nat) t11 g2) (selI t9 (5 : Nat) t11 g3) (selI t9 (6 : Nat) t11 g4) (selI t9 (7 : Nat) t11 g5) (selI t9 (8 : Nat) t11 g6) (selI t9 (9 : Nat) t11 g7) t2 tk ts bk ny h0 h1 h2 h3 h4 h5 h6 h7 bow) ∧ (decide (intAt t2 t6 < (8 : Int)) = false → lvy t7 off num cs ty Qvy i t1 t8 g0 g1 g2 g3 g4 g5 g6 g7 t2 tk ts bk ny h0 h1 h2 h3 h4 h5 h6 h7 bow))) := by kernel_rfl
theorem yy6_vc : (yy_t 6 off num cs ty i k nx g0 g1 g2 g3 g4 g5 g6 g7 row tk ts bk ny h0 h1 h2 h3 h4 h5 h6 h7 bow).vc (boolR true) (yy_x 6 off num cs ty i k nx g0 g1 g2 g3 g4 g5 g6 g7 row tk ts bk ny h0 h1 h2 h3 h4 h5 h6 h7 bow Qvy) =
    (let t0 := (at5 (0 : Nat) nx); let t1 := ((0 : Nat) + k); let t2 := (Array.extract row (0 : Nat) ((0 : Nat) + k * 5)); let t3 := (((0 : Int) ≤ nx ∧ nx < (↑t1 : Int)) ∧ InsAt t2 t0 ∧ in8 t2 t0 ∧ (intAt t2 t0 = (4 : Int) ∧ (0 : Int) < intAt t2 t0 ∧ intAt t2 t0 ≤ (6 : Int)) ∧ True); let t4 := (at5 (0 : Nat) nx + 2); let t5 := (at5 (0 : Nat) nx + 4); let t6 := (at5 (0 : Nat) nx + 1); let t7 := (ren 1 [(1, 1), (2, 14), (3, 3), (4, 4), (5, 5)]); let t8 := (ari BinOp.add IntKind.i64 nx (1 : Int)); let t9 := ((2 : Nat) + Int.toNat (intAt t2 t6) * 1); let t10 := (ari BinOp.shl IntKind.u64 (Rg.at (Rg.mk g0 g1 g2 g3 g4 g5 g6 g7) (Int.toNat (intAt t2 t4))) (intAt t2 t5)); ((((0 : Int) ≤ nx ∧ nx < (↑k : Int)) ∧ InsAt row t0 ∧ in8 row t0 ∧ (intAt row t0 = (4 : Int) ∧ (0 : Int) < intAt row t0 ∧ intAt row t0 ≤ (6 : Int)) ∧ True) ∧ ((0 : Nat) + k * 5 ≤ Array.size row ∧ (t1 * 6 ≤ (140737488355328 : Nat) ∧ (0 : Nat) + k ≤ (140737488355328 : Nat)) ∧ True) ∧ t3 ∧ t3 ∧ (((0 : Int) ≤ intAt t2 t4 ∧ intAt t2 t4 < (8 : Int)) ∧ True) ∧ ((0 : Int) ≤ intAt t2 t5 ∧ True) ∧ (decide (intAt t2 t6 < (8 : Int)) = true → (((0 : Int) ≤ intAt t2 t6 ∧ intAt t2 t6 < (8 : Int)) ∧ True) ∧ (((2 : Nat) ≤ (2 : Nat) + Int.toNat (intAt t2 t6) * 1 ∧ (2 : Nat) + Int.toNat (intAt t2 t6) * 1 < (10 : Nat)) ∧ True) ∧ lvy t7 off num cs ty Qvy i t1 t8 (selI t9 (2 : Nat) t10 g0) (selI t9 (3 : Nat) t10 g1) (selI t9 (4 : Nat) t10 g2) (selI t9 (5 : Nat) t10 g3) (selI t9 (6 : Nat) t10 g4) (selI t9 (7 : Nat) t10 g5) (selI t9 (8 : Nat) t10 g6) (selI t9 (9 : Nat) t10 g7) t2 tk ts bk ny h0 h1 h2 h3 h4 h5 h6 h7 bow) ∧ (decide (intAt t2 t6 < (8 : Int)) = false → lvy t7 off num cs ty Qvy i t1 t8 g0 g1 g2 g3 g4 g5 g6 g7 t2 tk ts bk ny h0 h1 h2 h3 h4 h5 h6 h7 bow))) := by kernel_rfl
theorem yy7_vc : (yy_t 7 off num cs ty i k nx g0 g1 g2 g3 g4 g5 g6 g7 row tk ts bk ny h0 h1 h2 h3 h4 h5 h6 h7 bow).vc (boolR true) (yy_x 7 off num cs ty i k nx g0 g1 g2 g3 g4 g5 g6 g7 row tk ts bk ny h0 h1 h2 h3 h4 h5 h6 h7 bow Qvy) =
    (let t0 := (at5 (0 : Nat) nx); let t1 := ((0 : Nat) + k); let t2 := (Array.extract row (0 : Nat) ((0 : Nat) + k * 5)); let t3 := (((0 : Int) ≤ nx ∧ nx < (↑t1 : Int)) ∧ InsAt t2 t0 ∧ in8 t2 t0 ∧ (intAt t2 t0 = (5 : Int) ∧ (0 : Int) < intAt t2 t0 ∧ intAt t2 t0 ≤ (6 : Int)) ∧ True); ((((0 : Int) ≤ nx ∧ nx < (↑k : Int)) ∧ InsAt row t0 ∧ in8 row t0 ∧ (intAt row t0 = (5 : Int) ∧ (0 : Int) < intAt row t0 ∧ intAt row t0 ≤ (6 : Int)) ∧ True) ∧ ((0 : Nat) + k * 5 ≤ Array.size row ∧ (t1 * 6 ≤ (140737488355328 : Nat) ∧ (0 : Nat) + k ≤ (140737488355328 : Nat)) ∧ True) ∧ t3 ∧ t3 ∧ lvy (ren 1 [(1, 1), (2, 14), (3, 3), (4, 4), (5, 5)]) off num cs ty Qvy i t1 (IntKind.wrap IntKind.i64 (intAt t2 (at5 (0 : Nat) nx + 4))) g0 g1 g2 g3 g4 g5 g6 g7 t2 tk ts bk ny h0 h1 h2 h3 h4 h5 h6 h7 bow)) := by kernel_rfl
theorem yy8_vc : (yy_t 8 off num cs ty i k nx g0 g1 g2 g3 g4 g5 g6 g7 row tk ts bk ny h0 h1 h2 h3 h4 h5 h6 h7 bow).vc (boolR true) (yy_x 8 off num cs ty i k nx g0 g1 g2 g3 g4 g5 g6 g7 row tk ts bk ny h0 h1 h2 h3 h4 h5 h6 h7 bow Qvy) =
    (let t0 := (at5 (0 : Nat) nx); let t1 := ((0 : Nat) + k); let t2 := (Array.extract row (0 : Nat) ((0 : Nat) + k * 5)); let t3 := (((0 : Int) ≤ nx ∧ nx < (↑t1 : Int)) ∧ InsAt t2 t0 ∧ in8 t2 t0 ∧ (intAt t2 t0 = (6 : Int) ∧ (0 : Int) < intAt t2 t0 ∧ intAt t2 t0 ≤ (6 : Int)) ∧ True); let t4 := (at5 (0 : Nat) nx + 1); let t5 := (Rg.at (Rg.mk g0 g1 g2 g3 g4 g5 g6 g7) (Int.toNat (intAt t2 t4)) != (0 : Int)); let t6 := (ren 1 [(1, 1), (2, 14), (3, 3), (4, 4), (5, 5)]); ((((0 : Int) ≤ nx ∧ nx < (↑k : Int)) ∧ InsAt row t0 ∧ in8 row t0 ∧ (intAt row t0 = (6 : Int) ∧ (0 : Int) < intAt row t0 ∧ intAt row t0 ≤ (6 : Int)) ∧ True) ∧ ((0 : Nat) + k * 5 ≤ Array.size row ∧ (t1 * 6 ≤ (140737488355328 : Nat) ∧ (0 : Nat) + k ≤ (140737488355328 : Nat)) ∧ True) ∧ t3 ∧ t3 ∧ (((0 : Int) ≤ intAt t2 t4 ∧ intAt t2 t4 < (8 : Int)) ∧ True) ∧ (t5 = true → lvy t6 off num cs ty Qvy i t1 (IntKind.wrap IntKind.i64 (intAt t2 (at5 (0 : Nat) nx + 4))) g0 g1 g2 g3 g4 g5 g6 g7 t2 tk ts bk ny h0 h1 h2 h3 h4 h5 h6 h7 bow) ∧ (t5 = false → lvy t6 off num cs ty Qvy i t1 (ari BinOp.add IntKind.i64 nx (1 : Int)) g0 g1 g2 g3 g4 g5 g6 g7 t2 tk ts bk ny h0 h1 h2 h3 h4 h5 h6 h7 bow))) := by kernel_rfl
theorem zy2_vc : (zy_t 2 off num cs ty i k nx g0 g1 g2 g3 g4 g5 g6 g7 row tk ts bk ny h0 h1 h2 h3 h4 h5 h6 h7 bow).vc (boolR true) (zy_x 2 off num cs ty i k nx g0 g1 g2 g3 g4 g5 g6 g7 row tk ts bk ny h0 h1 h2 h3 h4 h5 h6 h7 bow Qsy) =
    (let t0 := (at5 (0 : Nat) ny); let t1 := ((0 : Nat) + bk); let t2 := ((0 : Nat) + bk * 5); let t3 := (Array.extract bow (0 : Nat) t2); let t4 := (((0 : Int) ≤ ny ∧ ny < (↑t1 : Int)) ∧ InsAt t3 t0 ∧ in8 t3 t0 ∧ ((16 : Int) < intAt t3 t0 ∧ intAt t3 t0 ≤ (38 : Int)) ∧ True); let t5 := (at5 (0 : Nat) ny + 1); let t6 := (ari BinOp.add IntKind.i64 i (1 : Int)); let t7 := (ari BinOp.add IntKind.i64 ny (1 : Int)); let t8 := ((2 : Nat) + Int.toNat (intAt t3 t5) * 1); let t9 := (ren 1 [(1, 1), (2, 2), (3, 3), (4, 4), (5, 15)]); ((((0 : Int) ≤ ny ∧ ny < (↑bk : Int)) ∧ InsAt bow t0 ∧ in8 bow t0 ∧ ((16 : Int) < intAt bow t0 ∧ intAt bow t0 ≤ (38 : Int)) ∧ True) ∧ ((0 : Nat) + bk * 5 ≤ Array.size bow ∧ (t1 * 6 ≤ (140737488355328 : Nat) ∧ (0 : Nat) + bk ≤ (140737488355328 : Nat)) ∧ True) ∧ t4 ∧ t4 ∧ (decide (intAt t3 t5 < (8 : Int)) = true → (((0 : Int) ≤ intAt t3 t5 ∧ intAt t3 t5 < (8 : Int)) ∧ True) ∧ (((2 : Nat) ≤ (2 : Nat) + Int.toNat (intAt t3 t5) * 1 ∧ (2 : Nat) + Int.toNat (intAt t3 t5) * 1 < (10 : Nat)) ∧ True) ∧ Qsy t6 k nx g0 g1 g2 g3 g4 g5 g6 g7 row tk ts t1 t7 (selI t8 (2 : Nat) (0 : Int) h0) (selI t8 (3 : Nat) (0 : Int) h1) (selI t8 (4 : Nat) (0 : Int) h2) (selI t8 (5 : Nat) (0 : Int) h3) (0 : Int) (selI t8 (7 : Nat) (0 : Int) h5) (selI t8 (8 : Nat) (0 : Int) h6) (0 : Int) t3 ∧ CallKind.normal = CallKind.normal ∧ TodoOk t9 sy_d0 sy_d0 ∧ off = off ∧ num = num ∧ tk = tk ∧ ari BinOp.add IntKind.i64 i (1 : Int) = ari BinOp.add IntKind.i64 i (1 : Int) ∧ ty = ty ∧ cs = cs ∧ (28 : TypeId) = (28 : TypeId) ∧ k = k ∧ nx = nx ∧ g0 = g0 ∧ g1 = g1 ∧ g2 = g2 ∧ g3 = g3 ∧ g4 = g4 ∧ g5 = g5 ∧ g6 = g6 ∧ g7 = g7 ∧ (52 : TypeId) = (52 : TypeId) ∧ ts = ts ∧ (52 : TypeId) = (52 : Nat) ∧ Array.extract bow (0 : Nat) t2 = Array.extract bow (0 : Nat) t2 ∧ (52 : TypeId) = (52 : TypeId) ∧ row = row ∧ (28 : TypeId) = (28 : TypeId) ∧ (0 : Nat) + bk = (0 : Nat) + bk ∧ ari BinOp.add IntKind.i64 ny (1 : Int) = ari BinOp.add IntKind.i64 ny (1 : Int) ∧ selI t8 (2 : Nat) (0 : Int) h0 = selI t8 (2 : Nat) (0 : Int) h0 ∧ selI t8 (3 : Nat) (0 : Int) h1 = selI t8 (3 : Nat) (0 : Int) h1 ∧ selI t8 (4 : Nat) (0 : Int) h2 = selI t8 (4 : Nat) (0 : Int) h2 ∧ selI t8 (5 : Nat) (0 : Int) h3 = selI t8 (5 : Nat) (0 : Int) h3 ∧ (0 : Int) = (0 : Int) ∧ selI t8 (7 : Nat) (0 : Int) h5 = selI t8 (7 : Nat) (0 : Int) h5 ∧ selI t8 (8 : Nat) (0 : Int) h6 = selI t8 (8 : Nat) (0 : Int) h6 ∧ (0 : Int) = (0 : Int) ∧ True) ∧ (decide (intAt t3 t5 < (8 : Int)) = false → Qsy t6 k nx g0 g1 g2 g3 g4 g5 g6 g7 row tk ts t1 t7 h0 h1 h2 h3 (0 : Int) h5 h6 (0 : Int) t3 ∧ CallKind.normal = CallKind.normal ∧ TodoOk t9 sy_d0 sy_d0 ∧ off = off ∧ num = num ∧ tk = tk ∧ ari BinOp.add IntKind.i64 i (1 : Int) = ari BinOp.add IntKind.i64 i (1 : Int) ∧ ty = ty ∧ cs = cs ∧ (28 : TypeId) = (28 : TypeId) ∧ k = k ∧ nx = nx ∧ g0 = g0 ∧ g1 = g1 ∧ g2 = g2 ∧ g3 = g3 ∧ g4 = g4 ∧ g5 = g5 ∧ g6 = g6 ∧ g7 = g7 ∧ (52 : TypeId) = (52 : TypeId) ∧ ts = ts ∧ (52 : TypeId) = (52 : Nat) ∧ Array.extract bow (0 : Nat) t2 = Array.extract bow (0 : Nat) t2 ∧ (52 : TypeId) = (52 : TypeId) ∧ row = row ∧ (28 : TypeId) = (28 : TypeId) ∧ (0 : Nat) + bk = (0 : Nat) + bk ∧ ari BinOp.add IntKind.i64 ny (1 : Int) = ari BinOp.add IntKind.i64 ny (1 : Int) ∧ h0 = h0 ∧ h1 = h1 ∧ h2 = h2 ∧ h3 = h3 ∧ (0 : Int) = (0 : Int) ∧ h5 = h5 ∧ h6 = h6 ∧ (0 : Int) = (0 : Int) ∧ True))) := by kernel_rfl
theorem zy3_vc : (zy_t 3 off num cs ty i k nx g0 g1 g2 g3 g4 g5 g6 g7 row tk ts bk ny h0 h1 h2 h3 h4 h5 h6 h7 bow).vc (boolR true) (zy_x 3 off num cs ty i k nx g0 g1 g2 g3 g4 g5 g6 g7 row tk ts bk ny h0 h1 h2 h3 h4 h5 h6 h7 bow Qsy) =
    (let t0 := (at5 (0 : Nat) ny); let t1 := ((0 : Nat) + bk); let t2 := ((0 : Nat) + bk * 5); let t3 := (Array.extract bow (0 : Nat) t2); let t4 := (((0 : Int) ≤ ny ∧ ny < (↑t1 : Int)) ∧ InsAt t3 t0 ∧ in8 t3 t0 ∧ (intAt t3 t0 = (1 : Int) ∧ (0 : Int) < intAt t3 t0 ∧ intAt t3 t0 ≤ (6 : Int)) ∧ True); let t5 := (at5 (0 : Nat) ny + 1); let t6 := (ari BinOp.add IntKind.i64 i (1 : Int)); let t7 := (ari BinOp.add IntKind.i64 ny (1 : Int)); let t8 := ((2 : Nat) + Int.toNat (intAt t3 t5) * 1); let t9 := (IntKind.wrap IntKind.u64 (intAt t3 (at5 (0 : Nat) ny + 4))); let t10 := (ren 1 [(1, 1), (2, 2), (3, 3), (4, 4), (5, 14)]); ((((0 : Int) ≤ ny ∧ ny < (↑bk : Int)) ∧ InsAt bow t0 ∧ in8 bow t0 ∧ (intAt bow t0 = (1 : Int) ∧ (0 : Int) < intAt bow t0 ∧ intAt bow t0 ≤ (6 : Int)) ∧ True) ∧ ((0 : Nat) + bk * 5 ≤ Array.size bow ∧ (t1 * 6 ≤ (140737488355328 : Nat) ∧ (0 : Nat) + bk ≤ (140737488355328 : Nat)) ∧ True) ∧ t4 ∧ t4 ∧ (decide (intAt t3 t5 < (8 : Int)) = true → (((0 : Int) ≤ intAt t3 t5 ∧ intAt t3 t5 < (8 : Int)) ∧ True) ∧ (((2 : Nat) ≤ (2 : Nat) + Int.toNat (intAt t3 t5) * 1 ∧ (2 : Nat) + Int.toNat (intAt t3 t5) * 1 < (10 : Nat)) ∧ True) ∧ Qsy t6 k nx g0 g1 g2 g3 g4 g5 g6 g7 row tk ts t1 t7 (selI t8 (2 : Nat) t9 h0) (selI t8 (3 : Nat) t9 h1) (selI t8 (4 : Nat) t9 h2) (selI t8 (5 : Nat) t9 h3) (selI t8 (6 : Nat) t9 h4) (selI t8 (7 : Nat) t9 h5) (selI t8 (8 : Nat) t9 h6) (selI t8 (9 : Nat) t9 h7) t3 ∧ CallKind.normal = CallKind.normal ∧ TodoOk t10 sy_d0 sy_d0 ∧ off = off ∧ num = num ∧ tk = tk ∧ ari BinOp.add IntKind.i64 i (1 : Int) = ari BinOp.add IntKind.i64 i (1 : Int) ∧ ty = ty ∧ cs = cs ∧ (28 : TypeId) = (28 : TypeId) ∧ k = k ∧ nx = nx ∧ g0 = g0 ∧ g1 = g1 ∧ g2 = g2 ∧ g3 = g3 ∧ g4 = g4 ∧ g5 = g5 ∧ g6 = g6 ∧ g7 = g7 ∧ (52 : TypeId) = (52 : TypeId) ∧ ts = ts ∧ (52 : TypeId) = (52 : Nat) ∧ Array.extract bow (0 : Nat) t2 = Array.extract bow (0 : Nat) t2 ∧ (52 : TypeId) = (52 : TypeId) ∧ row = row ∧ (28 : TypeId) = (28 : TypeId) ∧ (0 : Nat) + bk = (0 : Nat) + bk ∧ ari BinOp.add IntKind.i64 ny (1 : Int) = ari BinOp.add IntKind.i64 ny (1 : Int) ∧ selI t8 (2 : Nat) t9 h0 = selI t8 (2 : Nat) t9 h0 ∧ selI t8 (3 : Nat) t9 h1 = selI t8 (3 : Nat) t9 h1 ∧ selI t8 (4 : Nat) t9 h2 = selI t8 (4 : Nat) t9 h2 ∧ selI t8 (5 : Nat) t9 h3 = selI t8 (5 : Nat) t9 h3 ∧ selI t8 (6 : Nat) t9 h4 = selI t8 (6 : Nat) t9 h4 ∧ selI t8 (7 : Nat) t9 h5 = selI t8 (7 : Nat) t9 h5 ∧ selI t8 (8 : Nat) t9 h6 = selI t8 (8 : Nat) t9 h6 ∧ selI t8 (9 : Nat) t9 h7 = selI t8 (9 : Nat) t9 h7 ∧ True) ∧ (decide (intAt t3 t5 < (8 : Int)) = false → Qsy t6 k nx g0 g1 g2 g3 g4 g5 g6 g7 row tk ts t1 t7 h0 h1 h2 h3 h4 h5 h6 h7 t3 ∧ CallKind.normal = CallKind.normal ∧ TodoOk t10 sy_d0 sy_d0 ∧ off = off ∧ num = num ∧ tk = tk ∧ ari BinOp.add IntKind.i64 i (1 : Int) = ari BinOp.add IntKind.i64 i (1 : Int) ∧ ty = ty ∧ cs = cs ∧ (28 : TypeId) = (28 : TypeId) ∧ k = k ∧ nx = nx ∧ g0 = g0 ∧ g1 = g1 ∧ g2 = g2 ∧ g3 = g3 ∧ g4 = g4 ∧ g5 = g5 ∧ g6 = g6 ∧ g7 = g7 ∧ (52 : TypeId) = (52 : TypeId) ∧ ts = ts ∧ (52 : TypeId) = (52 : Nat) ∧ Array.extract bow (0 : Nat) t2 = Array.extract bow (0 : Nat) t2 ∧ (52 : TypeId) = (52 : TypeId) ∧ row = row ∧ (28 : TypeId) = (28 : TypeId) ∧ (0 : Nat) + bk = (0 : Nat) + bk ∧ ari BinOp.add IntKind.i64 ny (1 : Int) = ari BinOp.add IntKind.i64 ny (1 : Int) ∧ h0 = h0 ∧ h1 = h1 ∧ h2 = h2 ∧ h3 = h3 ∧ h4 = h4 ∧ h5 = h5 ∧ h6 = h6 ∧ h7 = h7 ∧ True))) := by kernel_rfl
theorem zy4_vc : (zy_t 4 off num cs ty i k nx g0 g1 g2 g3 g4 g5 g6 g7 row tk ts bk ny h0 h1 h2 h3 h4 h5 h6 h7 bow).vc (boolR true) (zy_x 4 off num cs ty i k nx g0 g1 g2 g3 g4 g5 g6 g7 row tk ts bk ny h0 h1 h2 h3 h4 h5 h6 h7 bow Qsy) =
    (let t0 := (at5 (0 : Nat) ny); let t1 := ((0 : Nat) + bk); let t2 := ((0 : Nat) + bk * 5); let t3 := (Array.extract bow (0 : Nat) t2); let t4 := (((0 : Int) ≤ ny ∧ ny < (↑t1 : Int)) ∧ InsAt t3 t0 ∧ in8 t3 t0 ∧ (intAt t3 t0 = (2 : Int) ∧ (0 : Int) < intAt t3 t0 ∧ intAt t3 t0 ≤ (6 : Int)) ∧ True); let t5 := (at5 (0 : Nat) ny + 2); let t6 := (at5 (0 : Nat) ny + 3); let t7 := (at5 (0 : Nat) ny + 1); let t8 := (ari BinOp.add IntKind.i64 i (1 : Int)); let t9 := (ari BinOp.add IntKind.i64 ny (1 : Int)); let t10 := ((2 : Nat) + Int.toNat (intAt t3 t7) * 1); let t11 := (Rg.mk h0 h1 h2 h3 h4 h5 h6 h7); let t12 := (ari BinOp.add IntKind.u64 (Rg.at t11 (Int.toNat (intAt t3 t5))) (Rg.at t11 (Int.toNat (intAt t3 t6)))); let t13 := (ren 1 [(1, 1), (2, 2), (3, 3), (4, 4), (5, 14)]); ((((0 : Int) ≤ ny ∧ ny < (↑bk : Int)) ∧ InsAt bow t0 ∧ in8 bow t0 ∧ (intAt bow t0 = (2 : Int) ∧ (0 : Int) < intAt bow t0 ∧ intAt bow t0 ≤ (6 : Int)) ∧ True) ∧ ((0 : Nat) + bk * 5 ≤ Array.size bow ∧ (t1 * 6 ≤ (140737488355328 : Nat) ∧ (0 : Nat) + bk ≤ (140737488355328 : Nat)) ∧ True) ∧ t4 ∧ t4 ∧ (((0 : Int) ≤ intAt t3 t5 ∧ intAt t3 t5 < (8 : Int)) ∧ True) ∧ (((0 : Int) ≤ intAt t3 t6 ∧ intAt t3 t6 < (8 : Int)) ∧ True) ∧ (decide (intAt t3 t7 < (8 : Int)) = true → (((0 : Int) ≤ intAt t3 t7 ∧ intAt t3 t7 < (8 : Int)) ∧ True) ∧ (((2 : Nat) ≤ (2 : Nat) + Int.toNat (intAt t3 t7) * 1 ∧ (2 : Nat) + Int.toNat (intAt t3 t7) * 1 < (10 : Nat)) ∧ True) ∧ Qsy t8 k nx g0 g1 g2 g3 g4 g5 g6 g7 row tk ts t1 t9 (selI t10 (2 : Nat) t12 h0) (selI t10 (3 : Nat) t12 h1) (selI t10 (4 : Nat) t12 h2) (selI t10 (5 : Nat) t12 h3) (selI t10 (6 : Nat) t12 h4) (selI t10 (7 : Nat) t12 h5) (selI t10 (8 : Nat) t12 h6) (selI t10 (9 : Nat) t12 h7) t3 ∧ CallKind.normal = CallKind.normal ∧ TodoOk t13 sy_d0 sy_d0 ∧ off = off ∧ num = num ∧ tk = tk ∧ ari BinOp.add IntKind.i64 i (1 : Int) = ari BinOp.add IntKind.i64 i (1 : Int) ∧ ty = ty ∧ cs = cs ∧ (28 : TypeId) = (28 : TypeId) ∧ k = k ∧ nx = nx ∧ g0 = g0 ∧ g1 = g1 ∧ g2 = g2 ∧ g3 = g3 ∧ g4 = g4 ∧ g5 = g5 ∧ g6 = g6 ∧ g7 = g7 ∧ (52 : TypeId) = (52 : TypeId) ∧ ts = ts ∧ (52 : TypeId) = (52 : Nat) ∧ Array.extract bow (0 : Nat) t2 = Array.extract bow (0 : Nat) t2 ∧ (52 : TypeId) = (52 : TypeId) ∧ row = row ∧ (28 : TypeId) = (28 : TypeId) ∧ (0 : Nat) + bk = (0 : Nat) + bk ∧ ari BinOp.add IntKind.i64 ny (1 : Int) = ari BinOp.add IntKind.i64 ny (1 : Int) ∧ selI t10 (2 : Nat) t12 h0 = selI t10 (2 : Nat) t12 h0 ∧ selI t10 (3 : Nat) t12 h1 = selI t10 (3 : Nat) t12 h1 ∧ selI t10 (4 : Nat) t12 h2 = selI t10 (4 : Nat) t12 h2 ∧ selI t10 (5 : Nat) t12 h3 = selI t10 (5 : Nat) t12 h3 ∧ selI t10 (6 : Nat) t12 h4 = selI t10 (6 : Nat) t12 h4 ∧ selI t10 (7 : Nat) t12 h5 = selI t10 (7 : Nat) t12 h5 ∧ selI t10 (8 : Nat) t12 h6 = selI t10 (8 : Nat) t12 h6 ∧ selI t10 (9 : Nat) t12 h7 = selI t10 (9 : Nat) t12 h7 ∧ True) ∧ (decide (intAt t3 t7 < (8 : Int)) = false → Qsy t8 k nx g0 g1 g2 g3 g4 g5 g6 g7 row tk ts t1 t9 h0 h1 h2 h3 h4 h5 h6 h7 t3 ∧ CallKind.normal = CallKind.normal ∧ TodoOk t13 sy_d0 sy_d0 ∧ off = off ∧ num = num ∧ tk = tk ∧ ari BinOp.add IntKind.i64 i (1 : Int) = ari BinOp.add IntKind.i64 i (1 : Int) ∧ ty = ty ∧ cs = cs ∧ (28 : TypeId) = (28 : TypeId) ∧ k = k ∧ nx = nx ∧ g0 = g0 ∧ g1 = g1 ∧ g2 = g2 ∧ g3 = g3 ∧ g4 = g4 ∧ g5 = g5 ∧ g6 = g6 ∧ g7 = g7 ∧ (52 : TypeId) = (52 : TypeId) ∧ ts = ts ∧ (52 : TypeId) = (52 : Nat) ∧ Array.extract bow (0 : Nat) t2 = Array.extract bow (0 : Nat) t2 ∧ (52 : TypeId) = (52 : TypeId) ∧ row = row ∧ (28 : TypeId) = (28 : TypeId) ∧ (0 : Nat) + bk = (0 : Nat) + bk ∧ ari BinOp.add IntKind.i64 ny (1 : Int) = ari BinOp.add IntKind.i64 ny (1 : Int) ∧ h0 = h0 ∧ h1 = h1 ∧ h2 = h2 ∧ h3 = h3 ∧ h4 = h4 ∧ h5 = h5 ∧ h6 = h6 ∧ h7 = h7 ∧ True))) := by kernel_rfl
theorem zy5_vc : (zy_t 5 off num cs ty i k nx g0 g1 g2 g3 g4 g5 g6 g7 row tk ts bk ny h0 h1 h2 h3 h4 h5 h6 h7 bow).vc (boolR true) (zy_x 5 off num cs ty i k nx g0 g1 g2 g3 g4 g5 g6 g7 row tk ts bk ny h0 h1 h2 h3 h4 h5 h6 h7 bow Qsy) =
    (let t0 := (at5 (0 : Nat) ny); let t1 := ((0 : Nat) + bk); let t2 := ((0 : Nat) + bk * 5); let t3 := (Array.extract bow (0 : Nat) t2); let t4 := (((0 : Int) ≤ ny ∧ ny < (↑t1 : Int)) ∧ InsAt t3 t0 ∧ in8 t3 t0 ∧ (intAt t3 t0 = (3 : Int) ∧ (0 : Int) < intAt t3 t0 ∧ intAt t3 t0 ≤ (6 : Int)) ∧ True); let t5 := (at5 (0 : Nat) ny + 2); let t6 := (at5 (0 : Nat) ny + 3); let t7 := (at5 (0 : Nat) ny + 1); let t8 := (ari BinOp.add IntKind.i64 i (1 : Int)); let t9 := (ari BinOp.add IntKind.i64 ny (1 : Int)); let t10 := ((2 : Nat) + Int.toNat (intAt t3 t7) * 1); let t11 := (Rg.mk h0 h1 h2 h3 h4 h5 h6 h7); let t12 := (ari BinOp.sub IntKind.u64 (Rg.at t11 (Int.toNat (intAt t3 t5))) (Rg.at t11 (Int.toNat (intAt t3 t6)))); let t13 := (ren 1 [(1, 1), (2, 2), (3, 3), (4, 4), (5, 14)]); ((((0 : Int) ≤ ny ∧ ny < (↑bk : Int)) ∧ InsAt bow t0 ∧ in8 bow t0 ∧ (intAt bow t0 = (3 : Int) ∧ (0 : Int) < intAt bow t0 ∧ intAt bow t0 ≤ (6 : Int)) ∧ True) ∧ ((0 : Nat) + bk * 5 ≤ Array.size bow ∧ (t1 * 6 ≤ (140737488355328 : Nat) ∧ (0 : Nat) + bk ≤ (140737488355328 : Nat)) ∧ True) ∧ t4 ∧ t4 ∧ (((0 : Int) ≤ intAt t3 t5 ∧ intAt t3 t5 < (8 : Int)) ∧ True) ∧ (((0 : Int) ≤ intAt t3 t6 ∧ intAt t3 t6 < (8 : Int)) ∧ True) ∧ (decide (intAt t3 t7 < (8 : Int)) = true → (((0 : Int) ≤ intAt t3 t7 ∧ intAt t3 t7 < (8 : Int)) ∧ True) ∧ (((2 : Nat) ≤ (2 : Nat) + Int.toNat (intAt t3 t7) * 1 ∧ (2 : Nat) + Int.toNat (intAt t3 t7) * 1 < (10 : Nat)) ∧ True) ∧ Qsy t8 k nx g0 g1 g2 g3 g4 g5 g6 g7 row tk ts t1 t9 (selI t10 (2 : Nat) t12 h0) (selI t10 (3 : Nat) t12 h1) (selI t10 (4 : Nat) t12 h2) (selI t10 (5 : Nat) t12 h3) (selI t10 (6 : Nat) t12 h4) (selI t10 (7 : Nat) t12 h5) (selI t10 (8 : Nat) t12 h6) (selI t10 (9 : Nat) t12 h7) t3 ∧ CallKind.normal = CallKind.normal ∧ TodoOk t13 sy_d0 sy_d0 ∧ off = off ∧ num = num ∧ tk = tk ∧ ari BinOp.add IntKind.i64 i (1 : Int) = ari BinOp.add IntKind.i64 i (1 : Int) ∧ ty = ty ∧ cs = cs ∧ (28 : TypeId) = (28 : TypeId) ∧ k = k ∧ nx = nx ∧ g0 = g0 ∧ g1 = g1 ∧ g2 = g2 ∧ g3 = g3 ∧ g4 = g4 ∧ g5 = g5 ∧ g6 = g6 ∧ g7 = g7 ∧ (52 : TypeId) = (52 : TypeId) ∧ ts = ts ∧ (52 : TypeId) = (52 : Nat) ∧ Array.extract bow (0 : Nat) t2 = Array.extract bow (0 : Nat) t2 ∧ (52 : TypeId) = (52 : TypeId) ∧ row = row ∧ (28 : TypeId) = (28 : TypeId) ∧ (0 : Nat) + bk = (0 : Nat) + bk ∧ ari BinOp.add IntKind.i64 ny (1 : Int) = ari BinOp.add IntKind.i64 ny (1 : Int) ∧ selI t10 (2 : Nat) t12 h0 = selI t10 (2 : Nat) t12 h0 ∧ selI t10 (3 : Nat) t12 h1 = selI t10 (3 : Nat) t12 h1 ∧ selI t10 (4 : Nat) t12 h2 = selI t10 (4 : Nat) t12 h2 ∧ selI t10 (5 : Nat) t12 h3 = selI t10 (5 : Nat) t12 h3 ∧ selI t10 (6 : Nat) t12 h4 = selI t10 (6 : Nat) t12 h4 ∧ selI t10 (7 : Nat) t12 h5 = selI t10 (7 : Nat) t12 h5 ∧ selI t10 (8 : Nat) t12 h6 = selI t10 (8 : Nat) t12 h6 ∧ selI t10 (9 : Nat) t12 h7 = selI t10 (9 : Nat) t12 h7 ∧ True) ∧ (decide (intAt t3 t7 < (8 : Int)) = false → Qsy t8 k nx g0 g1 g2 g3 g4 g5 g6 g7 row tk ts t1 t9 h0 h1 h2 h3 h4 h5 h6 h7 t3 ∧ CallKind.normal = CallKind.normal ∧ TodoOk t13 sy_d0 sy_d0 ∧ off = off ∧ num = num ∧ tk = tk ∧ ari BinOp.add IntKind.i64 i (1 : Int) = ari BinOp.add IntKind.i64 i (1 : Int) ∧ ty = ty ∧ cs = cs ∧ (28 : TypeId) = (28 : TypeId) ∧ k = k ∧ nx = nx ∧ g0 = g0 ∧ g1 = g1 ∧ g2 = g2 ∧ g3 = g3 ∧ g4 = g4 ∧ g5 = g5 ∧ g6 = g6 ∧ g7 = g7 ∧ (52 : TypeId) = (52 : TypeId) ∧ ts = ts ∧ (52 : TypeId) = (52 : Nat) ∧ Array.extract bow (0 : Nat) t2 = Array.extract bow (0 : Nat) t2 ∧ (52 : TypeId) = (52 : TypeId) ∧ row = row ∧ (28 : TypeId) = (28 : TypeId) ∧ (0 : Nat) + bk = (0 : Nat) + bk ∧ ari BinOp.add IntKind.i64 ny (1 : Int) = ari BinOp.add IntKind.i64 ny (1 : Int) ∧ h0 = h0 ∧ h1 = h1 ∧ h2 = h2 ∧ h3 = h3 ∧ h4 = h4 ∧ h5 = h5 ∧ h6 = h6 ∧ h7 = h7 ∧ True))) := by kernel_rfl
theorem zy6_vc : (zy_t 6 off num cs ty i k nx g0 g1 g2 g3 g4 g5 g6 g7 row tk ts bk ny h0 h1 h2 h3 h4 h5 h6 h7 bow).vc (boolR true) (zy_x 6 off num cs ty i k nx g0 g1 g2 g3 g4 g5 g6 g7 row tk ts bk ny h0 h1 h2 h3 h4 h5 h6 h7 bow Qsy) =
    (let t0 := (at5 (0 : Nat) ny); let t1 := ((0 : Nat) + bk); let t2 := ((0 : Nat) + bk * 5); let t3 := (Array.extract bow (0 : Nat) t2); let t4 := (((0 : Int) ≤ ny ∧ ny < (↑t1 : Int)) ∧ InsAt t3 t0 ∧ in8 t3 t0 ∧ (intAt t3 t0 = (4 : Int) ∧ (0 : Int) < intAt t3 t0 ∧ intAt t3 t0 ≤ (6 : Int)) ∧ True); let t5 := (at5 (0 : Nat) ny + 2); let t6 := (at5 (0 : Nat) ny + 4); let t7 := (at5 (0 : Nat) ny + 1); let t8 := (ari BinOp.add IntKind.i64 i (1 : Int)); let t9 := (ari BinOp.add IntKind.i64 ny (1 : Int)); let t10 := ((2 : Nat) + Int.toNat (intAt t3 t7) * 1); let t11 := (ari BinOp.shl IntKind.u64 (Rg.at (Rg.mk h0 h1 h2 h3 h4 h5 h6 h7) (Int.toNat (intAt t3 t5))) (intAt t3 t6)); let t12 := (ren 1 [(1, 1), (2, 2), (3, 3), (4, 4), (5, 14)]); ((((0 : Int) ≤ ny ∧ ny < (↑bk : Int)) ∧ InsAt bow t0 ∧ in8 bow t0 ∧ (intAt bow t0 = (4 : Int) ∧ (0 : Int) < intAt bow t0 ∧ intAt bow t0 ≤ (6 : Int)) ∧ True) ∧ ((0 : Nat) + bk * 5 ≤ Array.size bow ∧ (t1 * 6 ≤ (140737488355328 : Nat) ∧ (0 : Nat) + bk ≤ (140737488355328 : Nat)) ∧ True) ∧ t4 ∧ t4 ∧ (((0 : Int) ≤ intAt t3 t5 ∧ intAt t3 t5 < (8 : Int)) ∧ True) ∧ ((0 : Int) ≤ intAt t3 t6 ∧ True) ∧ (decide (intAt t3 t7 < (8 : Int)) = true → (((0 : Int) ≤ intAt t3 t7 ∧ intAt t3 t7 < (8 : Int)) ∧ True) ∧ (((2 : Nat) ≤ (2 : Nat) + Int.toNat (intAt t3 t7) * 1 ∧ (2 : Nat) + Int.toNat (intAt t3 t7) * 1 < (10 : Nat)) ∧ True) ∧ Qsy t8 k nx g0 g1 g2 g3 g4 g5 g6 g7 row tk ts t1 t9 (selI t10 (2 : Nat) t11 h0) (selI t10 (3 : Nat) t11 h1) (selI t10 (4 : Nat) t11 h2) (selI t10 (5 : Nat) t11 h3) (selI t10 (6 : Nat) t11 h4) (selI t10 (7 : Nat) t11 h5) (selI t10 (8 : Nat) t11 h6) (selI t10 (9 : Nat) t11 h7) t3 ∧ CallKind.normal = CallKind.normal ∧ TodoOk t12 sy_d0 sy_d0 ∧ off = off ∧ num = num ∧ tk = tk ∧ ari BinOp.add IntKind.i64 i (1 : Int) = ari BinOp.add IntKind.i64 i (1 : Int) ∧ ty = ty ∧ cs = cs ∧ (28 : TypeId) = (28 : TypeId) ∧ k = k ∧ nx = nx ∧ g0 = g0 ∧ g1 = g1 ∧ g2 = g2 ∧ g3 = g3 ∧ g4 = g4 ∧ g5 = g5 ∧ g6 = g6 ∧ g7 = g7 ∧ (52 : TypeId) = (52 : TypeId) ∧ ts = ts ∧ (52 : TypeId) = (52 : Nat) ∧ Array.extract bow (0 : Nat) t2 = Array.extract bow (0 : Nat) t2 ∧ (52 : TypeId) = (52 : TypeId) ∧ row = row ∧ (28 : TypeId) = (28 : TypeId) ∧ (0 : Nat) + bk = (0 : Nat) + bk ∧ ari BinOp.add IntKind.i64 ny (1 : Int) = ari BinOp.add IntKind.i64 ny (1 : Int) ∧ selI t10 (2 : Nat) t11 h0 = selI t10 (2 : Nat) t11 h0 ∧ selI t10 (3 : Nat) t11 h1 = selI t10 (3 : Nat) t11 h1 ∧ selI t10 (4 : Nat) t11 h2 = selI t10 (4 : Nat) t11 h2 ∧ selI t10 (5 : Nat) t11 h3 = selI t10 (5 : Nat) t11 h3 ∧ selI t10 (6 : Nat) t11 h4 = selI t10 (6 : Nat) t11 h4 ∧ selI t10 (7 : Nat) t11 h5 = selI t10 (7 : Nat) t11 h5 ∧ selI t10 (8 : Nat) t11 h6 = selI t10 (8 : Nat) t11 h6 ∧ selI t10 (9 : Nat) t11 h7 = selI t10 (9 : Nat) t11 h7 ∧ True) ∧ (decide (intAt t3 t7 < (8 : Int)) = false → Qsy t8 k nx g0 g1 g2 g3 g4 g5 g6 g7 row tk ts t1 t9 h0 h1 h2 h3 h4 h5 h6 h7 t3 ∧ CallKind.normal = CallKind.normal ∧ TodoOk t12 sy_d0 sy_d0 ∧ off = off ∧ num = num ∧ tk = tk ∧ ari BinOp.add IntKind.i64 i (1 : Int) = ari BinOp.add IntKind.i64 i (1 : Int) ∧ ty = ty ∧ cs = cs ∧ (28 : TypeId) = (28 : TypeId) ∧ k = k ∧ nx = nx ∧ g0 = g0 ∧ g1 = g1 ∧ g2 = g2 ∧ g3 = g3 ∧ g4 = g4 ∧ g5 = g5 ∧ g6 = g6 ∧ g7 = g7 ∧ (52 : TypeId) = (52 : TypeId) ∧ ts = ts ∧ (52 : TypeId) = (52 : Nat) ∧ Array.extract bow (0 : Nat) t2 = Array.extract bow (0 : Nat) t2 ∧ (52 : TypeId) = (52 : TypeId) ∧ row = row ∧ (28 : TypeId) = (28 : TypeId) ∧ (0 : Nat) + bk = (0 : Nat) + bk ∧ ari BinOp.add IntKind.i64 ny (1 : Int) = ari BinOp.add IntKind.i64 ny (1 : Int) ∧ h0 = h0 ∧ h1 = h1 ∧ h2 = h2 ∧ h3 = h3 ∧ h4 = h4 ∧ h5 = h5 ∧ h6 = h6 ∧ h7 = h7 ∧ True))) := by kernel_rfl
theorem zy7_vc : (zy_t 7 off num cs ty i k nx g0 g1 g2 g3 g4 g5 g6 g7 row tk ts bk ny h0 h1 h2 h3 h4 h5 h6 h7 bow).vc (boolR true) (zy_x 7 off num cs ty i k nx g0 g1 g2 g3 g4 g5 g6 g7 row tk ts bk ny h0 h1 h2 h3 h4 h5 h6 h7 bow Qsy) =
    (let t0 := (at5 (0 : Nat) ny); let t1 := ((0 : Nat) + bk); let t2 := ((0 : Nat) + bk * 5); let t3 := (Array.extract bow (0 : Nat) t2); let t4 := (((0 : Int) ≤ ny ∧ ny < (↑t1 : Int)) ∧ InsAt t3 t0 ∧ in8 t3 t0 ∧ (intAt t3 t0 = (5 : Int) ∧ (0 : Int) < intAt t3 t0 ∧ intAt t3 t0 ≤ (6 : Int)) ∧ True); let t5 := (intAt t3 (at5 (0 : Nat) ny + 4)); ((((0 : Int) ≤ ny ∧ ny < (↑bk : Int)) ∧ InsAt bow t0 ∧ in8 bow t0 ∧ (intAt bow t0 = (5 : Int) ∧ (0 : Int) < intAt bow t0 ∧ intAt bow t0 ≤ (6 : Int)) ∧ True) ∧ ((0 : Nat) + bk * 5 ≤ Array.size bow ∧ (t1 * 6 ≤ (140737488355328 : Nat) ∧ (0 : Nat) + bk ≤ (140737488355328 : Nat)) ∧ True) ∧ t4 ∧ t4 ∧ Qsy (ari BinOp.add IntKind.i64 i (1 : Int)) k nx g0 g1 g2 g3 g4 g5 g6 g7 row tk ts t1 (IntKind.wrap IntKind.i64 t5) h0 h1 h2 h3 h4 h5 h6 h7 t3 ∧ CallKind.normal = CallKind.normal ∧ TodoOk (ren 1 [(1, 1), (2, 2), (3, 3), (4, 4), (5, 14)]) sy_d0 sy_d0 ∧ off = off ∧ num = num ∧ tk = tk ∧ ari BinOp.add IntKind.i64 i (1 : Int) = ari BinOp.add IntKind.i64 i (1 : Int) ∧ ty = ty ∧ cs = cs ∧ (28 : TypeId) = (28 : TypeId) ∧ k = k ∧ nx = nx ∧ g0 = g0 ∧ g1 = g1 ∧ g2 = g2 ∧ g3 = g3 ∧ g4 = g4 ∧ g5 = g5 ∧ g6 = g6 ∧ g7 = g7 ∧ (52 : TypeId) = (52 : TypeId) ∧ ts = ts ∧ (52 : TypeId) = (52 : Nat) ∧ Array.extract bow (0 : Nat) t2 = Array.extract bow (0 : Nat) t2 ∧ (52 : TypeId) = (52 : TypeId) ∧ row = row ∧ (28 : TypeId) = (28 : TypeId) ∧ (0 : Nat) + bk = (0 : Nat) + bk ∧ IntKind.wrap IntKind.i64 t5 = IntKind.wrap IntKind.i64 t5 ∧ h0 = h0 ∧ h1 = h1 ∧ h2 = h2 ∧ h3 = h3 ∧ h4 = h4 ∧ h5 = h5 ∧ h6 = h6 ∧ h7 = h7 ∧ True)) := by kernel_rfl
theorem zy8_vc : (zy_t 8 off num cs ty i k nx g0 g1 g2 g3 g4 g5 g6 g7 row tk ts bk ny h0 h1 h2 h3 h4 h5 h6 h7 bow).vc (boolR true) (zy_x 8 off num cs ty i k nx g0 g1 g2 g3 g4 g5 g6 g7 row tk ts bk ny h0 h1 h2 h3 h4 h5 h6 h7 bow Qsy) =
    (let t0 := (at5 (0 : Nat) ny); let t1 := ((0 : Nat) + bk); let t2 := ((0 : Nat) + bk * 5); let t3 := (Array.extract bow (0 : Nat) t2); let t4 := (((0 : Int) ≤ ny ∧ ny < (↑t1 : Int)) ∧ InsAt t3 t0 ∧ in8 t3 t0 ∧ (intAt t3 t0 = (6 : Int) ∧ (0 : Int) < intAt t3 t0 ∧ intAt t3 t0 ≤ (6 : Int)) ∧ True); let t5 := (at5 (0 : Nat) ny + 1); let t6 := (Rg.at (Rg.mk h0 h1 h2 h3 h4 h5 h6 h7) (Int.toNat (intAt t3 t5)) != (0 : Int)); let t7 := (ari BinOp.add IntKind.i64 i (1 : Int)); let t8 := (intAt t3 (at5 (0 : Nat) ny + 4)); let t9 := (ren 1 [(1, 1), (2, 2), (3, 3), (4, 4), (5, 14)]); ((((0 : Int) ≤ ny ∧ ny < (↑bk : Int)) ∧ InsAt bow t0 ∧ in8 bow t0 ∧ (intAt bow t0 = (6 : Int) ∧ (0 : Int) < intAt bow t0 ∧ intAt bow t0 ≤ (6 : Int)) ∧ True) ∧ ((0 : Nat) + bk * 5 ≤ Array.size bow ∧ (t1 * 6 ≤ (140737488355328 : Nat) ∧ (0 : Nat) + bk ≤ (140737488355328 : Nat)) ∧ True) ∧ t4 ∧ t4 ∧ (((0 : Int) ≤ intAt t3 t5 ∧ intAt t3 t5 < (8 : Int)) ∧ True) ∧ (t6 = true → Qsy t7 k nx g0 g1 g2 g3 g4 g5 g6 g7 row tk ts t1 (IntKind.wrap IntKind.i64 t8) h0 h1 h2 h3 h4 h5 h6 h7 t3 ∧ CallKind.normal = CallKind.normal ∧ TodoOk t9 sy_d0 sy_d0 ∧ off = off ∧ num = num ∧ tk = tk ∧ ari BinOp.add IntKind.i64 i (1 : Int) = ari BinOp.add IntKind.i64 i (1 : Int) ∧ ty = ty ∧ cs = cs ∧ (28 : TypeId) = (28 : TypeId) ∧ k = k ∧ nx = nx ∧ g0 = g0 ∧ g1 = g1 ∧ g2 = g2 ∧ g3 = g3 ∧ g4 = g4 ∧ g5 = g5 ∧ g6 = g6 ∧ g7 = g7 ∧ (52 : TypeId) = (52 : TypeId) ∧ ts = ts ∧ (52 : TypeId) = (52 : Nat) ∧ Array.extract bow (0 : Nat) t2 = Array.extract bow (0 : Nat) t2 ∧ (52 : TypeId) = (52 : TypeId) ∧ row = row ∧ (28 : TypeId) = (28 : TypeId) ∧ (0 : Nat) + bk = (0 : Nat) + bk ∧ IntKind.wrap IntKind.i64 t8 = IntKind.wrap IntKind.i64 t8 ∧ h0 = h0 ∧ h1 = h1 ∧ h2 = h2 ∧ h3 = h3 ∧ h4 = h4 ∧ h5 = h5 ∧ h6 = h6 ∧ h7 = h7 ∧ True) ∧ (t6 = false → Qsy t7 k nx g0 g1 g2 g3 g4 g5 g6 g7 row tk ts t1 (ari BinOp.add IntKind.i64 ny (1 : Int)) h0 h1 h2 h3 h4 h5 h6 h7 t3 ∧ CallKind.normal = CallKind.normal ∧ TodoOk t9 sy_d0 sy_d0 ∧ off = off ∧ num = num ∧ tk = tk ∧ ari BinOp.add IntKind.i64 i (1 : Int) = ari BinOp.add IntKind.i64 i (1 : Int) ∧ ty = ty ∧ cs = cs ∧ (28 : TypeId) = (28 : TypeId) ∧ k = k ∧ nx = nx ∧ g0 = g0 ∧ g1 = g1 ∧ g2 = g2 ∧ g3 = g3 ∧ g4 = g4 ∧ g5 = g5 ∧ g6 = g6 ∧ g7 = g7 ∧ (52 : TypeId) = (52 : TypeId) ∧ ts = ts ∧ (52 : TypeId) = (52 : Nat) ∧ Array.extract bow (0 : Nat) t2 = Array.extract bow (0 : Nat) t2 ∧ (52 : TypeId) = (52 : TypeId) ∧ row = row ∧ (28 : TypeId) = (28 : TypeId) ∧ (0 : Nat) + bk = (0 : Nat) + bk ∧ ari BinOp.add IntKind.i64 ny (1 : Int) = ari BinOp.add IntKind.i64 ny (1 : Int) ∧ h0 = h0 ∧ h1 = h1 ∧ h2 = h2 ∧ h3 = h3 ∧ h4 = h4 ∧ h5 = h5 ∧ h6 = h6 ∧ h7 = h7 ∧ True))) := by kernel_rfl
end
end Go.Proofs.Ytpohnmafnpnmeaa
/- Of flow: FlowSame: what both tasks' programs hold at one place. No condition. -/
namespace Go.Proofs.Ytpohnmafnpnmeaa
set_option linter.unusedSectionVars false
set_option maxRecDepth 100000
section
variable {off num : Nat} {cs : Array Value} (hI : InsOk cs off num) (hM : mayV cs off num = true)
include hI hM
theorem code_a {x : Nat} (hx : x < num) : InsAt (cod cs off num) (at5 0 (x : Int)) ∧ in8 (cod cs off num) (at5 0 (x : Int)) ∧ intAt (cod cs off num) (at5 0 (x : Int)) = (ins cs off x).o ∧ intAt (cod cs off num) (at5 0 (x : Int) + 1) = (ins cs off x).a ∧ intAt (cod cs off num) (at5 0 (x : Int) + 2) = (ins cs off x).b ∧ intAt (cod cs off num) (at5 0 (x : Int) + 3) = (ins cs off x).c ∧ intAt (cod cs off num) (at5 0 (x : Int) + 4) = (ins cs off x).n ∧ (0 ≤ (ins cs off x).a ∧ (ins cs off x).a < 8) ∧ (0 ≤ (ins cs off x).b ∧ (ins cs off x).b < 8) ∧ (0 ≤ (ins cs off x).c ∧ (ins cs off x).c < 8) ∧ (0 ≤ (ins cs off x).n ∧ (ins cs off x).n ≤ 65535) := by
  obtain ⟨h1, h2, _, _, _⟩ := cod_at hI hM hx
  have h5 : at5 0 (x : Int) = 0 + x * 5 := by unfold at5; rw [Int.toNat_natCast]
  have h3 := cod_ins hI hM hx
  have e1 : intAt (cod cs off num) (at5 0 (x : Int)) = (ins cs off x).o := by rw [h5, ← h3]; rfl
  have e2 : intAt (cod cs off num) (at5 0 (x : Int) + 1) = (ins cs off x).a := by rw [h5, ← h3]; rfl
  have e3 : intAt (cod cs off num) (at5 0 (x : Int) + 2) = (ins cs off x).b := by rw [h5, ← h3]; rfl
  have e4 : intAt (cod cs off num) (at5 0 (x : Int) + 3) = (ins cs off x).c := by rw [h5, ← h3]; rfl
  have e5 : intAt (cod cs off num) (at5 0 (x : Int) + 4) = (ins cs off x).n := by rw [h5, ← h3]; rfl
  have h2' := h2
  unfold in8 at h2'
  rw [e2, e3, e4, e5] at h2'
  exact ⟨h1, h2, e1, e2, e3, e4, e5, h2'.1, h2'.2.1, h2'.2.2.1, h2'.2.2.2⟩
theorem trim_o (f : Nat → Bool) (x : Ins) : (trimI f x).o = x.o ∧ (trimI f x).a = x.a ∧ (trimI f x).b = x.b ∧ (trimI f x).c = x.c := by
  unfold trimI
  split <;> exact ⟨rfl, rfl, rfl, rfl⟩
theorem trim_n {f : Nat → Bool} {x : Ins} (h : ¬ (x.o = 5 ∨ x.o = 6)) : (trimI f x).n = x.n := by
  unfold trimI
  rw [if_neg h]
theorem trim_j {f : Nat → Bool} {x : Ins} (h : x.o = 5 ∨ x.o = 6) : (trimI f x).n = ((cnt f x.n.toNat : Nat) : Int) := by
  unfold trimI
  rw [if_pos h]
theorem code_b {x : Nat} (hx : x < num) (hf : metB cs off num x = true) : InsAt (cod (trR cs off num) 0 (cnt (metB cs off num) num)) (at5 0 ((cnt (metB cs off num) x : Nat) : Int)) ∧ in8 (cod (trR cs off num) 0 (cnt (metB cs off num) num)) (at5 0 ((cnt (metB cs off num) x : Nat) : Int)) ∧ intAt (cod (trR cs off num) 0 (cnt (metB cs off num) num)) (at5 0 ((cnt (metB cs off num) x : Nat) : Int)) = (ins cs off x).o ∧ intAt (cod (trR cs off num) 0 (cnt (metB cs off num) num)) (at5 0 ((cnt (metB cs off num) x : Nat) : Int) + 1) = (ins cs off x).a ∧ intAt (cod (trR cs off num) 0 (cnt (metB cs off num) num)) (at5 0 ((cnt (metB cs off num) x : Nat) : Int) + 2) = (ins cs off x).b ∧ intAt (cod (trR cs off num) 0 (cnt (metB cs off num) num)) (at5 0 ((cnt (metB cs off num) x : Nat) : Int) + 3) = (ins cs off x).c ∧ intAt (cod (trR cs off num) 0 (cnt (metB cs off num) num)) (at5 0 ((cnt (metB cs off num) x : Nat) : Int) + 4) = (trimI (metB cs off num) (ins cs off x)).n := by
  have hp := cnt_lt hf hx
  obtain ⟨h1, h2, e1, e2, e3, e4, e5, _⟩ := code_a (tr_ok hI hM) (tr_may hI hM) hp
  obtain ⟨t1, t2, t3, t4⟩ := trim_o hI hM (metB cs off num) (ins cs off x)
  rw [(tr_at hI hM hx hf).2] at e1 e2 e3 e4 e5
  rw [t1] at e1
  rw [t2] at e2
  rw [t3] at e3
  rw [t4] at e4
  exact ⟨h1, h2, e1, e2, e3, e4, e5⟩
theorem text_b {x : Nat} (hx : x < num) (hf : metB cs off num x = true) : IsInt .u8 (trR cs off num) (0 + cnt (metB cs off num) x * 5) ∧ intAt (trR cs off num) (0 + cnt (metB cs off num) x * 5) = (ins cs off x).o := by
  obtain ⟨h1, h2⟩ := tr_at hI hM hx hf
  have h3 : (ins (trR cs off num) 0 (cnt (metB cs off num) x)).o = (ins cs off x).o := by rw [h2, (trim_o hI hM _ _).1]
  exact ⟨h1.1, h3⟩
theorem facs {x : Nat} (d2 : x < num) (hf : metB cs off num x = true) : num ≤ 64 ∧ (cnt (metB cs off num) num) ≤ num ∧ cnt (metB cs off num) x ≤ x ∧ decide ((x : Int) ≥ (num : Int)) = false ∧ cnt (metB cs off num) x < (cnt (metB cs off num) num) ∧ decide (((cnt (metB cs off num) x : Nat) : Int) ≥ ((cnt (metB cs off num) num) : Int)) = false ∧ ((0 : Int) ≤ (x : Int) ∧ (x : Int) < (num : Int)) ∧ ((0 : Int) ≤ ((cnt (metB cs off num) x : Nat) : Int) ∧ ((cnt (metB cs off num) x : Nat) : Int) < ((cnt (metB cs off num) num) : Int)) ∧ IsInt .u8 cs (off + x * 5) ∧ intAt cs (off + x * 5) = (ins cs off x).o := by
  have n64 := (mayV_iff.1 hM).1
  have hle := cnt_le (metB cs off num) num
  have hpx := cnt_le (metB cs off num) x
  have hp : cnt (metB cs off num) x < (cnt (metB cs off num) num) := cnt_lt hf d2
  obtain ⟨⟨i1, i2, i3, i4, i5⟩, _⟩ := hI.2 x d2
  exact ⟨n64, hle, hpx, decide_eq_false (by omega), hp, decide_eq_false (by omega), by omega, by omega, i1, rfl⟩
theorem facz {x : Nat} (d2 : x < num) (hf : metB cs off num x = true) (ha : 0 ≤ (ins cs off x).a ∧ (ins cs off x).a < 8) : (cod cs off num).extract 0 (0 + num * 5) = (cod cs off num) ∧ (cod (trR cs off num) 0 (cnt (metB cs off num) num)).extract 0 (0 + (cnt (metB cs off num) num) * 5) = (cod (trR cs off num) 0 (cnt (metB cs off num) num)) ∧ 0 + num * 5 ≤ (cod cs off num).size ∧ (0 + num) * 6 ≤ 140737488355328 ∧ 0 + num ≤ 140737488355328 ∧ 0 + (cnt (metB cs off num) num) * 5 ≤ (cod (trR cs off num) 0 (cnt (metB cs off num) num)).size ∧ (0 + (cnt (metB cs off num) num)) * 6 ≤ 140737488355328 ∧ 0 + (cnt (metB cs off num) num) ≤ 140737488355328 ∧ decide ((ins cs off x).a < 8) = true ∧ (2 ≤ 2 + ((ins cs off x).a).toNat * 1 ∧ 2 + ((ins cs off x).a).toNat * 1 < 10) ∧ (x : Int) < ((0 + num : Nat) : Int) ∧ ((cnt (metB cs off num) x : Nat) : Int) < ((0 + (cnt (metB cs off num) num) : Nat) : Int) ∧ ari BinOp.add IntKind.i64 (x : Int) 1 = ((x + 1 : Nat) : Int) ∧ ari BinOp.add IntKind.i64 ((cnt (metB cs off num) x : Nat) : Int) 1 = ((cnt (metB cs off num) (x + 1) : Nat) : Int) := by
  obtain ⟨n64, hle, hpx, _, hp, _⟩ := facs hI hM d2 hf
  have cz := cod_size hI hM
  have cw := cod_size (tr_ok hI hM) (tr_may hI hM)
  exact ⟨cod_ext hI hM, cod_ext (tr_ok hI hM) (tr_may hI hM), by omega, by omega, by omega, by omega, by omega, by omega, decide_eq_true ha.2, by omega, by omega, by omega, i64_add1 (by omega), by rw [i64_add1 (by omega), cnt_yes hf]⟩
end
structure VC (t : Tree) (A : SV → SMem → Prop) (B : List SFr → SMem → Prop) : Prop where
  h : t.vc A B
theorem VC_eq (t : Tree) (A : SV → SMem → Prop) (B : List SFr → SMem → Prop) : VC t A B = t.vc A B := propext ⟨fun h => h.h, fun h => ⟨h⟩⟩
theorem vc_go {E : Env} (hE : EnvOk E) {A A' : SV → SMem → Prop} {B : List SFr → SMem → Prop} {base : Nat} {fs : List SFr} {m : SMem} {t : Tree} (e : stepT E.go (run E 1000) base fs m = t) (h : VC t A B) (hA : ∀ s m, A s m → A' s m) (hB : ∀ f m, B f m → Good E.P A' base f m) : Good E.P A' base fs m := past_vc hE 1000 (by rw [e]) h.h hA hB
end Go.Proofs.Ytpohnmafnpnmeaa
/- Of flow: FlowSame: its rounds, without results. No condition. -/
namespace Go.Proofs.Ytpohnmafnpnmeaa
set_option linter.unusedSectionVars false
set_option linter.unusedVariables false
set_option linter.unusedSimpArgs false
set_option maxRecDepth 100000
theorem Fy_ok (kd : Nat) : EnvOk (Fy kd) := EnvOk.with E0_ok _ _ (conS_ok kd)
section
variable (off num : Nat) (cs : Array Value) (ty : TypeId) (hI : InsOk cs off num) (hM : mayV cs off num = true)
include hI hM
theorem cx_y2 (Q : Int → Nat → Int → Int → Int → Int → Int → Int → Int → Int → Int → Array Value → Nat → Array Value → Nat → Int → Int → Int → Int → Int → Int → Int → Int → Int → Array Value → Prop) {i x : Nat} (hi : i < 300) (d2 : x < num) (hf : metB cs off num x = true) (hk : 16 < (ins cs off x).o ∧ (ins cs off x).o ≤ 38) (g0 g1 g2 g3 g4 g5 g6 g7 : Int) (H : Q i num (x : Nat) g0 g1 g2 g3 g4 g5 g6 g7 (cod cs off num) (cnt (metB cs off num) num) (trR cs off num) (cnt (metB cs off num) num) ((cnt (metB cs off num) x : Nat) : Int) g0 g1 g2 g3 g4 g5 g6 g7 (cod (trR cs off num) 0 (cnt (metB cs off num) num))) :
    VC (xy_t 2 off num cs ty i num (x : Nat) g0 g1 g2 g3 g4 g5 g6 g7 (cod cs off num) (cnt (metB cs off num) num) (trR cs off num) (cnt (metB cs off num) num) ((cnt (metB cs off num) x : Nat) : Int) g0 g1 g2 g3 g4 g5 g6 g7 (cod (trR cs off num) 0 (cnt (metB cs off num) num))) (boolR true) (xy_x 2 off num cs ty i num (x : Nat) g0 g1 g2 g3 g4 g5 g6 g7 (cod cs off num) (cnt (metB cs off num) num) (trR cs off num) (cnt (metB cs off num) num) ((cnt (metB cs off num) x : Nat) : Int) g0 g1 g2 g3 g4 g5 g6 g7 (cod (trR cs off num) 0 (cnt (metB cs off num) num)) Q) := by
  refine VC.mk ?_
  rw [xy2_vc]
  obtain ⟨n64, hle, hpx, e2, hp, e3, w6, w7, i1, q1⟩ := facs hI hM d2 hf
  obtain ⟨t1, q2⟩ := text_b hI hM d2 hf
  obtain ⟨c1, c2, k1, k2, k3, k4, k5, ha, hb, hc, hn⟩ := code_a hI hM d2
  obtain ⟨b1, b2, l1, l2, l3, l4, l5⟩ := code_b hI hM d2 hf
  have e1 : decide ((i : Int) < 300) = true := decide_eq_true (by omega)
  have f0 : ((ins cs off x).o == 0) = false := by rw [beq_eq_false_iff_ne]; omega
  have hkk : (16 < (ins cs off x).o ∧ (ins cs off x).o ≤ 38) = True := eq_true hk
  have tn : (trimI (metB cs off num) (ins cs off x)).n = (ins cs off x).n := trim_n hI hM (by omega)
  simp only [e1, e2, e3, w6, w7, i1, t1, q1, q2, c1, c2, k1, k2, k3, k4, k5, b1, b2, l1, l2, l3, l4, l5, ha, hb, hc, Int.toNat_natCast, f0, hkk, tn, Bool.not_true, Bool.not_false, Bool.true_eq_false, Bool.false_eq_true, false_implies, true_implies, true_and, and_true, beq_self_eq_true, Bool.and_self, eq_self, decide_true, decide_false, luy_eq, lcy_eq, lsy_eq]
  all_goals (try (repeat' first | exact H | exact True.intro | exact rfl | apply And.intro | (intro _) | omega))
theorem cx_y3 (Q : Int → Nat → Int → Int → Int → Int → Int → Int → Int → Int → Int → Array Value → Nat → Array Value → Nat → Int → Int → Int → Int → Int → Int → Int → Int → Int → Array Value → Prop) {i x : Nat} (hi : i < 300) (d2 : x < num) (hf : metB cs off num x = true) (hk : (ins cs off x).o = 1) (g0 g1 g2 g3 g4 g5 g6 g7 : Int) (H : Q i num (x : Nat) g0 g1 g2 g3 g4 g5 g6 g7 (cod cs off num) (cnt (metB cs off num) num) (trR cs off num) (cnt (metB cs off num) num) ((cnt (metB cs off num) x : Nat) : Int) g0 g1 g2 g3 g4 g5 g6 g7 (cod (trR cs off num) 0 (cnt (metB cs off num) num))) :
    VC (xy_t 3 off num cs ty i num (x : Nat) g0 g1 g2 g3 g4 g5 g6 g7 (cod cs off num) (cnt (metB cs off num) num) (trR cs off num) (cnt (metB cs off num) num) ((cnt (metB cs off num) x : Nat) : Int) g0 g1 g2 g3 g4 g5 g6 g7 (cod (trR cs off num) 0 (cnt (metB cs off num) num))) (boolR true) (xy_x 3 off num cs ty i num (x : Nat) g0 g1 g2 g3 g4 g5 g6 g7 (cod cs off num) (cnt (metB cs off num) num) (trR cs off num) (cnt (metB cs off num) num) ((cnt (metB cs off num) x : Nat) : Int) g0 g1 g2 g3 g4 g5 g6 g7 (cod (trR cs off num) 0 (cnt (metB cs off num) num)) Q) := by
  refine VC.mk ?_
  rw [xy3_vc]
  obtain ⟨n64, hle, hpx, e2, hp, e3, w6, w7, i1, q1⟩ := facs hI hM d2 hf
  obtain ⟨t1, q2⟩ := text_b hI hM d2 hf
  obtain ⟨c1, c2, k1, k2, k3, k4, k5, ha, hb, hc, hn⟩ := code_a hI hM d2
  obtain ⟨b1, b2, l1, l2, l3, l4, l5⟩ := code_b hI hM d2 hf
  have e1 : decide ((i : Int) < 300) = true := decide_eq_true (by omega)
  have f0 : ((ins cs off x).o == 0) = false := by rw [beq_eq_false_iff_ne]; omega
  have hkk : ((ins cs off x).o = 1 ∧ 0 < (ins cs off x).o ∧ (ins cs off x).o ≤ 6) = True := eq_true ⟨hk, by omega, by omega⟩
  have tn : (trimI (metB cs off num) (ins cs off x)).n = (ins cs off x).n := trim_n hI hM (by omega)
  simp only [e1, e2, e3, w6, w7, i1, t1, q1, q2, c1, c2, k1, k2, k3, k4, k5, b1, b2, l1, l2, l3, l4, l5, ha, hb, hc, Int.toNat_natCast, f0, hkk, tn, Bool.not_true, Bool.not_false, Bool.true_eq_false, Bool.false_eq_true, false_implies, true_implies, true_and, and_true, beq_self_eq_true, Bool.and_self, eq_self, decide_true, decide_false, luy_eq, lcy_eq, lsy_eq]
  all_goals (try (repeat' first | exact H | exact True.intro | exact rfl | apply And.intro | (intro _) | omega))
theorem cx_y4 (Q : Int → Nat → Int → Int → Int → Int → Int → Int → Int → Int → Int → Array Value → Nat → Array Value → Nat → Int → Int → Int → Int → Int → Int → Int → Int → Int → Array Value → Prop) {i x : Nat} (hi : i < 300) (d2 : x < num) (hf : metB cs off num x = true) (hk : (ins cs off x).o = 2) (g0 g1 g2 g3 g4 g5 g6 g7 : Int) (H : Q i num (x : Nat) g0 g1 g2 g3 g4 g5 g6 g7 (cod cs off num) (cnt (metB cs off num) num) (trR cs off num) (cnt (metB cs off num) num) ((cnt (metB cs off num) x : Nat) : Int) g0 g1 g2 g3 g4 g5 g6 g7 (cod (trR cs off num) 0 (cnt (metB cs off num) num))) :
    VC (xy_t 4 off num cs ty i num (x : Nat) g0 g1 g2 g3 g4 g5 g6 g7 (cod cs off num) (cnt (metB cs off num) num) (trR cs off num) (cnt (metB cs off num) num) ((cnt (metB cs off num) x : Nat) : Int) g0 g1 g2 g3 g4 g5 g6 g7 (cod (trR cs off num) 0 (cnt (metB cs off num) num))) (boolR true) (xy_x 4 off num cs ty i num (x : Nat) g0 g1 g2 g3 g4 g5 g6 g7 (cod cs off num) (cnt (metB cs off num) num) (trR cs off num) (cnt (metB cs off num) num) ((cnt (metB cs off num) x : Nat) : Int) g0 g1 g2 g3 g4 g5 g6 g7 (cod (trR cs off num) 0 (cnt (metB cs off num) num)) Q) := by
  refine VC.mk ?_
  rw [xy4_vc]
  obtain ⟨n64, hle, hpx, e2, hp, e3, w6, w7, i1, q1⟩ := facs hI hM d2 hf
  obtain ⟨t1, q2⟩ := text_b hI hM d2 hf
  obtain ⟨c1, c2, k1, k2, k3, k4, k5, ha, hb, hc, hn⟩ := code_a hI hM d2
  obtain ⟨b1, b2, l1, l2, l3, l4, l5⟩ := code_b hI hM d2 hf
  have e1 : decide ((i : Int) < 300) = true := decide_eq_true (by omega)
  have f0 : ((ins cs off x).o == 0) = false := by rw [beq_eq_false_iff_ne]; omega
  have hkk : ((ins cs off x).o = 2 ∧ 0 < (ins cs off x).o ∧ (ins cs off x).o ≤ 6) = True := eq_true ⟨hk, by omega, by omega⟩
  have tn : (trimI (metB cs off num) (ins cs off x)).n = (ins cs off x).n := trim_n hI hM (by omega)
  simp only [e1, e2, e3, w6, w7, i1, t1, q1, q2, c1, c2, k1, k2, k3, k4, k5, b1, b2, l1, l2, l3, l4, l5, ha, hb, hc, Int.toNat_natCast, f0, hkk, tn, Bool.not_true, Bool.not_false, Bool.true_eq_false, Bool.false_eq_true, false_implies, true_implies, true_and, and_true, beq_self_eq_true, Bool.and_self, eq_self, decide_true, decide_false, luy_eq, lcy_eq, lsy_eq]
  all_goals (try (repeat' first | exact H | exact True.intro | exact rfl | apply And.intro | (intro _) | omega))
theorem cx_y5 (Q : Int → Nat → Int → Int → Int → Int → Int → Int → Int → Int → Int → Array Value → Nat → Array Value → Nat → Int → Int → Int → Int → Int → Int → Int → Int → Int → Array Value → Prop) {i x : Nat} (hi : i < 300) (d2 : x < num) (hf : metB cs off num x = true) (hk : (ins cs off x).o = 3) (g0 g1 g2 g3 g4 g5 g6 g7 : Int) (H : Q i num (x : Nat) g0 g1 g2 g3 g4 g5 g6 g7 (cod cs off num) (cnt (metB cs off num) num) (trR cs off num) (cnt (metB cs off num) num) ((cnt (metB cs off num) x : Nat) : Int) g0 g1 g2 g3 g4 g5 g6 g7 (cod (trR cs off num) 0 (cnt (metB cs off num) num))) :
    VC (xy_t 5 off num cs ty i num (x : Nat) g0 g1 g2 g3 g4 g5 g6 g7 (cod cs off num) (cnt (metB cs off num) num) (trR cs off num) (cnt (metB cs off num) num) ((cnt (metB cs off num) x : Nat) : Int) g0 g1 g2 g3 g4 g5 g6 g7 (cod (trR cs off num) 0 (cnt (metB cs off num) num))) (boolR true) (xy_x 5 off num cs ty i num (x : Nat) g0 g1 g2 g3 g4 g5 g6 g7 (cod cs off num) (cnt (metB cs off num) num) (trR cs off num) (cnt (metB cs off num) num) ((cnt (metB cs off num) x : Nat) : Int) g0 g1 g2 g3 g4 g5 g6 g7 (cod (trR cs off num) 0 (cnt (metB cs off num) num)) Q) := by
  refine VC.mk ?_
  rw [xy5_vc]
  obtain ⟨n64, hle, hpx, e2, hp, e3, w6, w7, i1, q1⟩ := facs hI hM d2 hf
  obtain ⟨t1, q2⟩ := text_b hI hM d2 hf
  obtain ⟨c1, c2, k1, k2, k3, k4, k5, ha, hb, hc, hn⟩ := code_a hI hM d2
  obtain ⟨b1, b2, l1, l2, l3, l4, l5⟩ := code_b hI hM d2 hf
  have e1 : decide ((i : Int) < 300) = true := decide_eq_true (by omega)
  have f0 : ((ins cs off x).o == 0) = false := by rw [beq_eq_false_iff_ne]; omega
  have hkk : ((ins cs off x).o = 3 ∧ 0 < (ins cs off x).o ∧ (ins cs off x).o ≤ 6) = True := eq_true ⟨hk, by omega, by omega⟩
  have tn : (trimI (metB cs off num) (ins cs off x)).n = (ins cs off x).n := trim_n hI hM (by omega)
  simp only [e1, e2, e3, w6, w7, i1, t1, q1, q2, c1, c2, k1, k2, k3, k4, k5, b1, b2, l1, l2, l3, l4, l5, ha, hb, hc, Int.toNat_natCast, f0, hkk, tn, Bool.not_true, Bool.not_false, Bool.true_eq_false, Bool.false_eq_true, false_implies, true_implies, true_and, and_true, beq_self_eq_true, Bool.and_self, eq_self, decide_true, decide_false, luy_eq, lcy_eq, lsy_eq]
  all_goals (try (repeat' first | exact H | exact True.intro | exact rfl | apply And.intro | (intro _) | omega))
theorem cx_y6 (Q : Int → Nat → Int → Int → Int → Int → Int → Int → Int → Int → Int → Array Value → Nat → Array Value → Nat → Int → Int → Int → Int → Int → Int → Int → Int → Int → Array Value → Prop) {i x : Nat} (hi : i < 300) (d2 : x < num) (hf : metB cs off num x = true) (hk : (ins cs off x).o = 4) (g0 g1 g2 g3 g4 g5 g6 g7 : Int) (H : Q i num (x : Nat) g0 g1 g2 g3 g4 g5 g6 g7 (cod cs off num) (cnt (metB cs off num) num) (trR cs off num) (cnt (metB cs off num) num) ((cnt (metB cs off num) x : Nat) : Int) g0 g1 g2 g3 g4 g5 g6 g7 (cod (trR cs off num) 0 (cnt (metB cs off num) num))) :
    VC (xy_t 6 off num cs ty i num (x : Nat) g0 g1 g2 g3 g4 g5 g6 g7 (cod cs off num) (cnt (metB cs off num) num) (trR cs off num) (cnt (metB cs off num) num) ((cnt (metB cs off num) x : Nat) : Int) g0 g1 g2 g3 g4 g5 g6 g7 (cod (trR cs off num) 0 (cnt (metB cs off num) num))) (boolR true) (xy_x 6 off num cs ty i num (x : Nat) g0 g1 g2 g3 g4 g5 g6 g7 (cod cs off num) (cnt (metB cs off num) num) (trR cs off num) (cnt (metB cs off num) num) ((cnt (metB cs off num) x : Nat) : Int) g0 g1 g2 g3 g4 g5 g6 g7 (cod (trR cs off num) 0 (cnt (metB cs off num) num)) Q) := by
  refine VC.mk ?_
  rw [xy6_vc]
  obtain ⟨n64, hle, hpx, e2, hp, e3, w6, w7, i1, q1⟩ := facs hI hM d2 hf
  obtain ⟨t1, q2⟩ := text_b hI hM d2 hf
  obtain ⟨c1, c2, k1, k2, k3, k4, k5, ha, hb, hc, hn⟩ := code_a hI hM d2
  obtain ⟨b1, b2, l1, l2, l3, l4, l5⟩ := code_b hI hM d2 hf
  have e1 : decide ((i : Int) < 300) = true := decide_eq_true (by omega)
  have f0 : ((ins cs off x).o == 0) = false := by rw [beq_eq_false_iff_ne]; omega
  have hkk : ((ins cs off x).o = 4 ∧ 0 < (ins cs off x).o ∧ (ins cs off x).o ≤ 6) = True := eq_true ⟨hk, by omega, by omega⟩
  have tn : (trimI (metB cs off num) (ins cs off x)).n = (ins cs off x).n := trim_n hI hM (by omega)
  simp only [e1, e2, e3, w6, w7, i1, t1, q1, q2, c1, c2, k1, k2, k3, k4, k5, b1, b2, l1, l2, l3, l4, l5, ha, hb, hc, Int.toNat_natCast, f0, hkk, tn, Bool.not_true, Bool.not_false, Bool.true_eq_false, Bool.false_eq_true, false_implies, true_implies, true_and, and_true, beq_self_eq_true, Bool.and_self, eq_self, decide_true, decide_false, luy_eq, lcy_eq, lsy_eq]
  all_goals (try (repeat' first | exact H | exact True.intro | exact rfl | apply And.intro | (intro _) | omega))
theorem cx_y7 (Q : Int → Nat → Int → Int → Int → Int → Int → Int → Int → Int → Int → Array Value → Nat → Array Value → Nat → Int → Int → Int → Int → Int → Int → Int → Int → Int → Array Value → Prop) {i x : Nat} (hi : i < 300) (d2 : x < num) (hf : metB cs off num x = true) (hk : (ins cs off x).o = 5) (g0 g1 g2 g3 g4 g5 g6 g7 : Int) (H : Q i num (x : Nat) g0 g1 g2 g3 g4 g5 g6 g7 (cod cs off num) (cnt (metB cs off num) num) (trR cs off num) (cnt (metB cs off num) num) ((cnt (metB cs off num) x : Nat) : Int) g0 g1 g2 g3 g4 g5 g6 g7 (cod (trR cs off num) 0 (cnt (metB cs off num) num))) :
    VC (xy_t 7 off num cs ty i num (x : Nat) g0 g1 g2 g3 g4 g5 g6 g7 (cod cs off num) (cnt (metB cs off num) num) (trR cs off num) (cnt (metB cs off num) num) ((cnt (metB cs off num) x : Nat) : Int) g0 g1 g2 g3 g4 g5 g6 g7 (cod (trR cs off num) 0 (cnt (metB cs off num) num))) (boolR true) (xy_x 7 off num cs ty i num (x : Nat) g0 g1 g2 g3 g4 g5 g6 g7 (cod cs off num) (cnt (metB cs off num) num) (trR cs off num) (cnt (metB cs off num) num) ((cnt (metB cs off num) x : Nat) : Int) g0 g1 g2 g3 g4 g5 g6 g7 (cod (trR cs off num) 0 (cnt (metB cs off num) num)) Q) := by
  refine VC.mk ?_
  rw [xy7_vc]
  obtain ⟨n64, hle, hpx, e2, hp, e3, w6, w7, i1, q1⟩ := facs hI hM d2 hf
  obtain ⟨t1, q2⟩ := text_b hI hM d2 hf
  obtain ⟨c1, c2, k1, k2, k3, k4, k5, ha, hb, hc, hn⟩ := code_a hI hM d2
  obtain ⟨b1, b2, l1, l2, l3, l4, l5⟩ := code_b hI hM d2 hf
  have e1 : decide ((i : Int) < 300) = true := decide_eq_true (by omega)
  have f0 : ((ins cs off x).o == 0) = false := by rw [beq_eq_false_iff_ne]; omega
  have hkk : ((ins cs off x).o = 5 ∧ 0 < (ins cs off x).o ∧ (ins cs off x).o ≤ 6) = True := eq_true ⟨hk, by omega, by omega⟩
  simp only [e1, e2, e3, w6, w7, i1, t1, q1, q2, c1, c2, k1, k2, k3, k4, k5, b1, b2, l1, l2, l3, l4, l5, ha, hb, hc, Int.toNat_natCast, f0, hkk, Bool.not_true, Bool.not_false, Bool.true_eq_false, Bool.false_eq_true, false_implies, true_implies, true_and, and_true, beq_self_eq_true, Bool.and_self, eq_self, decide_true, decide_false, luy_eq, lcy_eq, lsy_eq]
  all_goals (try (repeat' first | exact H | exact True.intro | exact rfl | apply And.intro | (intro _) | omega))
theorem cx_y8 (Q : Int → Nat → Int → Int → Int → Int → Int → Int → Int → Int → Int → Array Value → Nat → Array Value → Nat → Int → Int → Int → Int → Int → Int → Int → Int → Int → Array Value → Prop) {i x : Nat} (hi : i < 300) (d2 : x < num) (hf : metB cs off num x = true) (hk : (ins cs off x).o = 6) (g0 g1 g2 g3 g4 g5 g6 g7 : Int) (H : Q i num (x : Nat) g0 g1 g2 g3 g4 g5 g6 g7 (cod cs off num) (cnt (metB cs off num) num) (trR cs off num) (cnt (metB cs off num) num) ((cnt (metB cs off num) x : Nat) : Int) g0 g1 g2 g3 g4 g5 g6 g7 (cod (trR cs off num) 0 (cnt (metB cs off num) num))) :
    VC (xy_t 8 off num cs ty i num (x : Nat) g0 g1 g2 g3 g4 g5 g6 g7 (cod cs off num) (cnt (metB cs off num) num) (trR cs off num) (cnt (metB cs off num) num) ((cnt (metB cs off num) x : Nat) : Int) g0 g1 g2 g3 g4 g5 g6 g7 (cod (trR cs off num) 0 (cnt (metB cs off num) num))) (boolR true) (xy_x 8 off num cs ty i num (x : Nat) g0 g1 g2 g3 g4 g5 g6 g7 (cod cs off num) (cnt (metB cs off num) num) (trR cs off num) (cnt (metB cs off num) num) ((cnt (metB cs off num) x : Nat) : Int) g0 g1 g2 g3 g4 g5 g6 g7 (cod (trR cs off num) 0 (cnt (metB cs off num) num)) Q) := by
  refine VC.mk ?_
  rw [xy8_vc]
  obtain ⟨n64, hle, hpx, e2, hp, e3, w6, w7, i1, q1⟩ := facs hI hM d2 hf
  obtain ⟨t1, q2⟩ := text_b hI hM d2 hf
  obtain ⟨c1, c2, k1, k2, k3, k4, k5, ha, hb, hc, hn⟩ := code_a hI hM d2
  obtain ⟨b1, b2, l1, l2, l3, l4, l5⟩ := code_b hI hM d2 hf
  have e1 : decide ((i : Int) < 300) = true := decide_eq_true (by omega)
  have f0 : ((ins cs off x).o == 0) = false := by rw [beq_eq_false_iff_ne]; omega
  have hkk : ((ins cs off x).o = 6 ∧ 0 < (ins cs off x).o ∧ (ins cs off x).o ≤ 6) = True := eq_true ⟨hk, by omega, by omega⟩
  simp only [e1, e2, e3, w6, w7, i1, t1, q1, q2, c1, c2, k1, k2, k3, k4, k5, b1, b2, l1, l2, l3, l4, l5, ha, hb, hc, Int.toNat_natCast, f0, hkk, Bool.not_true, Bool.not_false, Bool.true_eq_false, Bool.false_eq_true, false_implies, true_implies, true_and, and_true, beq_self_eq_true, Bool.and_self, eq_self, decide_true, decide_false, luy_eq, lcy_eq, lsy_eq]
  all_goals (try (repeat' first | exact H | exact True.intro | exact rfl | apply And.intro | (intro _) | omega))
theorem cx_y0 (Q : Int → Nat → Int → Int → Int → Int → Int → Int → Int → Int → Int → Array Value → Nat → Array Value → Nat → Int → Int → Int → Int → Int → Int → Int → Int → Int → Array Value → Prop) {i x : Nat} (h : 300 ≤ i ∨ num ≤ x) (hx : x ≤ num) (g0 g1 g2 g3 g4 g5 g6 g7 : Int) :
    VC (xy_t 0 off num cs ty i num (x : Nat) g0 g1 g2 g3 g4 g5 g6 g7 (cod cs off num) (cnt (metB cs off num) num) (trR cs off num) (cnt (metB cs off num) num) ((cnt (metB cs off num) x : Nat) : Int) g0 g1 g2 g3 g4 g5 g6 g7 (cod (trR cs off num) 0 (cnt (metB cs off num) num))) (boolR true) (xy_x 0 off num cs ty i num (x : Nat) g0 g1 g2 g3 g4 g5 g6 g7 (cod cs off num) (cnt (metB cs off num) num) (trR cs off num) (cnt (metB cs off num) num) ((cnt (metB cs off num) x : Nat) : Int) g0 g1 g2 g3 g4 g5 g6 g7 (cod (trR cs off num) 0 (cnt (metB cs off num) num)) Q) := by
  refine VC.mk ?_
  rw [xy0_vc]
  by_cases hi : i < 300
  · obtain rfl : x = num := by omega
    have e1 : decide ((i : Int) < 300) = true := decide_eq_true (by omega)
    have e2 : decide ((x : Int) ≥ (x : Int)) = true := decide_eq_true (by omega)
    have e3 : decide (((cnt (metB cs off x) x : Nat) : Int) ≥ ((cnt (metB cs off x) x : Nat) : Int)) = true := decide_eq_true (by omega)
    simp only [e1, ge_iff_le, Int.le_refl, decide_true, beqT, beqF, Bool.not_true, Bool.not_false, Bool.true_eq_false, Bool.false_eq_true, false_implies, true_implies, true_and, and_true, beq_self_eq_true, Bool.and_self, eq_self, decide_true, decide_false, luy_eq, lcy_eq, lsy_eq]
    all_goals (try (repeat' first | exact True.intro | exact rfl | apply And.intro | (intro _) | omega))
  · have e1 : decide ((i : Int) < 300) = false := decide_eq_false (by omega)
    simp only [e1, Bool.not_true, Bool.not_false, Bool.true_eq_false, Bool.false_eq_true, false_implies, true_implies, true_and, and_true, beq_self_eq_true, Bool.and_self, eq_self, decide_true, decide_false, luy_eq, lcy_eq, lsy_eq]
theorem cx_y1 (Q : Int → Nat → Int → Int → Int → Int → Int → Int → Int → Int → Int → Array Value → Nat → Array Value → Nat → Int → Int → Int → Int → Int → Int → Int → Int → Int → Array Value → Prop) {i x : Nat} (hi : i < 300) (d2 : x < num) (hf : metB cs off num x = true) (hk : (ins cs off x).o = 0) (g0 g1 g2 g3 g4 g5 g6 g7 : Int) :
    VC (xy_t 1 off num cs ty i num (x : Nat) g0 g1 g2 g3 g4 g5 g6 g7 (cod cs off num) (cnt (metB cs off num) num) (trR cs off num) (cnt (metB cs off num) num) ((cnt (metB cs off num) x : Nat) : Int) g0 g1 g2 g3 g4 g5 g6 g7 (cod (trR cs off num) 0 (cnt (metB cs off num) num))) (boolR true) (xy_x 1 off num cs ty i num (x : Nat) g0 g1 g2 g3 g4 g5 g6 g7 (cod cs off num) (cnt (metB cs off num) num) (trR cs off num) (cnt (metB cs off num) num) ((cnt (metB cs off num) x : Nat) : Int) g0 g1 g2 g3 g4 g5 g6 g7 (cod (trR cs off num) 0 (cnt (metB cs off num) num)) Q) := by
  refine VC.mk ?_
  rw [xy1_vc]
  obtain ⟨n64, hle, hpx, e2, hp, e3, w6, w7, i1, q1⟩ := facs hI hM d2 hf
  obtain ⟨t1, q2⟩ := text_b hI hM d2 hf
  obtain ⟨c1, c2, k1, k2, k3, k4, k5, ha, hb, hc, hn⟩ := code_a hI hM d2
  obtain ⟨b1, b2, l1, l2, l3, l4, l5⟩ := code_b hI hM d2 hf
  have e1 : decide ((i : Int) < 300) = true := decide_eq_true (by omega)
  have f0 : ((ins cs off x).o == 0) = true := by rw [beq_iff_eq]; omega
  have hkk : ((ins cs off x).o = 0) = True := eq_true hk
  simp only [e1, e2, e3, w6, w7, i1, t1, q1, q2, c1, c2, k1, k2, k3, k4, k5, b1, b2, l1, l2, l3, l4, l5, ha, hb, hc, Int.toNat_natCast, f0, hkk, Bool.not_true, Bool.not_false, Bool.true_eq_false, Bool.false_eq_true, false_implies, true_implies, true_and, and_true, beq_self_eq_true, Bool.and_self, eq_self, decide_true, decide_false, luy_eq, lcy_eq, lsy_eq]
  all_goals (try (repeat' first | exact True.intro | exact rfl | apply And.intro | (intro _) | omega))
theorem cy_y2 (Q : Int → Nat → Int → Int → Int → Int → Int → Int → Int → Int → Int → Array Value → Nat → Array Value → Nat → Int → Int → Int → Int → Int → Int → Int → Int → Int → Array Value → Prop) {i x : Nat} (hi : i < 300) (d2 : x < num) (hf : metB cs off num x = true) (hk : 16 < (ins cs off x).o ∧ (ins cs off x).o ≤ 38) (g0 g1 g2 g3 g4 g5 g6 g7 : Int) (H : ∀ (y : Nat) (h0 h1 h2 h3 h4 h5 h6 h7 : Int), y ∈ toL cs off num x → Q (i + 1 : Nat) num (y : Nat) h0 h1 h2 h3 h4 h5 h6 h7 (cod cs off num) (cnt (metB cs off num) num) (trR cs off num) (cnt (metB cs off num) num) ((cnt (metB cs off num) y : Nat) : Int) h0 h1 h2 h3 h4 h5 h6 h7 (cod (trR cs off num) 0 (cnt (metB cs off num) num))) :
    VC (yy_t 2 off num cs ty i num (x : Nat) g0 g1 g2 g3 g4 g5 g6 g7 (cod cs off num) (cnt (metB cs off num) num) (trR cs off num) (cnt (metB cs off num) num) ((cnt (metB cs off num) x : Nat) : Int) g0 g1 g2 g3 g4 g5 g6 g7 (cod (trR cs off num) 0 (cnt (metB cs off num) num))) (boolR true) (yy_x 2 off num cs ty i num (x : Nat) g0 g1 g2 g3 g4 g5 g6 g7 (cod cs off num) (cnt (metB cs off num) num) (trR cs off num) (cnt (metB cs off num) num) ((cnt (metB cs off num) x : Nat) : Int) g0 g1 g2 g3 g4 g5 g6 g7 (cod (trR cs off num) 0 (cnt (metB cs off num) num)) (fun i' k' nx' h0 h1 h2 h3 h4 h5 h6 h7 row' tk' ts' bk' ny' j0 j1 j2 j3 j4 j5 j6 j7 bow' => VC (zy_t 2 off num cs ty i' k' nx' h0 h1 h2 h3 h4 h5 h6 h7 row' tk' ts' bk' ny' j0 j1 j2 j3 j4 j5 j6 j7 bow') (boolR true) (zy_x 2 off num cs ty i' k' nx' h0 h1 h2 h3 h4 h5 h6 h7 row' tk' ts' bk' ny' j0 j1 j2 j3 j4 j5 j6 j7 bow' Q))) := by
  refine VC.mk ?_
  rw [yy2_vc]
  obtain ⟨n64, hle, hpx, e2, hp, e3, w6, w7, i1, q1⟩ := facs hI hM d2 hf
  obtain ⟨t1, q2⟩ := text_b hI hM d2 hf
  obtain ⟨c1, c2, k1, k2, k3, k4, k5, ha, hb, hc, hn⟩ := code_a hI hM d2
  obtain ⟨b1, b2, l1, l2, l3, l4, l5⟩ := code_b hI hM d2 hf
  obtain ⟨cx, cy, s1, s2, s3, r1, r2, r3, s4, s5, w8, w9, xa, pa⟩ := facz hI hM d2 hf ha
  have ia : ari BinOp.add IntKind.i64 (i : Int) 1 = ((i + 1 : Nat) : Int) := i64_add1 (by omega)
  have hkk : (16 < (ins cs off x).o ∧ (ins cs off x).o ≤ 38) = True := eq_true hk
  have zn : 0 + num = num := Nat.zero_add _
  have zN : 0 + (cnt (metB cs off num) num) = (cnt (metB cs off num) num) := Nat.zero_add _
  have tn : (trimI (metB cs off num) (ins cs off x)).n = (ins cs off x).n := trim_n hI hM (by omega)
  have H1 := H (x + 1)
  have H1 := fun h0 h1 h2 h3 h4 h5 h6 h7 => H1 h0 h1 h2 h3 h4 h5 h6 h7 (to_next hI hM d2 (by omega) (by omega))
  · simp only [e2, e3, w6, w7, i1, t1, q1, q2, c1, c2, k1, k2, k3, k4, k5, b1, b2, l1, l2, l3, l4, l5, ha, hb, hc, Int.toNat_natCast, hkk, tn, cx, cy, s1, s2, s3, r1, r2, r3, s4, s5, w8, w9, ia, xa, pa, zn, zN, Bool.not_true, Bool.not_false, Bool.true_eq_false, Bool.false_eq_true, false_implies, true_implies, true_and, and_true, beq_self_eq_true, Bool.and_self, eq_self, decide_true, decide_false, luy_eq, lcy_eq, lsy_eq, ne_eq, not_false_eq_true, lvy_eq]
    simp only [VC_eq, zy2_vc, e2, e3, w6, w7, i1, t1, q1, q2, c1, c2, k1, k2, k3, k4, k5, b1, b2, l1, l2, l3, l4, l5, ha, hb, hc, Int.toNat_natCast, hkk, tn, cx, cy, s1, s2, s3, r1, r2, r3, s4, s5, w8, w9, ia, xa, pa, zn, zN, Bool.not_true, Bool.not_false, Bool.true_eq_false, Bool.false_eq_true, false_implies, true_implies, true_and, and_true, beq_self_eq_true, Bool.and_self, eq_self, decide_true, decide_false, luy_eq, lcy_eq, lsy_eq, ne_eq, not_false_eq_true, lvy_eq]
    all_goals (try (repeat' first | exact H1 _ _ _ _ _ _ _ _ | exact True.intro | exact rfl | apply And.intro | (intro _) | omega))
theorem cy_y3 (Q : Int → Nat → Int → Int → Int → Int → Int → Int → Int → Int → Int → Array Value → Nat → Array Value → Nat → Int → Int → Int → Int → Int → Int → Int → Int → Int → Array Value → Prop) {i x : Nat} (hi : i < 300) (d2 : x < num) (hf : metB cs off num x = true) (hk : (ins cs off x).o = 1) (g0 g1 g2 g3 g4 g5 g6 g7 : Int) (H : ∀ (y : Nat) (h0 h1 h2 h3 h4 h5 h6 h7 : Int), y ∈ toL cs off num x → Q (i + 1 : Nat) num (y : Nat) h0 h1 h2 h3 h4 h5 h6 h7 (cod cs off num) (cnt (metB cs off num) num) (trR cs off num) (cnt (metB cs off num) num) ((cnt (metB cs off num) y : Nat) : Int) h0 h1 h2 h3 h4 h5 h6 h7 (cod (trR cs off num) 0 (cnt (metB cs off num) num))) :
    VC (yy_t 3 off num cs ty i num (x : Nat) g0 g1 g2 g3 g4 g5 g6 g7 (cod cs off num) (cnt (metB cs off num) num) (trR cs off num) (cnt (metB cs off num) num) ((cnt (metB cs off num) x : Nat) : Int) g0 g1 g2 g3 g4 g5 g6 g7 (cod (trR cs off num) 0 (cnt (metB cs off num) num))) (boolR true) (yy_x 3 off num cs ty i num (x : Nat) g0 g1 g2 g3 g4 g5 g6 g7 (cod cs off num) (cnt (metB cs off num) num) (trR cs off num) (cnt (metB cs off num) num) ((cnt (metB cs off num) x : Nat) : Int) g0 g1 g2 g3 g4 g5 g6 g7 (cod (trR cs off num) 0 (cnt (metB cs off num) num)) (fun i' k' nx' h0 h1 h2 h3 h4 h5 h6 h7 row' tk' ts' bk' ny' j0 j1 j2 j3 j4 j5 j6 j7 bow' => VC (zy_t 3 off num cs ty i' k' nx' h0 h1 h2 h3 h4 h5 h6 h7 row' tk' ts' bk' ny' j0 j1 j2 j3 j4 j5 j6 j7 bow') (boolR true) (zy_x 3 off num cs ty i' k' nx' h0 h1 h2 h3 h4 h5 h6 h7 row' tk' ts' bk' ny' j0 j1 j2 j3 j4 j5 j6 j7 bow' Q))) := by
  refine VC.mk ?_
  rw [yy3_vc]
  obtain ⟨n64, hle, hpx, e2, hp, e3, w6, w7, i1, q1⟩ := facs hI hM d2 hf
  obtain ⟨t1, q2⟩ := text_b hI hM d2 hf
  obtain ⟨c1, c2, k1, k2, k3, k4, k5, ha, hb, hc, hn⟩ := code_a hI hM d2
  obtain ⟨b1, b2, l1, l2, l3, l4, l5⟩ := code_b hI hM d2 hf
  obtain ⟨cx, cy, s1, s2, s3, r1, r2, r3, s4, s5, w8, w9, xa, pa⟩ := facz hI hM d2 hf ha
  have ia : ari BinOp.add IntKind.i64 (i : Int) 1 = ((i + 1 : Nat) : Int) := i64_add1 (by omega)
  have hkk : ((ins cs off x).o = 1 ∧ 0 < (ins cs off x).o ∧ (ins cs off x).o ≤ 6) = True := eq_true ⟨hk, by omega, by omega⟩
  have zn : 0 + num = num := Nat.zero_add _
  have zN : 0 + (cnt (metB cs off num) num) = (cnt (metB cs off num) num) := Nat.zero_add _
  have tn : (trimI (metB cs off num) (ins cs off x)).n = (ins cs off x).n := trim_n hI hM (by omega)
  have H1 := H (x + 1)
  have H1 := fun h0 h1 h2 h3 h4 h5 h6 h7 => H1 h0 h1 h2 h3 h4 h5 h6 h7 (to_next hI hM d2 (by omega) (by omega))
  · simp only [e2, e3, w6, w7, i1, t1, q1, q2, c1, c2, k1, k2, k3, k4, k5, b1, b2, l1, l2, l3, l4, l5, ha, hb, hc, Int.toNat_natCast, hkk, tn, cx, cy, s1, s2, s3, r1, r2, r3, s4, s5, w8, w9, ia, xa, pa, zn, zN, Bool.not_true, Bool.not_false, Bool.true_eq_false, Bool.false_eq_true, false_implies, true_implies, true_and, and_true, beq_self_eq_true, Bool.and_self, eq_self, decide_true, decide_false, luy_eq, lcy_eq, lsy_eq, ne_eq, not_false_eq_true, lvy_eq]
    simp only [VC_eq, zy3_vc, e2, e3, w6, w7, i1, t1, q1, q2, c1, c2, k1, k2, k3, k4, k5, b1, b2, l1, l2, l3, l4, l5, ha, hb, hc, Int.toNat_natCast, hkk, tn, cx, cy, s1, s2, s3, r1, r2, r3, s4, s5, w8, w9, ia, xa, pa, zn, zN, Bool.not_true, Bool.not_false, Bool.true_eq_false, Bool.false_eq_true, false_implies, true_implies, true_and, and_true, beq_self_eq_true, Bool.and_self, eq_self, decide_true, decide_false, luy_eq, lcy_eq, lsy_eq, ne_eq, not_false_eq_true, lvy_eq]
    all_goals (try (repeat' first | exact H1 _ _ _ _ _ _ _ _ | exact True.intro | exact rfl | apply And.intro | (intro _) | omega))
theorem cy_y4 (Q : Int → Nat → Int → Int → Int → Int → Int → Int → Int → Int → Int → Array Value → Nat → Array Value → Nat → Int → Int → Int → Int → Int → Int → Int → Int → Int → Array Value → Prop) {i x : Nat} (hi : i < 300) (d2 : x < num) (hf : metB cs off num x = true) (hk : (ins cs off x).o = 2) (g0 g1 g2 g3 g4 g5 g6 g7 : Int) (H : ∀ (y : Nat) (h0 h1 h2 h3 h4 h5 h6 h7 : Int), y ∈ toL cs off num x → Q (i + 1 : Nat) num (y : Nat) h0 h1 h2 h3 h4 h5 h6 h7 (cod cs off num) (cnt (metB cs off num) num) (trR cs off num) (cnt (metB cs off num) num) ((cnt (metB cs off num) y : Nat) : Int) h0 h1 h2 h3 h4 h5 h6 h7 (cod (trR cs off num) 0 (cnt (metB cs off num) num))) :
    VC (yy_t 4 off num cs ty i num (x : Nat) g0 g1 g2 g3 g4 g5 g6 g7 (cod cs off num) (cnt (metB cs off num) num) (trR cs off num) (cnt (metB cs off num) num) ((cnt (metB cs off num) x : Nat) : Int) g0 g1 g2 g3 g4 g5 g6 g7 (cod (trR cs off num) 0 (cnt (metB cs off num) num))) (boolR true) (yy_x 4 off num cs ty i num (x : Nat) g0 g1 g2 g3 g4 g5 g6 g7 (cod cs off num) (cnt (metB cs off num) num) (trR cs off num) (cnt (metB cs off num) num) ((cnt (metB cs off num) x : Nat) : Int) g0 g1 g2 g3 g4 g5 g6 g7 (cod (trR cs off num) 0 (cnt (metB cs off num) num)) (fun i' k' nx' h0 h1 h2 h3 h4 h5 h6 h7 row' tk' ts' bk' ny' j0 j1 j2 j3 j4 j5 j6 j7 bow' => VC (zy_t 4 off num cs ty i' k' nx' h0 h1 h2 h3 h4 h5 h6 h7 row' tk' ts' bk' ny' j0 j1 j2 j3 j4 j5 j6 j7 bow') (boolR true) (zy_x 4 off num cs ty i' k' nx' h0 h1 h2 h3 h4 h5 h6 h7 row' tk' ts' bk' ny' j0 j1 j2 j3 j4 j5 j6 j7 bow' Q))) := by
  refine VC.mk ?_
  rw [yy4_vc]
  obtain ⟨n64, hle, hpx, e2, hp, e3, w6, w7, i1, q1⟩ := facs hI hM d2 hf
  obtain ⟨t1, q2⟩ := text_b hI hM d2 hf
  obtain ⟨c1, c2, k1, k2, k3, k4, k5, ha, hb, hc, hn⟩ := code_a hI hM d2
  obtain ⟨b1, b2, l1, l2, l3, l4, l5⟩ := code_b hI hM d2 hf
  obtain ⟨cx, cy, s1, s2, s3, r1, r2, r3, s4, s5, w8, w9, xa, pa⟩ := facz hI hM d2 hf ha
  have ia : ari BinOp.add IntKind.i64 (i : Int) 1 = ((i + 1 : Nat) : Int) := i64_add1 (by omega)
  have hkk : ((ins cs off x).o = 2 ∧ 0 < (ins cs off x).o ∧ (ins cs off x).o ≤ 6) = True := eq_true ⟨hk, by omega, by omega⟩
  have zn : 0 + num = num := Nat.zero_add _
  have zN : 0 + (cnt (metB cs off num) num) = (cnt (metB cs off num) num) := Nat.zero_add _
  have tn : (trimI (metB cs off num) (ins cs off x)).n = (ins cs off x).n := trim_n hI hM (by omega)
  have H1 := H (x + 1)
  have H1 := fun h0 h1 h2 h3 h4 h5 h6 h7 => H1 h0 h1 h2 h3 h4 h5 h6 h7 (to_next hI hM d2 (by omega) (by omega))
  · simp only [e2, e3, w6, w7, i1, t1, q1, q2, c1, c2, k1, k2, k3, k4, k5, b1, b2, l1, l2, l3, l4, l5, ha, hb, hc, Int.toNat_natCast, hkk, tn, cx, cy, s1, s2, s3, r1, r2, r3, s4, s5, w8, w9, ia, xa, pa, zn, zN, Bool.not_true, Bool.not_false, Bool.true_eq_false, Bool.false_eq_true, false_implies, true_implies, true_and, and_true, beq_self_eq_true, Bool.and_self, eq_self, decide_true, decide_false, luy_eq, lcy_eq, lsy_eq, ne_eq, not_false_eq_true, lvy_eq]
    simp only [VC_eq, zy4_vc, e2, e3, w6, w7, i1, t1, q1, q2, c1, c2, k1, k2, k3, k4, k5, b1, b2, l1, l2, l3, l4, l5, ha, hb, hc, Int.toNat_natCast, hkk, tn, cx, cy, s1, s2, s3, r1, r2, r3, s4, s5, w8, w9, ia, xa, pa, zn, zN, Bool.not_true, Bool.not_false, Bool.true_eq_false, Bool.false_eq_true, false_implies, true_implies, true_and, and_true, beq_self_eq_true, Bool.and_self, eq_self, decide_true, decide_false, luy_eq, lcy_eq, lsy_eq, ne_eq, not_false_eq_true, lvy_eq]
    all_goals (try (repeat' first | exact H1 _ _ _ _ _ _ _ _ | exact True.intro | exact rfl | apply And.intro | (intro _) | omega))
theorem cy_y5 (Q : Int → Nat → Int → Int → Int → Int → Int → Int → Int → Int → Int → Array Value → Nat → Array Value → Nat → Int → Int → Int → Int → Int → Int → Int → Int → Int → Array Value → Prop) {i x : Nat} (hi : i < 300) (d2 : x < num) (hf : metB cs off num x = true) (hk : (ins cs off x).o = 3) (g0 g1 g2 g3 g4 g5 g6 g7 : Int) (H : ∀ (y : Nat) (h0 h1 h2 h3 h4 h5 h6 h7 : Int), y ∈ toL cs off num x → Q (i + 1 : Nat) num (y : Nat) h0 h1 h2 h3 h4 h5 h6 h7 (cod cs off num) (cnt (metB cs off num) num) (trR cs off num) (cnt (metB cs off num) num) ((cnt (metB cs off num) y : Nat) : Int) h0 h1 h2 h3 h4 h5 h6 h7 (cod (trR cs off num) 0 (cnt (metB cs off num) num))) :
    VC (yy_t 5 off num cs ty i num (x : Nat) g0 g1 g2 g3 g4 g5 g6 g7 (cod cs off num) (cnt (metB cs off num) num) (trR cs off num) (cnt (metB cs off num) num) ((cnt (metB cs off num) x : Nat) : Int) g0 g1 g2 g3 g4 g5 g6 g7 (cod (trR cs off num) 0 (cnt (metB cs off num) num))) (boolR true) (yy_x 5 off num cs ty i num (x : Nat) g0 g1 g2 g3 g4 g5 g6 g7 (cod cs off num) (cnt (metB cs off num) num) (trR cs off num) (cnt (metB cs off num) num) ((cnt (metB cs off num) x : Nat) : Int) g0 g1 g2 g3 g4 g5 g6 g7 (cod (trR cs off num) 0 (cnt (metB cs off num) num)) (fun i' k' nx' h0 h1 h2 h3 h4 h5 h6 h7 row' tk' ts' bk' ny' j0 j1 j2 j3 j4 j5 j6 j7 bow' => VC (zy_t 5 off num cs ty i' k' nx' h0 h1 h2 h3 h4 h5 h6 h7 row' tk' ts' bk' ny' j0 j1 j2 j3 j4 j5 j6 j7 bow') (boolR true) (zy_x 5 off num cs ty i' k' nx' h0 h1 h2 h3 h4 h5 h6 h7 row' tk' ts' bk' ny' j0 j1 j2 j3 j4 j5 j6 j7 bow' Q))) := by
  refine VC.mk ?_
  rw [yy5_vc]
  obtain ⟨n64, hle, hpx, e2, hp, e3, w6, w7, i1, q1⟩ := facs hI hM d2 hf
  obtain ⟨t1, q2⟩ := text_b hI hM d2 hf
  obtain ⟨c1, c2, k1, k2, k3, k4, k5, ha, hb, hc, hn⟩ := code_a hI hM d2
  obtain ⟨b1, b2, l1, l2, l3, l4, l5⟩ := code_b hI hM d2 hf
  obtain ⟨cx, cy, s1, s2, s3, r1, r2, r3, s4, s5, w8, w9, xa, pa⟩ := facz hI hM d2 hf ha
  have ia : ari BinOp.add IntKind.i64 (i : Int) 1 = ((i + 1 : Nat) : Int) := i64_add1 (by omega)
  have hkk : ((ins cs off x).o = 3 ∧ 0 < (ins cs off x).o ∧ (ins cs off x).o ≤ 6) = True := eq_true ⟨hk, by omega, by omega⟩
  have zn : 0 + num = num := Nat.zero_add _
  have zN : 0 + (cnt (metB cs off num) num) = (cnt (metB cs off num) num) := Nat.zero_add _
  have tn : (trimI (metB cs off num) (ins cs off x)).n = (ins cs off x).n := trim_n hI hM (by omega)
  have H1 := H (x + 1)
  have H1 := fun h0 h1 h2 h3 h4 h5 h6 h7 => H1 h0 h1 h2 h3 h4 h5 h6 h7 (to_next hI hM d2 (by omega) (by omega))
  · simp only [e2, e3, w6, w7, i1, t1, q1, q2, c1, c2, k1, k2, k3, k4, k5, b1, b2, l1, l2, l3, l4, l5, ha, hb, hc, Int.toNat_natCast, hkk, tn, cx, cy, s1, s2, s3, r1, r2, r3, s4, s5, w8, w9, ia, xa, pa, zn, zN, Bool.not_true, Bool.not_false, Bool.true_eq_false, Bool.false_eq_true, false_implies, true_implies, true_and, and_true, beq_self_eq_true, Bool.and_self, eq_self, decide_true, decide_false, luy_eq, lcy_eq, lsy_eq, ne_eq, not_false_eq_true, lvy_eq]
    simp only [VC_eq, zy5_vc, e2, e3, w6, w7, i1, t1, q1, q2, c1, c2, k1, k2, k3, k4, k5, b1, b2, l1, l2, l3, l4, l5, ha, hb, hc, Int.toNat_natCast, hkk, tn, cx, cy, s1, s2, s3, r1, r2, r3, s4, s5, w8, w9, ia, xa, pa, zn, zN, Bool.not_true, Bool.not_false, Bool.true_eq_false, Bool.false_eq_true, false_implies, true_implies, true_and, and_true, beq_self_eq_true, Bool.and_self, eq_self, decide_true, decide_false, luy_eq, lcy_eq, lsy_eq, ne_eq, not_false_eq_true, lvy_eq]
    all_goals (try (repeat' first | exact H1 _ _ _ _ _ _ _ _ | exact True.intro | exact rfl | apply And.intro | (intro _) | omega))
theorem cy_y6 (Q : Int → Nat → Int → Int → Int → Int → Int → Int → Int → Int → Int → Array Value → Nat → Array Value → Nat → Int → Int → Int → Int → Int → Int → Int → Int → Int → Array Value → Prop) {i x : Nat} (hi : i < 300) (d2 : x < num) (hf : metB cs off num x = true) (hk : (ins cs off x).o = 4) (g0 g1 g2 g3 g4 g5 g6 g7 : Int) (H : ∀ (y : Nat) (h0 h1 h2 h3 h4 h5 h6 h7 : Int), y ∈ toL cs off num x → Q (i + 1 : Nat) num (y : Nat) h0 h1 h2 h3 h4 h5 h6 h7 (cod cs off num) (cnt (metB cs off num) num) (trR cs off num) (cnt (metB cs off num) num) ((cnt (metB cs off num) y : Nat) : Int) h0 h1 h2 h3 h4 h5 h6 h7 (cod (trR cs off num) 0 (cnt (metB cs off num) num))) :
    VC (yy_t 6 off num cs ty i num (x : Nat) g0 g1 g2 g3 g4 g5 g6 g7 (cod cs off num) (cnt (metB cs off num) num) (trR cs off num) (cnt (metB cs off num) num) ((cnt (metB cs off num) x : Nat) : Int) g0 g1 g2 g3 g4 g5 g6 g7 (cod (trR cs off num) 0 (cnt (metB cs off num) num))) (boolR true) (yy_x 6 off num cs ty i num (x : Nat) g0 g1 g2 g3 g4 g5 g6 g7 (cod cs off num) (cnt (metB cs off num) num) (trR cs off num) (cnt (metB cs off num) num) ((cnt (metB cs off num) x : Nat) : Int) g0 g1 g2 g3 g4 g5 g6 g7 (cod (trR cs off num) 0 (cnt (metB cs off num) num)) (fun i' k' nx' h0 h1 h2 h3 h4 h5 h6 h7 row' tk' ts' bk' ny' j0 j1 j2 j3 j4 j5 j6 j7 bow' => VC (zy_t 6 off num cs ty i' k' nx' h0 h1 h2 h3 h4 h5 h6 h7 row' tk' ts' bk' ny' j0 j1 j2 j3 j4 j5 j6 j7 bow') (boolR true) (zy_x 6 off num cs ty i' k' nx' h0 h1 h2 h3 h4 h5 h6 h7 row' tk' ts' bk' ny' j0 j1 j2 j3 j4 j5 j6 j7 bow' Q))) := by
  refine VC.mk ?_
  rw [yy6_vc]
  obtain ⟨n64, hle, hpx, e2, hp, e3, w6, w7, i1, q1⟩ := facs hI hM d2 hf
  obtain ⟨t1, q2⟩ := text_b hI hM d2 hf
  obtain ⟨c1, c2, k1, k2, k3, k4, k5, ha, hb, hc, hn⟩ := code_a hI hM d2
  obtain ⟨b1, b2, l1, l2, l3, l4, l5⟩ := code_b hI hM d2 hf
  obtain ⟨cx, cy, s1, s2, s3, r1, r2, r3, s4, s5, w8, w9, xa, pa⟩ := facz hI hM d2 hf ha
  have ia : ari BinOp.add IntKind.i64 (i : Int) 1 = ((i + 1 : Nat) : Int) := i64_add1 (by omega)
  have hkk : ((ins cs off x).o = 4 ∧ 0 < (ins cs off x).o ∧ (ins cs off x).o ≤ 6) = True := eq_true ⟨hk, by omega, by omega⟩
  have zn : 0 + num = num := Nat.zero_add _
  have zN : 0 + (cnt (metB cs off num) num) = (cnt (metB cs off num) num) := Nat.zero_add _
  have tn : (trimI (metB cs off num) (ins cs off x)).n = (ins cs off x).n := trim_n hI hM (by omega)
  have H1 := H (x + 1)
  have H1 := fun h0 h1 h2 h3 h4 h5 h6 h7 => H1 h0 h1 h2 h3 h4 h5 h6 h7 (to_next hI hM d2 (by omega) (by omega))
  · simp only [e2, e3, w6, w7, i1, t1, q1, q2, c1, c2, k1, k2, k3, k4, k5, b1, b2, l1, l2, l3, l4, l5, ha, hb, hc, Int.toNat_natCast, hkk, tn, cx, cy, s1, s2, s3, r1, r2, r3, s4, s5, w8, w9, ia, xa, pa, zn, zN, Bool.not_true, Bool.not_false, Bool.true_eq_false, Bool.false_eq_true, false_implies, true_implies, true_and, and_true, beq_self_eq_true, Bool.and_self, eq_self, decide_true, decide_false, luy_eq, lcy_eq, lsy_eq, ne_eq, not_false_eq_true, lvy_eq]
    simp only [VC_eq, zy6_vc, e2, e3, w6, w7, i1, t1, q1, q2, c1, c2, k1, k2, k3, k4, k5, b1, b2, l1, l2, l3, l4, l5, ha, hb, hc, Int.toNat_natCast, hkk, tn, cx, cy, s1, s2, s3, r1, r2, r3, s4, s5, w8, w9, ia, xa, pa, zn, zN, Bool.not_true, Bool.not_false, Bool.true_eq_false, Bool.false_eq_true, false_implies, true_implies, true_and, and_true, beq_self_eq_true, Bool.and_self, eq_self, decide_true, decide_false, luy_eq, lcy_eq, lsy_eq, ne_eq, not_false_eq_true, lvy_eq]
    all_goals (try (repeat' first | exact H1 _ _ _ _ _ _ _ _ | exact True.intro | exact rfl | apply And.intro | (intro _) | omega))
theorem cy_y7 (Q : Int → Nat → Int → Int → Int → Int → Int → Int → Int → Int → Int → Array Value → Nat → Array Value → Nat → Int → Int → Int → Int → Int → Int → Int → Int → Int → Array Value → Prop) {i x : Nat} (hi : i < 300) (d2 : x < num) (hf : metB cs off num x = true) (hk : (ins cs off x).o = 5) (g0 g1 g2 g3 g4 g5 g6 g7 : Int) (H : ∀ (y : Nat) (h0 h1 h2 h3 h4 h5 h6 h7 : Int), y ∈ toL cs off num x → Q (i + 1 : Nat) num (y : Nat) h0 h1 h2 h3 h4 h5 h6 h7 (cod cs off num) (cnt (metB cs off num) num) (trR cs off num) (cnt (metB cs off num) num) ((cnt (metB cs off num) y : Nat) : Int) h0 h1 h2 h3 h4 h5 h6 h7 (cod (trR cs off num) 0 (cnt (metB cs off num) num))) :
    VC (yy_t 7 off num cs ty i num (x : Nat) g0 g1 g2 g3 g4 g5 g6 g7 (cod cs off num) (cnt (metB cs off num) num) (trR cs off num) (cnt (metB cs off num) num) ((cnt (metB cs off num) x : Nat) : Int) g0 g1 g2 g3 g4 g5 g6 g7 (cod (trR cs off num) 0 (cnt (metB cs off num) num))) (boolR true) (yy_x 7 off num cs ty i num (x : Nat) g0 g1 g2 g3 g4 g5 g6 g7 (cod cs off num) (cnt (metB cs off num) num) (trR cs off num) (cnt (metB cs off num) num) ((cnt (metB cs off num) x : Nat) : Int) g0 g1 g2 g3 g4 g5 g6 g7 (cod (trR cs off num) 0 (cnt (metB cs off num) num)) (fun i' k' nx' h0 h1 h2 h3 h4 h5 h6 h7 row' tk' ts' bk' ny' j0 j1 j2 j3 j4 j5 j6 j7 bow' => VC (zy_t 7 off num cs ty i' k' nx' h0 h1 h2 h3 h4 h5 h6 h7 row' tk' ts' bk' ny' j0 j1 j2 j3 j4 j5 j6 j7 bow') (boolR true) (zy_x 7 off num cs ty i' k' nx' h0 h1 h2 h3 h4 h5 h6 h7 row' tk' ts' bk' ny' j0 j1 j2 j3 j4 j5 j6 j7 bow' Q))) := by
  refine VC.mk ?_
  rw [yy7_vc]
  obtain ⟨n64, hle, hpx, e2, hp, e3, w6, w7, i1, q1⟩ := facs hI hM d2 hf
  obtain ⟨t1, q2⟩ := text_b hI hM d2 hf
  obtain ⟨c1, c2, k1, k2, k3, k4, k5, ha, hb, hc, hn⟩ := code_a hI hM d2
  obtain ⟨b1, b2, l1, l2, l3, l4, l5⟩ := code_b hI hM d2 hf
  obtain ⟨cx, cy, s1, s2, s3, r1, r2, r3, s4, s5, w8, w9, xa, pa⟩ := facz hI hM d2 hf ha
  have ia : ari BinOp.add IntKind.i64 (i : Int) 1 = ((i + 1 : Nat) : Int) := i64_add1 (by omega)
  have hkk : ((ins cs off x).o = 5 ∧ 0 < (ins cs off x).o ∧ (ins cs off x).o ≤ 6) = True := eq_true ⟨hk, by omega, by omega⟩
  have zn : 0 + num = num := Nat.zero_add _
  have zN : 0 + (cnt (metB cs off num) num) = (cnt (metB cs off num) num) := Nat.zero_add _
  have tn : (trimI (metB cs off num) (ins cs off x)).n = ((cnt (metB cs off num) (ins cs off x).n.toNat : Nat) : Int) := trim_j hI hM (by omega)
  have H2 := H (ins cs off x).n.toNat
  have H2 := fun h0 h1 h2 h3 h4 h5 h6 h7 => H2 h0 h1 h2 h3 h4 h5 h6 h7 (to_jump hI hM d2 (by omega))
  have jn : IntKind.i64.wrap (ins cs off x).n = ((ins cs off x).n.toNat : Int) := by rw [Go.IntWalk.i64_in _ (by omega)]; omega
  have hcn := cnt_le (metB cs off num) (ins cs off x).n.toNat
  have jm : IntKind.i64.wrap ((cnt (metB cs off num) (ins cs off x).n.toNat : Nat) : Int) = ((cnt (metB cs off num) (ins cs off x).n.toNat : Nat) : Int) := Go.IntWalk.i64_in _ (by omega)
  · simp only [e2, e3, w6, w7, i1, t1, q1, q2, c1, c2, k1, k2, k3, k4, k5, b1, b2, l1, l2, l3, l4, l5, ha, hb, hc, Int.toNat_natCast, hkk, tn, cx, cy, s1, s2, s3, r1, r2, r3, s4, s5, w8, w9, ia, xa, pa, zn, zN, jn, jm, Bool.not_true, Bool.not_false, Bool.true_eq_false, Bool.false_eq_true, false_implies, true_implies, true_and, and_true, beq_self_eq_true, Bool.and_self, eq_self, decide_true, decide_false, luy_eq, lcy_eq, lsy_eq, ne_eq, not_false_eq_true, lvy_eq]
    simp only [VC_eq, zy7_vc, e2, e3, w6, w7, i1, t1, q1, q2, c1, c2, k1, k2, k3, k4, k5, b1, b2, l1, l2, l3, l4, l5, ha, hb, hc, Int.toNat_natCast, hkk, tn, cx, cy, s1, s2, s3, r1, r2, r3, s4, s5, w8, w9, ia, xa, pa, zn, zN, jn, jm, Bool.not_true, Bool.not_false, Bool.true_eq_false, Bool.false_eq_true, false_implies, true_implies, true_and, and_true, beq_self_eq_true, Bool.and_self, eq_self, decide_true, decide_false, luy_eq, lcy_eq, lsy_eq, ne_eq, not_false_eq_true, lvy_eq]
    all_goals (try (repeat' first | exact H2 _ _ _ _ _ _ _ _ | exact True.intro | exact rfl | apply And.intro | (intro _) | omega))
theorem cy_y8 (Q : Int → Nat → Int → Int → Int → Int → Int → Int → Int → Int → Int → Array Value → Nat → Array Value → Nat → Int → Int → Int → Int → Int → Int → Int → Int → Int → Array Value → Prop) {i x : Nat} (hi : i < 300) (d2 : x < num) (hf : metB cs off num x = true) (hk : (ins cs off x).o = 6) (g0 g1 g2 g3 g4 g5 g6 g7 : Int) (H : ∀ (y : Nat) (h0 h1 h2 h3 h4 h5 h6 h7 : Int), y ∈ toL cs off num x → Q (i + 1 : Nat) num (y : Nat) h0 h1 h2 h3 h4 h5 h6 h7 (cod cs off num) (cnt (metB cs off num) num) (trR cs off num) (cnt (metB cs off num) num) ((cnt (metB cs off num) y : Nat) : Int) h0 h1 h2 h3 h4 h5 h6 h7 (cod (trR cs off num) 0 (cnt (metB cs off num) num))) :
    VC (yy_t 8 off num cs ty i num (x : Nat) g0 g1 g2 g3 g4 g5 g6 g7 (cod cs off num) (cnt (metB cs off num) num) (trR cs off num) (cnt (metB cs off num) num) ((cnt (metB cs off num) x : Nat) : Int) g0 g1 g2 g3 g4 g5 g6 g7 (cod (trR cs off num) 0 (cnt (metB cs off num) num))) (boolR true) (yy_x 8 off num cs ty i num (x : Nat) g0 g1 g2 g3 g4 g5 g6 g7 (cod cs off num) (cnt (metB cs off num) num) (trR cs off num) (cnt (metB cs off num) num) ((cnt (metB cs off num) x : Nat) : Int) g0 g1 g2 g3 g4 g5 g6 g7 (cod (trR cs off num) 0 (cnt (metB cs off num) num)) (fun i' k' nx' h0 h1 h2 h3 h4 h5 h6 h7 row' tk' ts' bk' ny' j0 j1 j2 j3 j4 j5 j6 j7 bow' => VC (zy_t 8 off num cs ty i' k' nx' h0 h1 h2 h3 h4 h5 h6 h7 row' tk' ts' bk' ny' j0 j1 j2 j3 j4 j5 j6 j7 bow') (boolR true) (zy_x 8 off num cs ty i' k' nx' h0 h1 h2 h3 h4 h5 h6 h7 row' tk' ts' bk' ny' j0 j1 j2 j3 j4 j5 j6 j7 bow' Q))) := by
  refine VC.mk ?_
  rw [yy8_vc]
  obtain ⟨n64, hle, hpx, e2, hp, e3, w6, w7, i1, q1⟩ := facs hI hM d2 hf
  obtain ⟨t1, q2⟩ := text_b hI hM d2 hf
  obtain ⟨c1, c2, k1, k2, k3, k4, k5, ha, hb, hc, hn⟩ := code_a hI hM d2
  obtain ⟨b1, b2, l1, l2, l3, l4, l5⟩ := code_b hI hM d2 hf
  obtain ⟨cx, cy, s1, s2, s3, r1, r2, r3, s4, s5, w8, w9, xa, pa⟩ := facz hI hM d2 hf ha
  have ia : ari BinOp.add IntKind.i64 (i : Int) 1 = ((i + 1 : Nat) : Int) := i64_add1 (by omega)
  have hkk : ((ins cs off x).o = 6 ∧ 0 < (ins cs off x).o ∧ (ins cs off x).o ≤ 6) = True := eq_true ⟨hk, by omega, by omega⟩
  have zn : 0 + num = num := Nat.zero_add _
  have zN : 0 + (cnt (metB cs off num) num) = (cnt (metB cs off num) num) := Nat.zero_add _
  have tn : (trimI (metB cs off num) (ins cs off x)).n = ((cnt (metB cs off num) (ins cs off x).n.toNat : Nat) : Int) := trim_j hI hM (by omega)
  have H1 := H (x + 1)
  have H1 := fun h0 h1 h2 h3 h4 h5 h6 h7 => H1 h0 h1 h2 h3 h4 h5 h6 h7 (to_next hI hM d2 (by omega) (by omega))
  have H2 := H (ins cs off x).n.toNat
  have H2 := fun h0 h1 h2 h3 h4 h5 h6 h7 => H2 h0 h1 h2 h3 h4 h5 h6 h7 (to_jump hI hM d2 (by omega))
  have jn : IntKind.i64.wrap (ins cs off x).n = ((ins cs off x).n.toNat : Int) := by rw [Go.IntWalk.i64_in _ (by omega)]; omega
  have hcn := cnt_le (metB cs off num) (ins cs off x).n.toNat
  have jm : IntKind.i64.wrap ((cnt (metB cs off num) (ins cs off x).n.toNat : Nat) : Int) = ((cnt (metB cs off num) (ins cs off x).n.toNat : Nat) : Int) := Go.IntWalk.i64_in _ (by omega)
  by_cases hg : (Rg.at (Rg.mk g0 g1 g2 g3 g4 g5 g6 g7) (ins cs off x).a.toNat != 0) = true
  · simp only [hg, e2, e3, w6, w7, i1, t1, q1, q2, c1, c2, k1, k2, k3, k4, k5, b1, b2, l1, l2, l3, l4, l5, ha, hb, hc, Int.toNat_natCast, hkk, tn, cx, cy, s1, s2, s3, r1, r2, r3, s4, s5, w8, w9, ia, xa, pa, zn, zN, jn, jm, Bool.not_true, Bool.not_false, Bool.true_eq_false, Bool.false_eq_true, false_implies, true_implies, true_and, and_true, beq_self_eq_true, Bool.and_self, eq_self, decide_true, decide_false, luy_eq, lcy_eq, lsy_eq, ne_eq, not_false_eq_true, lvy_eq]
    simp only [VC_eq, zy8_vc, hg, e2, e3, w6, w7, i1, t1, q1, q2, c1, c2, k1, k2, k3, k4, k5, b1, b2, l1, l2, l3, l4, l5, ha, hb, hc, Int.toNat_natCast, hkk, tn, cx, cy, s1, s2, s3, r1, r2, r3, s4, s5, w8, w9, ia, xa, pa, zn, zN, jn, jm, Bool.not_true, Bool.not_false, Bool.true_eq_false, Bool.false_eq_true, false_implies, true_implies, true_and, and_true, beq_self_eq_true, Bool.and_self, eq_self, decide_true, decide_false, luy_eq, lcy_eq, lsy_eq, ne_eq, not_false_eq_true, lvy_eq]
    all_goals (try (repeat' first | first | exact H1 _ _ _ _ _ _ _ _ | exact H2 _ _ _ _ _ _ _ _ | exact True.intro | exact rfl | apply And.intro | (intro _) | omega))
  · have hg := (Bool.not_eq_true _).mp hg
    simp only [hg, e2, e3, w6, w7, i1, t1, q1, q2, c1, c2, k1, k2, k3, k4, k5, b1, b2, l1, l2, l3, l4, l5, ha, hb, hc, Int.toNat_natCast, hkk, tn, cx, cy, s1, s2, s3, r1, r2, r3, s4, s5, w8, w9, ia, xa, pa, zn, zN, jn, jm, Bool.not_true, Bool.not_false, Bool.true_eq_false, Bool.false_eq_true, false_implies, true_implies, true_and, and_true, beq_self_eq_true, Bool.and_self, eq_self, decide_true, decide_false, luy_eq, lcy_eq, lsy_eq, ne_eq, not_false_eq_true, lvy_eq]
    simp only [VC_eq, zy8_vc, hg, e2, e3, w6, w7, i1, t1, q1, q2, c1, c2, k1, k2, k3, k4, k5, b1, b2, l1, l2, l3, l4, l5, ha, hb, hc, Int.toNat_natCast, hkk, tn, cx, cy, s1, s2, s3, r1, r2, r3, s4, s5, w8, w9, ia, xa, pa, zn, zN, jn, jm, Bool.not_true, Bool.not_false, Bool.true_eq_false, Bool.false_eq_true, false_implies, true_implies, true_and, and_true, beq_self_eq_true, Bool.and_self, eq_self, decide_true, decide_false, luy_eq, lcy_eq, lsy_eq, ne_eq, not_false_eq_true, lvy_eq]
    all_goals (try (repeat' first | first | exact H1 _ _ _ _ _ _ _ _ | exact H2 _ _ _ _ _ _ _ _ | exact True.intro | exact rfl | apply And.intro | (intro _) | omega))
theorem go_y {i x : Nat} (hi : i < 300) (d2 : x < num) (hf : metB cs off num x = true) (o0 : (ins cs off x).o ≠ 0) (g0 g1 g2 g3 g4 g5 g6 g7 : Int) (H : ∀ (y : Nat) (h0 h1 h2 h3 h4 h5 h6 h7 : Int), y ∈ toL cs off num x → Good Try.prog (boolR true) 1 (sy_F off num cs ty (i + 1 : Nat) num (y : Nat) h0 h1 h2 h3 h4 h5 h6 h7 (cod cs off num) (cnt (metB cs off num) num) (trR cs off num) (cnt (metB cs off num) num) ((cnt (metB cs off num) y : Nat) : Int) h0 h1 h2 h3 h4 h5 h6 h7 (cod (trR cs off num) 0 (cnt (metB cs off num) num))) (sy_M off num cs ty (i + 1 : Nat) num (y : Nat) h0 h1 h2 h3 h4 h5 h6 h7 (cod cs off num) (cnt (metB cs off num) num) (trR cs off num) (cnt (metB cs off num) num) ((cnt (metB cs off num) y : Nat) : Int) h0 h1 h2 h3 h4 h5 h6 h7 (cod (trR cs off num) 0 (cnt (metB cs off num) num)))) : Good Try.prog (boolR true) 1 (sy_F off num cs ty i num (x : Nat) g0 g1 g2 g3 g4 g5 g6 g7 (cod cs off num) (cnt (metB cs off num) num) (trR cs off num) (cnt (metB cs off num) num) ((cnt (metB cs off num) x : Nat) : Int) g0 g1 g2 g3 g4 g5 g6 g7 (cod (trR cs off num) 0 (cnt (metB cs off num) num))) (sy_M off num cs ty i num (x : Nat) g0 g1 g2 g3 g4 g5 g6 g7 (cod cs off num) (cnt (metB cs off num) num) (trR cs off num) (cnt (metB cs off num) num) ((cnt (metB cs off num) x : Nat) : Int) g0 g1 g2 g3 g4 g5 g6 g7 (cod (trR cs off num) 0 (cnt (metB cs off num) num))) := by
  have hA := (mayV_iff.1 hM).2 x d2
  obtain ⟨hok, _⟩ := Ins.okN_iff.1 hA
  have hin := (hI.2 x d2).2.1
  by_cases c : 16 < (ins cs off x).o ∧ (ins cs off x).o ≤ 38
  · have U : Good Try.prog (boolR true) 1 (uy_F off num cs ty i num (x : Nat) g0 g1 g2 g3 g4 g5 g6 g7 (cod cs off num) (cnt (metB cs off num) num) (trR cs off num) (cnt (metB cs off num) num) ((cnt (metB cs off num) x : Nat) : Int) g0 g1 g2 g3 g4 g5 g6 g7 (cod (trR cs off num) 0 (cnt (metB cs off num) num))) (uy_M off num cs ty i num (x : Nat) g0 g1 g2 g3 g4 g5 g6 g7 (cod cs off num) (cnt (metB cs off num) num) (trR cs off num) (cnt (metB cs off num) num) ((cnt (metB cs off num) x : Nat) : Int) g0 g1 g2 g3 g4 g5 g6 g7 (cod (trR cs off num) 0 (cnt (metB cs off num) num))) := vc_go (Fy_ok 2) (t := yy_t 2 off num cs ty i num (x : Nat) g0 g1 g2 g3 g4 g5 g6 g7 (cod cs off num) (cnt (metB cs off num) num) (trR cs off num) (cnt (metB cs off num) num) ((cnt (metB cs off num) x : Nat) : Int) g0 g1 g2 g3 g4 g5 g6 g7 (cod (trR cs off num) 0 (cnt (metB cs off num) num))) (by delta yy_t; exact rfl) (cy_y2 off num cs ty hI hM (fun i' k' nx' g0 g1 g2 g3 g4 g5 g6 g7 row' tk' ts' bk' ny' h0 h1 h2 h3 h4 h5 h6 h7 bow' => Good Try.prog (boolR true) 1 (sy_F off num cs ty i' k' nx' g0 g1 g2 g3 g4 g5 g6 g7 row' tk' ts' bk' ny' h0 h1 h2 h3 h4 h5 h6 h7 bow') (sy_M off num cs ty i' k' nx' g0 g1 g2 g3 g4 g5 g6 g7 row' tk' ts' bk' ny' h0 h1 h2 h3 h4 h5 h6 h7 bow')) hi d2 hf c g0 g1 g2 g3 g4 g5 g6 g7 H) (fun _ _ h => h)
      (fun fs m hb => yy_go (fun i' k' nx' g0 g1 g2 g3 g4 g5 g6 g7 row' tk' ts' bk' ny' h0 h1 h2 h3 h4 h5 h6 h7 bow' h => vc_go (Fy_ok 2) (t := zy_t 2 off num cs ty i' k' nx' g0 g1 g2 g3 g4 g5 g6 g7 row' tk' ts' bk' ny' h0 h1 h2 h3 h4 h5 h6 h7 bow') (by delta zy_t; exact rfl) h (fun _ _ h => h) (fun fs m hb => zy_go (fun _ _ _ _ _ _ _ _ _ _ _ _ _ _ _ _ _ _ _ _ _ _ _ _ _ h => h) hb)) hb)
    exact vc_go (Fy_ok 2) (t := xy_t 2 off num cs ty i num (x : Nat) g0 g1 g2 g3 g4 g5 g6 g7 (cod cs off num) (cnt (metB cs off num) num) (trR cs off num) (cnt (metB cs off num) num) ((cnt (metB cs off num) x : Nat) : Int) g0 g1 g2 g3 g4 g5 g6 g7 (cod (trR cs off num) 0 (cnt (metB cs off num) num))) (by delta xy_t; exact rfl) (cx_y2 off num cs ty hI hM (fun i' k' nx' g0 g1 g2 g3 g4 g5 g6 g7 row' tk' ts' bk' ny' h0 h1 h2 h3 h4 h5 h6 h7 bow' => Good Try.prog (boolR true) 1 (uy_F off num cs ty i' k' nx' g0 g1 g2 g3 g4 g5 g6 g7 row' tk' ts' bk' ny' h0 h1 h2 h3 h4 h5 h6 h7 bow') (uy_M off num cs ty i' k' nx' g0 g1 g2 g3 g4 g5 g6 g7 row' tk' ts' bk' ny' h0 h1 h2 h3 h4 h5 h6 h7 bow')) hi d2 hf c g0 g1 g2 g3 g4 g5 g6 g7 U) (fun _ _ h => h) (fun fs m hb => xy_go (fun _ _ _ _ _ _ _ _ _ _ _ _ _ _ _ _ _ _ _ _ _ _ _ _ _ h => h) hb)
  by_cases c : (ins cs off x).o = 1
  · have U : Good Try.prog (boolR true) 1 (uy_F off num cs ty i num (x : Nat) g0 g1 g2 g3 g4 g5 g6 g7 (cod cs off num) (cnt (metB cs off num) num) (trR cs off num) (cnt (metB cs off num) num) ((cnt (metB cs off num) x : Nat) : Int) g0 g1 g2 g3 g4 g5 g6 g7 (cod (trR cs off num) 0 (cnt (metB cs off num) num))) (uy_M off num cs ty i num (x : Nat) g0 g1 g2 g3 g4 g5 g6 g7 (cod cs off num) (cnt (metB cs off num) num) (trR cs off num) (cnt (metB cs off num) num) ((cnt (metB cs off num) x : Nat) : Int) g0 g1 g2 g3 g4 g5 g6 g7 (cod (trR cs off num) 0 (cnt (metB cs off num) num))) := vc_go (Fy_ok 3) (t := yy_t 3 off num cs ty i num (x : Nat) g0 g1 g2 g3 g4 g5 g6 g7 (cod cs off num) (cnt (metB cs off num) num) (trR cs off num) (cnt (metB cs off num) num) ((cnt (metB cs off num) x : Nat) : Int) g0 g1 g2 g3 g4 g5 g6 g7 (cod (trR cs off num) 0 (cnt (metB cs off num) num))) (by delta yy_t; exact rfl) (cy_y3 off num cs ty hI hM (fun i' k' nx' g0 g1 g2 g3 g4 g5 g6 g7 row' tk' ts' bk' ny' h0 h1 h2 h3 h4 h5 h6 h7 bow' => Good Try.prog (boolR true) 1 (sy_F off num cs ty i' k' nx' g0 g1 g2 g3 g4 g5 g6 g7 row' tk' ts' bk' ny' h0 h1 h2 h3 h4 h5 h6 h7 bow') (sy_M off num cs ty i' k' nx' g0 g1 g2 g3 g4 g5 g6 g7 row' tk' ts' bk' ny' h0 h1 h2 h3 h4 h5 h6 h7 bow')) hi d2 hf c g0 g1 g2 g3 g4 g5 g6 g7 H) (fun _ _ h => h)
      (fun fs m hb => yy_go (fun i' k' nx' g0 g1 g2 g3 g4 g5 g6 g7 row' tk' ts' bk' ny' h0 h1 h2 h3 h4 h5 h6 h7 bow' h => vc_go (Fy_ok 3) (t := zy_t 3 off num cs ty i' k' nx' g0 g1 g2 g3 g4 g5 g6 g7 row' tk' ts' bk' ny' h0 h1 h2 h3 h4 h5 h6 h7 bow') (by delta zy_t; exact rfl) h (fun _ _ h => h) (fun fs m hb => zy_go (fun _ _ _ _ _ _ _ _ _ _ _ _ _ _ _ _ _ _ _ _ _ _ _ _ _ h => h) hb)) hb)
    exact vc_go (Fy_ok 3) (t := xy_t 3 off num cs ty i num (x : Nat) g0 g1 g2 g3 g4 g5 g6 g7 (cod cs off num) (cnt (metB cs off num) num) (trR cs off num) (cnt (metB cs off num) num) ((cnt (metB cs off num) x : Nat) : Int) g0 g1 g2 g3 g4 g5 g6 g7 (cod (trR cs off num) 0 (cnt (metB cs off num) num))) (by delta xy_t; exact rfl) (cx_y3 off num cs ty hI hM (fun i' k' nx' g0 g1 g2 g3 g4 g5 g6 g7 row' tk' ts' bk' ny' h0 h1 h2 h3 h4 h5 h6 h7 bow' => Good Try.prog (boolR true) 1 (uy_F off num cs ty i' k' nx' g0 g1 g2 g3 g4 g5 g6 g7 row' tk' ts' bk' ny' h0 h1 h2 h3 h4 h5 h6 h7 bow') (uy_M off num cs ty i' k' nx' g0 g1 g2 g3 g4 g5 g6 g7 row' tk' ts' bk' ny' h0 h1 h2 h3 h4 h5 h6 h7 bow')) hi d2 hf c g0 g1 g2 g3 g4 g5 g6 g7 U) (fun _ _ h => h) (fun fs m hb => xy_go (fun _ _ _ _ _ _ _ _ _ _ _ _ _ _ _ _ _ _ _ _ _ _ _ _ _ h => h) hb)
  by_cases c : (ins cs off x).o = 2
  · have U : Good Try.prog (boolR true) 1 (uy_F off num cs ty i num (x : Nat) g0 g1 g2 g3 g4 g5 g6 g7 (cod cs off num) (cnt (metB cs off num) num) (trR cs off num) (cnt (metB cs off num) num) ((cnt (metB cs off num) x : Nat) : Int) g0 g1 g2 g3 g4 g5 g6 g7 (cod (trR cs off num) 0 (cnt (metB cs off num) num))) (uy_M off num cs ty i num (x : Nat) g0 g1 g2 g3 g4 g5 g6 g7 (cod cs off num) (cnt (metB cs off num) num) (trR cs off num) (cnt (metB cs off num) num) ((cnt (metB cs off num) x : Nat) : Int) g0 g1 g2 g3 g4 g5 g6 g7 (cod (trR cs off num) 0 (cnt (metB cs off num) num))) := vc_go (Fy_ok 4) (t := yy_t 4 off num cs ty i num (x : Nat) g0 g1 g2 g3 g4 g5 g6 g7 (cod cs off num) (cnt (metB cs off num) num) (trR cs off num) (cnt (metB cs off num) num) ((cnt (metB cs off num) x : Nat) : Int) g0 g1 g2 g3 g4 g5 g6 g7 (cod (trR cs off num) 0 (cnt (metB cs off num) num))) (by delta yy_t; exact rfl) (cy_y4 off num cs ty hI hM (fun i' k' nx' g0 g1 g2 g3 g4 g5 g6 g7 row' tk' ts' bk' ny' h0 h1 h2 h3 h4 h5 h6 h7 bow' => Good Try.prog (boolR true) 1 (sy_F off num cs ty i' k' nx' g0 g1 g2 g3 g4 g5 g6 g7 row' tk' ts' bk' ny' h0 h1 h2 h3 h4 h5 h6 h7 bow') (sy_M off num cs ty i' k' nx' g0 g1 g2 g3 g4 g5 g6 g7 row' tk' ts' bk' ny' h0 h1 h2 h3 h4 h5 h6 h7 bow')) hi d2 hf c g0 g1 g2 g3 g4 g5 g6 g7 H) (fun _ _ h => h)
      (fun fs m hb => yy_go (fun i' k' nx' g0 g1 g2 g3 g4 g5 g6 g7 row' tk' ts' bk' ny' h0 h1 h2 h3 h4 h5 h6 h7 bow' h => vc_go (Fy_ok 4) (t := zy_t 4 off num cs ty i' k' nx' g0 g1 g2 g3 g4 g5 g6 g7 row' tk' ts' bk' ny' h0 h1 h2 h3 h4 h5 h6 h7 bow') (by delta zy_t; exact rfl) h (fun _ _ h => h) (fun fs m hb => zy_go (fun _ _ _ _ _ _ _ _ _ _ _ _ _ _ _ _ _ _ _ _ _ _ _ _ _ h => h) hb)) hb)
    exact vc_go (Fy_ok 4) (t := xy_t 4 off num cs ty i num (x : Nat) g0 g1 g2 g3 g4 g5 g6 g7 (cod cs off num) (cnt (metB cs off num) num) (trR cs off num) (cnt (metB cs off num) num) ((cnt (metB cs off num) x : Nat) : Int) g0 g1 g2 g3 g4 g5 g6 g7 (cod (trR cs off num) 0 (cnt (metB cs off num) num))) (by delta xy_t; exact rfl) (cx_y4 off num cs ty hI hM (fun i' k' nx' g0 g1 g2 g3 g4 g5 g6 g7 row' tk' ts' bk' ny' h0 h1 h2 h3 h4 h5 h6 h7 bow' => Good Try.prog (boolR true) 1 (uy_F off num cs ty i' k' nx' g0 g1 g2 g3 g4 g5 g6 g7 row' tk' ts' bk' ny' h0 h1 h2 h3 h4 h5 h6 h7 bow') (uy_M off num cs ty i' k' nx' g0 g1 g2 g3 g4 g5 g6 g7 row' tk' ts' bk' ny' h0 h1 h2 h3 h4 h5 h6 h7 bow')) hi d2 hf c g0 g1 g2 g3 g4 g5 g6 g7 U) (fun _ _ h => h) (fun fs m hb => xy_go (fun _ _ _ _ _ _ _ _ _ _ _ _ _ _ _ _ _ _ _ _ _ _ _ _ _ h => h) hb)
  by_cases c : (ins cs off x).o = 3
  · have U : Good Try.prog (boolR true) 1 (uy_F off num cs ty i num (x : Nat) g0 g1 g2 g3 g4 g5 g6 g7 (cod cs off num) (cnt (metB cs off num) num) (trR cs off num) (cnt (metB cs off num) num) ((cnt (metB cs off num) x : Nat) : Int) g0 g1 g2 g3 g4 g5 g6 g7 (cod (trR cs off num) 0 (cnt (metB cs off num) num))) (uy_M off num cs ty i num (x : Nat) g0 g1 g2 g3 g4 g5 g6 g7 (cod cs off num) (cnt (metB cs off num) num) (trR cs off num) (cnt (metB cs off num) num) ((cnt (metB cs off num) x : Nat) : Int) g0 g1 g2 g3 g4 g5 g6 g7 (cod (trR cs off num) 0 (cnt (metB cs off num) num))) := vc_go (Fy_ok 5) (t := yy_t 5 off num cs ty i num (x : Nat) g0 g1 g2 g3 g4 g5 g6 g7 (cod cs off num) (cnt (metB cs off num) num) (trR cs off num) (cnt (metB cs off num) num) ((cnt (metB cs off num) x : Nat) : Int) g0 g1 g2 g3 g4 g5 g6 g7 (cod (trR cs off num) 0 (cnt (metB cs off num) num))) (by delta yy_t; exact rfl) (cy_y5 off num cs ty hI hM (fun i' k' nx' g0 g1 g2 g3 g4 g5 g6 g7 row' tk' ts' bk' ny' h0 h1 h2 h3 h4 h5 h6 h7 bow' => Good Try.prog (boolR true) 1 (sy_F off num cs ty i' k' nx' g0 g1 g2 g3 g4 g5 g6 g7 row' tk' ts' bk' ny' h0 h1 h2 h3 h4 h5 h6 h7 bow') (sy_M off num cs ty i' k' nx' g0 g1 g2 g3 g4 g5 g6 g7 row' tk' ts' bk' ny' h0 h1 h2 h3 h4 h5 h6 h7 bow')) hi d2 hf c g0 g1 g2 g3 g4 g5 g6 g7 H) (fun _ _ h => h)
      (fun fs m hb => yy_go (fun i' k' nx' g0 g1 g2 g3 g4 g5 g6 g7 row' tk' ts' bk' ny' h0 h1 h2 h3 h4 h5 h6 h7 bow' h => vc_go (Fy_ok 5) (t := zy_t 5 off num cs ty i' k' nx' g0 g1 g2 g3 g4 g5 g6 g7 row' tk' ts' bk' ny' h0 h1 h2 h3 h4 h5 h6 h7 bow') (by delta zy_t; exact rfl) h (fun _ _ h => h) (fun fs m hb => zy_go (fun _ _ _ _ _ _ _ _ _ _ _ _ _ _ _ _ _ _ _ _ _ _ _ _ _ h => h) hb)) hb)
    exact vc_go (Fy_ok 5) (t := xy_t 5 off num cs ty i num (x : Nat) g0 g1 g2 g3 g4 g5 g6 g7 (cod cs off num) (cnt (metB cs off num) num) (trR cs off num) (cnt (metB cs off num) num) ((cnt (metB cs off num) x : Nat) : Int) g0 g1 g2 g3 g4 g5 g6 g7 (cod (trR cs off num) 0 (cnt (metB cs off num) num))) (by delta xy_t; exact rfl) (cx_y5 off num cs ty hI hM (fun i' k' nx' g0 g1 g2 g3 g4 g5 g6 g7 row' tk' ts' bk' ny' h0 h1 h2 h3 h4 h5 h6 h7 bow' => Good Try.prog (boolR true) 1 (uy_F off num cs ty i' k' nx' g0 g1 g2 g3 g4 g5 g6 g7 row' tk' ts' bk' ny' h0 h1 h2 h3 h4 h5 h6 h7 bow') (uy_M off num cs ty i' k' nx' g0 g1 g2 g3 g4 g5 g6 g7 row' tk' ts' bk' ny' h0 h1 h2 h3 h4 h5 h6 h7 bow')) hi d2 hf c g0 g1 g2 g3 g4 g5 g6 g7 U) (fun _ _ h => h) (fun fs m hb => xy_go (fun _ _ _ _ _ _ _ _ _ _ _ _ _ _ _ _ _ _ _ _ _ _ _ _ _ h => h) hb)
  by_cases c : (ins cs off x).o = 4
  · have U : Good Try.prog (boolR true) 1 (uy_F off num cs ty i num (x : Nat) g0 g1 g2 g3 g4 g5 g6 g7 (cod cs off num) (cnt (metB cs off num) num) (trR cs off num) (cnt (metB cs off num) num) ((cnt (metB cs off num) x : Nat) : Int) g0 g1 g2 g3 g4 g5 g6 g7 (cod (trR cs off num) 0 (cnt (metB cs off num) num))) (uy_M off num cs ty i num (x : Nat) g0 g1 g2 g3 g4 g5 g6 g7 (cod cs off num) (cnt (metB cs off num) num) (trR cs off num) (cnt (metB cs off num) num) ((cnt (metB cs off num) x : Nat) : Int) g0 g1 g2 g3 g4 g5 g6 g7 (cod (trR cs off num) 0 (cnt (metB cs off num) num))) := vc_go (Fy_ok 6) (t := yy_t 6 off num cs ty i num (x : Nat) g0 g1 g2 g3 g4 g5 g6 g7 (cod cs off num) (cnt (metB cs off num) num) (trR cs off num) (cnt (metB cs off num) num) ((cnt (metB cs off num) x : Nat) : Int) g0 g1 g2 g3 g4 g5 g6 g7 (cod (trR cs off num) 0 (cnt (metB cs off num) num))) (by delta yy_t; exact rfl) (cy_y6 off num cs ty hI hM (fun i' k' nx' g0 g1 g2 g3 g4 g5 g6 g7 row' tk' ts' bk' ny' h0 h1 h2 h3 h4 h5 h6 h7 bow' => Good Try.prog (boolR true) 1 (sy_F off num cs ty i' k' nx' g0 g1 g2 g3 g4 g5 g6 g7 row' tk' ts' bk' ny' h0 h1 h2 h3 h4 h5 h6 h7 bow') (sy_M off num cs ty i' k' nx' g0 g1 g2 g3 g4 g5 g6 g7 row' tk' ts' bk' ny' h0 h1 h2 h3 h4 h5 h6 h7 bow')) hi d2 hf c g0 g1 g2 g3 g4 g5 g6 g7 H) (fun _ _ h => h)
      (fun fs m hb => yy_go (fun i' k' nx' g0 g1 g2 g3 g4 g5 g6 g7 row' tk' ts' bk' ny' h0 h1 h2 h3 h4 h5 h6 h7 bow' h => vc_go (Fy_ok 6) (t := zy_t 6 off num cs ty i' k' nx' g0 g1 g2 g3 g4 g5 g6 g7 row' tk' ts' bk' ny' h0 h1 h2 h3 h4 h5 h6 h7 bow') (by delta zy_t; exact rfl) h (fun _ _ h => h) (fun fs m hb => zy_go (fun _ _ _ _ _ _ _ _ _ _ _ _ _ _ _ _ _ _ _ _ _ _ _ _ _ h => h) hb)) hb)
    exact vc_go (Fy_ok 6) (t := xy_t 6 off num cs ty i num (x : Nat) g0 g1 g2 g3 g4 g5 g6 g7 (cod cs off num) (cnt (metB cs off num) num) (trR cs off num) (cnt (metB cs off num) num) ((cnt (metB cs off num) x : Nat) : Int) g0 g1 g2 g3 g4 g5 g6 g7 (cod (trR cs off num) 0 (cnt (metB cs off num) num))) (by delta xy_t; exact rfl) (cx_y6 off num cs ty hI hM (fun i' k' nx' g0 g1 g2 g3 g4 g5 g6 g7 row' tk' ts' bk' ny' h0 h1 h2 h3 h4 h5 h6 h7 bow' => Good Try.prog (boolR true) 1 (uy_F off num cs ty i' k' nx' g0 g1 g2 g3 g4 g5 g6 g7 row' tk' ts' bk' ny' h0 h1 h2 h3 h4 h5 h6 h7 bow') (uy_M off num cs ty i' k' nx' g0 g1 g2 g3 g4 g5 g6 g7 row' tk' ts' bk' ny' h0 h1 h2 h3 h4 h5 h6 h7 bow')) hi d2 hf c g0 g1 g2 g3 g4 g5 g6 g7 U) (fun _ _ h => h) (fun fs m hb => xy_go (fun _ _ _ _ _ _ _ _ _ _ _ _ _ _ _ _ _ _ _ _ _ _ _ _ _ h => h) hb)
  by_cases c : (ins cs off x).o = 5
  · have U : Good Try.prog (boolR true) 1 (uy_F off num cs ty i num (x : Nat) g0 g1 g2 g3 g4 g5 g6 g7 (cod cs off num) (cnt (metB cs off num) num) (trR cs off num) (cnt (metB cs off num) num) ((cnt (metB cs off num) x : Nat) : Int) g0 g1 g2 g3 g4 g5 g6 g7 (cod (trR cs off num) 0 (cnt (metB cs off num) num))) (uy_M off num cs ty i num (x : Nat) g0 g1 g2 g3 g4 g5 g6 g7 (cod cs off num) (cnt (metB cs off num) num) (trR cs off num) (cnt (metB cs off num) num) ((cnt (metB cs off num) x : Nat) : Int) g0 g1 g2 g3 g4 g5 g6 g7 (cod (trR cs off num) 0 (cnt (metB cs off num) num))) := vc_go (Fy_ok 7) (t := yy_t 7 off num cs ty i num (x : Nat) g0 g1 g2 g3 g4 g5 g6 g7 (cod cs off num) (cnt (metB cs off num) num) (trR cs off num) (cnt (metB cs off num) num) ((cnt (metB cs off num) x : Nat) : Int) g0 g1 g2 g3 g4 g5 g6 g7 (cod (trR cs off num) 0 (cnt (metB cs off num) num))) (by delta yy_t; exact rfl) (cy_y7 off num cs ty hI hM (fun i' k' nx' g0 g1 g2 g3 g4 g5 g6 g7 row' tk' ts' bk' ny' h0 h1 h2 h3 h4 h5 h6 h7 bow' => Good Try.prog (boolR true) 1 (sy_F off num cs ty i' k' nx' g0 g1 g2 g3 g4 g5 g6 g7 row' tk' ts' bk' ny' h0 h1 h2 h3 h4 h5 h6 h7 bow') (sy_M off num cs ty i' k' nx' g0 g1 g2 g3 g4 g5 g6 g7 row' tk' ts' bk' ny' h0 h1 h2 h3 h4 h5 h6 h7 bow')) hi d2 hf c g0 g1 g2 g3 g4 g5 g6 g7 H) (fun _ _ h => h)
      (fun fs m hb => yy_go (fun i' k' nx' g0 g1 g2 g3 g4 g5 g6 g7 row' tk' ts' bk' ny' h0 h1 h2 h3 h4 h5 h6 h7 bow' h => vc_go (Fy_ok 7) (t := zy_t 7 off num cs ty i' k' nx' g0 g1 g2 g3 g4 g5 g6 g7 row' tk' ts' bk' ny' h0 h1 h2 h3 h4 h5 h6 h7 bow') (by delta zy_t; exact rfl) h (fun _ _ h => h) (fun fs m hb => zy_go (fun _ _ _ _ _ _ _ _ _ _ _ _ _ _ _ _ _ _ _ _ _ _ _ _ _ h => h) hb)) hb)
    exact vc_go (Fy_ok 7) (t := xy_t 7 off num cs ty i num (x : Nat) g0 g1 g2 g3 g4 g5 g6 g7 (cod cs off num) (cnt (metB cs off num) num) (trR cs off num) (cnt (metB cs off num) num) ((cnt (metB cs off num) x : Nat) : Int) g0 g1 g2 g3 g4 g5 g6 g7 (cod (trR cs off num) 0 (cnt (metB cs off num) num))) (by delta xy_t; exact rfl) (cx_y7 off num cs ty hI hM (fun i' k' nx' g0 g1 g2 g3 g4 g5 g6 g7 row' tk' ts' bk' ny' h0 h1 h2 h3 h4 h5 h6 h7 bow' => Good Try.prog (boolR true) 1 (uy_F off num cs ty i' k' nx' g0 g1 g2 g3 g4 g5 g6 g7 row' tk' ts' bk' ny' h0 h1 h2 h3 h4 h5 h6 h7 bow') (uy_M off num cs ty i' k' nx' g0 g1 g2 g3 g4 g5 g6 g7 row' tk' ts' bk' ny' h0 h1 h2 h3 h4 h5 h6 h7 bow')) hi d2 hf c g0 g1 g2 g3 g4 g5 g6 g7 U) (fun _ _ h => h) (fun fs m hb => xy_go (fun _ _ _ _ _ _ _ _ _ _ _ _ _ _ _ _ _ _ _ _ _ _ _ _ _ h => h) hb)
  by_cases c : (ins cs off x).o = 6
  · have U : Good Try.prog (boolR true) 1 (uy_F off num cs ty i num (x : Nat) g0 g1 g2 g3 g4 g5 g6 g7 (cod cs off num) (cnt (metB cs off num) num) (trR cs off num) (cnt (metB cs off num) num) ((cnt (metB cs off num) x : Nat) : Int) g0 g1 g2 g3 g4 g5 g6 g7 (cod (trR cs off num) 0 (cnt (metB cs off num) num))) (uy_M off num cs ty i num (x : Nat) g0 g1 g2 g3 g4 g5 g6 g7 (cod cs off num) (cnt (metB cs off num) num) (trR cs off num) (cnt (metB cs off num) num) ((cnt (metB cs off num) x : Nat) : Int) g0 g1 g2 g3 g4 g5 g6 g7 (cod (trR cs off num) 0 (cnt (metB cs off num) num))) := vc_go (Fy_ok 8) (t := yy_t 8 off num cs ty i num (x : Nat) g0 g1 g2 g3 g4 g5 g6 g7 (cod cs off num) (cnt (metB cs off num) num) (trR cs off num) (cnt (metB cs off num) num) ((cnt (metB cs off num) x : Nat) : Int) g0 g1 g2 g3 g4 g5 g6 g7 (cod (trR cs off num) 0 (cnt (metB cs off num) num))) (by delta yy_t; exact rfl) (cy_y8 off num cs ty hI hM (fun i' k' nx' g0 g1 g2 g3 g4 g5 g6 g7 row' tk' ts' bk' ny' h0 h1 h2 h3 h4 h5 h6 h7 bow' => Good Try.prog (boolR true) 1 (sy_F off num cs ty i' k' nx' g0 g1 g2 g3 g4 g5 g6 g7 row' tk' ts' bk' ny' h0 h1 h2 h3 h4 h5 h6 h7 bow') (sy_M off num cs ty i' k' nx' g0 g1 g2 g3 g4 g5 g6 g7 row' tk' ts' bk' ny' h0 h1 h2 h3 h4 h5 h6 h7 bow')) hi d2 hf c g0 g1 g2 g3 g4 g5 g6 g7 H) (fun _ _ h => h)
      (fun fs m hb => yy_go (fun i' k' nx' g0 g1 g2 g3 g4 g5 g6 g7 row' tk' ts' bk' ny' h0 h1 h2 h3 h4 h5 h6 h7 bow' h => vc_go (Fy_ok 8) (t := zy_t 8 off num cs ty i' k' nx' g0 g1 g2 g3 g4 g5 g6 g7 row' tk' ts' bk' ny' h0 h1 h2 h3 h4 h5 h6 h7 bow') (by delta zy_t; exact rfl) h (fun _ _ h => h) (fun fs m hb => zy_go (fun _ _ _ _ _ _ _ _ _ _ _ _ _ _ _ _ _ _ _ _ _ _ _ _ _ h => h) hb)) hb)
    exact vc_go (Fy_ok 8) (t := xy_t 8 off num cs ty i num (x : Nat) g0 g1 g2 g3 g4 g5 g6 g7 (cod cs off num) (cnt (metB cs off num) num) (trR cs off num) (cnt (metB cs off num) num) ((cnt (metB cs off num) x : Nat) : Int) g0 g1 g2 g3 g4 g5 g6 g7 (cod (trR cs off num) 0 (cnt (metB cs off num) num))) (by delta xy_t; exact rfl) (cx_y8 off num cs ty hI hM (fun i' k' nx' g0 g1 g2 g3 g4 g5 g6 g7 row' tk' ts' bk' ny' h0 h1 h2 h3 h4 h5 h6 h7 bow' => Good Try.prog (boolR true) 1 (uy_F off num cs ty i' k' nx' g0 g1 g2 g3 g4 g5 g6 g7 row' tk' ts' bk' ny' h0 h1 h2 h3 h4 h5 h6 h7 bow') (uy_M off num cs ty i' k' nx' g0 g1 g2 g3 g4 g5 g6 g7 row' tk' ts' bk' ny' h0 h1 h2 h3 h4 h5 h6 h7 bow')) hi d2 hf c g0 g1 g2 g3 g4 g5 g6 g7 U) (fun _ _ h => h) (fun fs m hb => xy_go (fun _ _ _ _ _ _ _ _ _ _ _ _ _ _ _ _ _ _ _ _ _ _ _ _ _ h => h) hb)
  omega
theorem end_y {i x : Nat} (hx : x ≤ num) (hf : metB cs off num x = true) (h : 300 ≤ i ∨ num ≤ x ∨ (ins cs off x).o = 0) (g0 g1 g2 g3 g4 g5 g6 g7 : Int) : Good Try.prog (boolR true) 1 (sy_F off num cs ty i num (x : Nat) g0 g1 g2 g3 g4 g5 g6 g7 (cod cs off num) (cnt (metB cs off num) num) (trR cs off num) (cnt (metB cs off num) num) ((cnt (metB cs off num) x : Nat) : Int) g0 g1 g2 g3 g4 g5 g6 g7 (cod (trR cs off num) 0 (cnt (metB cs off num) num))) (sy_M off num cs ty i num (x : Nat) g0 g1 g2 g3 g4 g5 g6 g7 (cod cs off num) (cnt (metB cs off num) num) (trR cs off num) (cnt (metB cs off num) num) ((cnt (metB cs off num) x : Nat) : Int) g0 g1 g2 g3 g4 g5 g6 g7 (cod (trR cs off num) 0 (cnt (metB cs off num) num))) := by
  by_cases h' : 300 ≤ i ∨ num ≤ x
  · exact vc_go (Fy_ok 0) (t := xy_t 0 off num cs ty i num (x : Nat) g0 g1 g2 g3 g4 g5 g6 g7 (cod cs off num) (cnt (metB cs off num) num) (trR cs off num) (cnt (metB cs off num) num) ((cnt (metB cs off num) x : Nat) : Int) g0 g1 g2 g3 g4 g5 g6 g7 (cod (trR cs off num) 0 (cnt (metB cs off num) num))) (by delta xy_t; exact rfl) (cx_y0 off num cs ty hI hM (fun _ _ _ _ _ _ _ _ _ _ _ _ _ _ _ _ _ _ _ _ _ _ _ _ _ => False) h' hx g0 g1 g2 g3 g4 g5 g6 g7) (fun _ _ h => h) (fun fs m hb => xy_go (fun _ _ _ _ _ _ _ _ _ _ _ _ _ _ _ _ _ _ _ _ _ _ _ _ _ h => h.elim) hb)
  · exact vc_go (Fy_ok 1) (t := xy_t 1 off num cs ty i num (x : Nat) g0 g1 g2 g3 g4 g5 g6 g7 (cod cs off num) (cnt (metB cs off num) num) (trR cs off num) (cnt (metB cs off num) num) ((cnt (metB cs off num) x : Nat) : Int) g0 g1 g2 g3 g4 g5 g6 g7 (cod (trR cs off num) 0 (cnt (metB cs off num) num))) (by delta xy_t; exact rfl) (cx_y1 off num cs ty hI hM (fun _ _ _ _ _ _ _ _ _ _ _ _ _ _ _ _ _ _ _ _ _ _ _ _ _ => False) (by omega) (by omega) hf (by rcases h with h | h | h <;> first | exact h | exact (h' (.inl h)).elim | exact (h' (.inr h)).elim) g0 g1 g2 g3 g4 g5 g6 g7) (fun _ _ h => h) (fun fs m hb => xy_go (fun _ _ _ _ _ _ _ _ _ _ _ _ _ _ _ _ _ _ _ _ _ _ _ _ _ h => h.elim) hb)
theorem round_y : ∀ (K i x : Nat) (g0 g1 g2 g3 g4 g5 g6 g7 : Int), 300 - i < K → x ≤ num → metB cs off num x = true → Good Try.prog (boolR true) 1 (sy_F off num cs ty i num (x : Nat) g0 g1 g2 g3 g4 g5 g6 g7 (cod cs off num) (cnt (metB cs off num) num) (trR cs off num) (cnt (metB cs off num) num) ((cnt (metB cs off num) x : Nat) : Int) g0 g1 g2 g3 g4 g5 g6 g7 (cod (trR cs off num) 0 (cnt (metB cs off num) num))) (sy_M off num cs ty i num (x : Nat) g0 g1 g2 g3 g4 g5 g6 g7 (cod cs off num) (cnt (metB cs off num) num) (trR cs off num) (cnt (metB cs off num) num) ((cnt (metB cs off num) x : Nat) : Int) g0 g1 g2 g3 g4 g5 g6 g7 (cod (trR cs off num) 0 (cnt (metB cs off num) num))) := by
  intro K
  induction K with
  | zero => intro i x g0 g1 g2 g3 g4 g5 g6 g7 h; omega
  | succ K ih =>
    intro i x g0 g1 g2 g3 g4 g5 g6 g7 hK hx hf
    by_cases h : 300 ≤ i ∨ num ≤ x ∨ (ins cs off x).o = 0
    · exact end_y off num cs ty hI hM hx hf h g0 g1 g2 g3 g4 g5 g6 g7
    · have d1 : i < 300 := by omega
      have d2 : x < num := by omega
      have o0 : (ins cs off x).o ≠ 0 := fun e => h (.inr (.inr e))
      exact go_y off num cs ty hI hM d1 d2 hf o0 g0 g1 g2 g3 g4 g5 g6 g7 (fun y h0 h1 h2 h3 h4 h5 h6 h7 hy => ih (i + 1) y h0 h1 h2 h3 h4 h5 h6 h7 (by omega) (toL_le hI hM x (by omega) y hy) (met_to hI hM hf hy))
theorem cells_y : ∀ (K i : Nat), (cnt (metB cs off num) num) - i < K → Good Try.prog (boolR true) 1 (cy_F off num cs ty (i : Int) num 0 0 0 0 0 0 0 0 0 (cod cs off num) (cnt (metB cs off num) num) (trR cs off num) (cnt (metB cs off num) num) 0 0 0 0 0 0 0 0 0 (cod (trR cs off num) 0 (cnt (metB cs off num) num)) (cnt (metB cs off num) num) (trR cs off num)) (cy_M off num cs ty (i : Int) num 0 0 0 0 0 0 0 0 0 (cod cs off num) (cnt (metB cs off num) num) (trR cs off num) (cnt (metB cs off num) num) 0 0 0 0 0 0 0 0 0 (cod (trR cs off num) 0 (cnt (metB cs off num) num)) (cnt (metB cs off num) num) (trR cs off num)) := by
  intro K
  induction K with
  | zero => intro i h; omega
  | succ K ih =>
    intro i hK
    have n64 := (mayV_iff.1 hM).1
    have hle := cnt_le (metB cs off num) num
    refine past_vc (Fy_ok 0) 1000 (dy_vc off num cs ty i num 0 0 0 0 0 0 0 0 0 (cod cs off num) (cnt (metB cs off num) num) (trR cs off num) (cnt (metB cs off num) num) 0 0 0 0 0 0 0 0 0 (cod (trR cs off num) 0 (cnt (metB cs off num) num)) (cnt (metB cs off num) num) (trR cs off num) (fun i' k' nx' g0 g1 g2 g3 g4 g5 g6 g7 row' tk' ts' bk' ny' h0 h1 h2 h3 h4 h5 h6 h7 bow' uk' us' => Good Try.prog (boolR true) 1 (cy_F off num cs ty i' k' nx' g0 g1 g2 g3 g4 g5 g6 g7 row' tk' ts' bk' ny' h0 h1 h2 h3 h4 h5 h6 h7 bow' uk' us') (cy_M off num cs ty i' k' nx' g0 g1 g2 g3 g4 g5 g6 g7 row' tk' ts' bk' ny' h0 h1 h2 h3 h4 h5 h6 h7 bow' uk' us')) (fun i' k' nx' g0 g1 g2 g3 g4 g5 g6 g7 row' tk' ts' bk' ny' h0 h1 h2 h3 h4 h5 h6 h7 bow' => Good Try.prog (boolR true) 1 (sy_F off num cs ty i' k' nx' g0 g1 g2 g3 g4 g5 g6 g7 row' tk' ts' bk' ny' h0 h1 h2 h3 h4 h5 h6 h7 bow') (sy_M off num cs ty i' k' nx' g0 g1 g2 g3 g4 g5 g6 g7 row' tk' ts' bk' ny' h0 h1 h2 h3 h4 h5 h6 h7 bow'))) ?_ (fun _ _ h => h) (fun fs m hb => dy_go (fun _ _ _ _ _ _ _ _ _ _ _ _ _ _ _ _ _ _ _ _ _ _ _ _ _ _ _ h => h) (fun _ _ _ _ _ _ _ _ _ _ _ _ _ _ _ _ _ _ _ _ _ _ _ _ _ h => h) hb)
    rw [Int.toNat_natCast]
    by_cases hi : i < (cnt (metB cs off num) num)
    · have e1 : decide ((i : Int) < ((cnt (metB cs off num) num) : Int)) = true := decide_eq_true (by omega)
      have w : (0 : Int) ≤ (i : Int) ∧ (i : Int) < ((cnt (metB cs off num) num) : Int) := by omega
      obtain ⟨⟨i1, i2, i3, i4, i5⟩, _⟩ := (tr_ok hI hM).2 i hi
      have ia : ari BinOp.add IntKind.i64 (i : Int) 1 = ((i + 1 : Nat) : Int) := i64_add1 (by omega)
      simp only [e1, w, i1, i2, i3, i4, i5, ia, cy_d0_ok, Bool.not_true, Bool.not_false, Bool.true_eq_false, Bool.false_eq_true, false_implies, true_implies, true_and, and_true, beq_self_eq_true, Bool.and_self, eq_self, decide_true, decide_false, luy_eq, lcy_eq, lsy_eq]
      exact ih (i + 1) (by omega)
    · have e1 : decide ((i : Int) < ((cnt (metB cs off num) num) : Int)) = false := decide_eq_false (by omega)
      simp only [e1, sy_d0_ok, Bool.not_true, Bool.not_false, Bool.true_eq_false, Bool.false_eq_true, false_implies, true_implies, true_and, and_true, beq_self_eq_true, Bool.and_self, eq_self, decide_true, decide_false, luy_eq, lcy_eq, lsy_eq]
      exact round_y off num cs ty hI hM 301 0 0 0 0 0 0 0 0 0 0 (by omega) (Nat.zero_le _) ((met_iff hI hM).2 (.refl (by decide)))
end
theorem same_y (off num : Nat) (cs : Array Value) (ty : TypeId) (hI : num ≤ 200 → InsOk cs off num) (h0 : num ≠ 0) : Good Try.prog (boolR true) 1 [callFr 4 Try.f4.ntmps [prS off num, .s (.c (.f .e0))] (Try.f4.body.getD .skip)] (rawM cs ty) := by
  refine run_vc (Fy_ok 0) 8000 (by_vc off num cs ty (fun i' k' nx' g0 g1 g2 g3 g4 g5 g6 g7 row' tk' ts' bk' ny' h0 h1 h2 h3 h4 h5 h6 h7 bow' uk' us' => Good Try.prog (boolR true) 1 (cy_F off num cs ty i' k' nx' g0 g1 g2 g3 g4 g5 g6 g7 row' tk' ts' bk' ny' h0 h1 h2 h3 h4 h5 h6 h7 bow' uk' us') (cy_M off num cs ty i' k' nx' g0 g1 g2 g3 g4 g5 g6 g7 row' tk' ts' bk' ny' h0 h1 h2 h3 h4 h5 h6 h7 bow' uk' us'))) ?_ (fun _ _ h => h) (fun fs m hb => by_go (fun _ _ _ _ _ _ _ _ _ _ _ _ _ _ _ _ _ _ _ _ _ _ _ _ _ _ _ h => h) hb)
  by_cases h2 : num ≤ 200
  · have e1 : decide ((num : Int) > 200) = false := decide_eq_false (by omega)
    have hI := hI h2
    cases hM : mayV cs off num with
    | false => simp only [e1, hI, h0, hM, beqT, beqF, Bool.not_true, Bool.not_false, Bool.true_eq_false, Bool.false_eq_true, false_implies, true_implies, true_and, and_true, beq_self_eq_true, Bool.and_self, eq_self, decide_true, decide_false, luy_eq, lcy_eq, lsy_eq, ne_eq, not_false_eq_true]
    | true =>
      have a1 := tr_size hI hM
      have a2 := tr_ok hI hM
      have a3 := tr_may hI hM
      have hf0 : metB cs off num 0 = true := (met_iff hI hM).2 (.refl (by decide))
      have a4 : (cnt (metB cs off num) num) ≠ 0 := by have := cnt_lt hf0 (show 0 < num by omega); omega
      have a5 := tr_cnt hI hM (Nat.le_refl _)
      have a6 := tr_tr hI hM
      have C := cells_y off num cs ty hI hM 1000 0 (by have := cnt_le (metB cs off num) num; omega)
      simp only [e1, hI, h0, hM, a1, a2, a3, a4, a5, a6, bne_self_eq_false, beqT, beqF, cy_d0_ok, Bool.not_true, Bool.not_false, Bool.true_eq_false, Bool.false_eq_true, false_implies, true_implies, true_and, and_true, beq_self_eq_true, Bool.and_self, eq_self, decide_true, decide_false, luy_eq, lcy_eq, lsy_eq, ne_eq, not_false_eq_true]
      exact C
  · have e1 : decide ((num : Int) > 200) = true := decide_eq_true (by omega)
    simp only [e1, beqT, beqF, Bool.not_true, Bool.not_false, Bool.true_eq_false, Bool.false_eq_true, false_implies, true_implies, true_and, and_true, beq_self_eq_true, Bool.and_self, eq_self, decide_true, decide_false, luy_eq, lcy_eq, lsy_eq]
end Go.Proofs.Ytpohnmafnpnmeaa
