/- Of runs: the rounds of RunsOneWay's loops, as propositions. No condition. -/
import Derived.Test.YtebjigahnpjjiaaDoorMA
namespace Go.Proofs.YtebjigahnpjjiaaDoor
set_option maxRecDepth 100000
theorem ow_start_t (I : In) (F : Int) (Q1 : Int → Tk → Int → Prop) (Q2 : Int → Int → Tk → Int → Int → Int → Int → Prop) (Q3 : Int → Tk → Int → Prop) (Q4 : Rw → Int → Prop) (pg : Int) : (owR I true pg).vc okRet (nxO I true F ⟨Q1, Q2, Q3, Q4⟩ td1 td2 td3 td4) =
    (((decide ((↑(In.n1 I) : Int) > (60 : Int)) == false) = true → (decide ((↑(In.n2 I) : Int) > (200 : Int)) = true → True) ∧ (decide ((↑(In.n2 I) : Int) > (200 : Int)) = false → Q1 (uw (lowW (clampN (ari BinOp.rem IntKind.i64 (IntKind.wrap IntKind.i64 pg) (65 : Int))))) none (0 : Int) ∧ CallKind.normal = CallKind.normal ∧ TodoOk (ren 2 [(2, 2), (3, 3)]) td1 td1 ∧ In.o1 I = In.o1 I ∧ In.n1 I = In.n1 I ∧ Value.slice none (0 : Nat) (0 : Nat) = Value.slice none (0 : Nat) (0 : Nat) ∧ In.o2 I = In.o2 I ∧ In.n2 I = In.n2 I ∧ (0 : Int) = (0 : Int) ∧ In.ty I = In.ty I ∧ In.cs I = In.cs I ∧ In.tz I = In.tz I ∧ In.ds I = In.ds I ∧ SBlk.ty (one1 (uw (lowW (clampN (ari BinOp.rem IntKind.i64 (IntKind.wrap IntKind.i64 pg) (65 : Int)))))) = (26 : Nat) ∧ uw (lowW (clampN (ari BinOp.rem IntKind.i64 (IntKind.wrap IntKind.i64 pg) (65 : Int)))) = uw (lowW (clampN (ari BinOp.rem IntKind.i64 (IntKind.wrap IntKind.i64 pg) (65 : Int)))) ∧ SBlk.ty (one1 F) = (26 : Nat) ∧ F = uw (lowW (clampN (ari BinOp.rem IntKind.i64 (IntKind.wrap IntKind.i64 pg) (65 : Int)))) ∧ True)) ∧ ((decide ((↑(In.n1 I) : Int) > (60 : Int)) == false) = false → True)) := by kernel_rfl
theorem ow_nil_t (I : In) (F : Int) (Q1 : Int → Tk → Int → Prop) (Q2 : Int → Int → Tk → Int → Int → Int → Int → Prop) (Q3 : Int → Tk → Int → Prop) (Q4 : Rw → Int → Prop) (pg : Int) : (run EO4 1000 2 (owNil I true pg) (inN I true)).vc okRet (nxO I true F ⟨Q1, Q2, Q3, Q4⟩ td1 td2 td3 td4) =
    ((decide ((↑(In.n2 I) : Int) > (200 : Int)) = true → True) ∧ (decide ((↑(In.n2 I) : Int) > (200 : Int)) = false → (uw (wd (uw (lowW (clampN (ari BinOp.rem IntKind.i64 (IntKind.wrap IntKind.i64 pg) (65 : Int)))))) = uw (lowW (clampN (ari BinOp.rem IntKind.i64 (IntKind.wrap IntKind.i64 pg) (65 : Int)))) ∧ True) ∧ (decide (wd (uw (lowW (clampN (ari BinOp.rem IntKind.i64 (IntKind.wrap IntKind.i64 pg) (65 : Int))))) = BitVec.ofNat (64 : Nat) (0 : Nat)) = true → (uw (wd (uw (lowW (clampN (ari BinOp.rem IntKind.i64 (IntKind.wrap IntKind.i64 pg) (65 : Int)))))) = uw (lowW (clampN (ari BinOp.rem IntKind.i64 (IntKind.wrap IntKind.i64 pg) (65 : Int)))) ∧ True) ∧ (decide (wd (uw (lowW (clampN (ari BinOp.rem IntKind.i64 (IntKind.wrap IntKind.i64 pg) (65 : Int))))) = BitVec.ofNat (64 : Nat) (0 : Nat)) = true → Q4 none (0 : Int) ∧ CallKind.normal = CallKind.normal ∧ TodoOk (ren 2 []) td4 td4 ∧ Value.slice none (0 : Nat) (0 : Nat) = Value.slice none (0 : Nat) (0 : Nat) ∧ (0 : Int) = (0 : Int) ∧ Value.slice none (0 : Nat) (0 : Nat) = Value.slice none (0 : Nat) (0 : Nat) ∧ True) ∧ (decide (wd (uw (lowW (clampN (ari BinOp.rem IntKind.i64 (IntKind.wrap IntKind.i64 pg) (65 : Int))))) = BitVec.ofNat (64 : Nat) (0 : Nat)) = false → (((0 : Int) != (↑(runsN (wd (uw (lowW (clampN (ari BinOp.rem IntKind.i64 (IntKind.wrap IntKind.i64 pg) (65 : Int))))))) : Int)) = true → False) ∧ (((0 : Int) != (↑(runsN (wd (uw (lowW (clampN (ari BinOp.rem IntKind.i64 (IntKind.wrap IntKind.i64 pg) (65 : Int))))))) : Int)) = false → False))) ∧ (decide (wd (uw (lowW (clampN (ari BinOp.rem IntKind.i64 (IntKind.wrap IntKind.i64 pg) (65 : Int))))) = BitVec.ofNat (64 : Nat) (0 : Nat)) = false → (uw (wd (uw (lowW (clampN (ari BinOp.rem IntKind.i64 (IntKind.wrap IntKind.i64 pg) (65 : Int)))))) = uw (lowW (clampN (ari BinOp.rem IntKind.i64 (IntKind.wrap IntKind.i64 pg) (65 : Int)))) ∧ True) ∧ (decide (wd (uw (lowW (clampN (ari BinOp.rem IntKind.i64 (IntKind.wrap IntKind.i64 pg) (65 : Int))))) = BitVec.ofNat (64 : Nat) (0 : Nat)) = true → (((↑(runsN (wd (uw (lowW (clampN (ari BinOp.rem IntKind.i64 (IntKind.wrap IntKind.i64 pg) (65 : Int))))))) : Int) != (0 : Int)) = true → False) ∧ (((↑(runsN (wd (uw (lowW (clampN (ari BinOp.rem IntKind.i64 (IntKind.wrap IntKind.i64 pg) (65 : Int))))))) : Int) != (0 : Int)) = false → False)) ∧ (decide (wd (uw (lowW (clampN (ari BinOp.rem IntKind.i64 (IntKind.wrap IntKind.i64 pg) (65 : Int))))) = BitVec.ofNat (64 : Nat) (0 : Nat)) = false → (((↑(runsN (wd (uw (lowW (clampN (ari BinOp.rem IntKind.i64 (IntKind.wrap IntKind.i64 pg) (65 : Int))))))) : Int) != (↑(runsN (wd (uw (lowW (clampN (ari BinOp.rem IntKind.i64 (IntKind.wrap IntKind.i64 pg) (65 : Int))))))) : Int)) = true → False) ∧ (((↑(runsN (wd (uw (lowW (clampN (ari BinOp.rem IntKind.i64 (IntKind.wrap IntKind.i64 pg) (65 : Int))))))) : Int) != (↑(runsN (wd (uw (lowW (clampN (ari BinOp.rem IntKind.i64 (IntKind.wrap IntKind.i64 pg) (65 : Int))))))) : Int)) = false → Q4 (some ((runsN (wd (uw (lowW (clampN (ari BinOp.rem IntKind.i64 (IntKind.wrap IntKind.i64 pg) (65 : Int)))))), runsC (wd (uw (lowW (clampN (ari BinOp.rem IntKind.i64 (IntKind.wrap IntKind.i64 pg) (65 : Int))))))), runsN (wd (uw (lowW (clampN (ari BinOp.rem IntKind.i64 (IntKind.wrap IntKind.i64 pg) (65 : Int)))))), runsC (wd (uw (lowW (clampN (ari BinOp.rem IntKind.i64 (IntKind.wrap IntKind.i64 pg) (65 : Int)))))))) (0 : Int) ∧ CallKind.normal = CallKind.normal ∧ TodoOk (ren 2 [(2, 4), (3, 5)]) td4 td4 ∧ runsN (wd (uw (lowW (clampN (ari BinOp.rem IntKind.i64 (IntKind.wrap IntKind.i64 pg) (65 : Int)))))) = runsN (wd (uw (lowW (clampN (ari BinOp.rem IntKind.i64 (IntKind.wrap IntKind.i64 pg) (65 : Int)))))) ∧ (0 : Int) = (0 : Int) ∧ runsN (wd (uw (lowW (clampN (ari BinOp.rem IntKind.i64 (IntKind.wrap IntKind.i64 pg) (65 : Int)))))) = runsN (wd (uw (lowW (clampN (ari BinOp.rem IntKind.i64 (IntKind.wrap IntKind.i64 pg) (65 : Int)))))) ∧ (50 : TypeId) = (50 : TypeId) ∧ runsC (wd (uw (lowW (clampN (ari BinOp.rem IntKind.i64 (IntKind.wrap IntKind.i64 pg) (65 : Int)))))) = runsC (wd (uw (lowW (clampN (ari BinOp.rem IntKind.i64 (IntKind.wrap IntKind.i64 pg) (65 : Int)))))) ∧ (50 : TypeId) = (50 : TypeId) ∧ runsC (wd (uw (lowW (clampN (ari BinOp.rem IntKind.i64 (IntKind.wrap IntKind.i64 pg) (65 : Int)))))) = runsC (wd (uw (lowW (clampN (ari BinOp.rem IntKind.i64 (IntKind.wrap IntKind.i64 pg) (65 : Int)))))) ∧ True))))) := by kernel_rfl
theorem ow1_tn (I : In) (F : Int) (Q1 : Int → Tk → Int → Prop) (Q2 : Int → Int → Tk → Int → Int → Int → Int → Prop) (Q3 : Int → Tk → Int → Prop) (Q4 : Rw → Int → Prop) (x i : Int) : (st1 th1 I true F x none i).vc okRet (nxO I true F ⟨Q1, Q2, Q3, Q4⟩ th1 td2 td3 td4) =
    ((decide (i < (↑(In.n1 I) : Int)) = true → (((0 : Int) ≤ i ∧ i < (↑(In.n1 I) : Int)) ∧ True) ∧ (IsInt IntKind.u8 (In.cs I) (In.o1 I + Int.toNat i * 1) ∧ True) ∧ (uw (wd x) = x ∧ True) ∧ ((!findOk (wd x) (ari BinOp.add IntKind.i64 (1 : Int) (ari BinOp.rem IntKind.i64 (IntKind.wrap IntKind.i64 (intAt (In.cs I) (In.o1 I + Int.toNat i * 1))) (8 : Int)))) = true → Q1 x none (ari BinOp.add IntKind.i64 i (1 : Int)) ∧ CallKind.normal = CallKind.normal ∧ TodoOk (ren 2 [(2, 2), (3, 3)]) th1 th1 ∧ In.o1 I = In.o1 I ∧ In.n1 I = In.n1 I ∧ Value.slice none (0 : Nat) (0 : Nat) = Value.slice none (0 : Nat) (0 : Nat) ∧ In.o2 I = In.o2 I ∧ In.n2 I = In.n2 I ∧ ari BinOp.add IntKind.i64 i (1 : Int) = ari BinOp.add IntKind.i64 i (1 : Int) ∧ In.ty I = In.ty I ∧ In.cs I = In.cs I ∧ In.tz I = In.tz I ∧ In.ds I = In.ds I ∧ SBlk.ty (one1 x) = SBlk.ty (one1 x) ∧ x = x ∧ SBlk.ty (one1 F) = SBlk.ty (one1 F) ∧ F = F ∧ True) ∧ ((!findOk (wd x) (ari BinOp.add IntKind.i64 (1 : Int) (ari BinOp.rem IntKind.i64 (IntKind.wrap IntKind.i64 (intAt (In.cs I) (In.o1 I + Int.toNat i * 1))) (8 : Int)))) = false → (uw (wd x) = x ∧ True) ∧ (((!takeOk (wd x) (findI (wd x) (ari BinOp.add IntKind.i64 (1 : Int) (ari BinOp.rem IntKind.i64 (IntKind.wrap IntKind.i64 (intAt (In.cs I) (In.o1 I + Int.toNat i * 1))) (8 : Int)))) (ari BinOp.add IntKind.i64 (1 : Int) (ari BinOp.rem IntKind.i64 (IntKind.wrap IntKind.i64 (intAt (In.cs I) (In.o1 I + Int.toNat i * 1))) (8 : Int)))) == false) = true → (((ocI (uw (takeW (wd x) (findI (wd x) (ari BinOp.add IntKind.i64 (1 : Int) (ari BinOp.rem IntKind.i64 (IntKind.wrap IntKind.i64 (intAt (In.cs I) (In.o1 I + Int.toNat i * 1))) (8 : Int)))) (ari BinOp.add IntKind.i64 (1 : Int) (ari BinOp.rem IntKind.i64 (IntKind.wrap IntKind.i64 (intAt (In.cs I) (In.o1 I + Int.toNat i * 1))) (8 : Int))))) != ari BinOp.sub IntKind.i64 (ocI x) (ari BinOp.add IntKind.i64 (1 : Int) (ari BinOp.rem IntKind.i64 (IntKind.wrap IntKind.i64 (intAt (In.cs I) (In.o1 I + Int.toNat i * 1))) (8 : Int)))) == false) = true → ((ari BinOp.and IntKind.u64 (uw (takeW (wd x) (findI (wd x) (ari BinOp.add IntKind.i64 (1 : Int) (ari BinOp.rem IntKind.i64 (IntKind.wrap IntKind.i64 (intAt (In.cs I) (In.o1 I + Int.toNat i * 1))) (8 : Int)))) (ari BinOp.add IntKind.i64 (1 : Int) (ari BinOp.rem IntKind.i64 (IntKind.wrap IntKind.i64 (intAt (In.cs I) (In.o1 I + Int.toNat i * 1))) (8 : Int))))) x != uw (takeW (wd x) (findI (wd x) (ari BinOp.add IntKind.i64 (1 : Int) (ari BinOp.rem IntKind.i64 (IntKind.wrap IntKind.i64 (intAt (In.cs I) (In.o1 I + Int.toNat i * 1))) (8 : Int)))) (ari BinOp.add IntKind.i64 (1 : Int) (ari BinOp.rem IntKind.i64 (IntKind.wrap IntKind.i64 (intAt (In.cs I) (In.o1 I + Int.toNat i * 1))) (8 : Int))))) = true → False) ∧ ((ari BinOp.and IntKind.u64 (uw (takeW (wd x) (findI (wd x) (ari BinOp.add IntKind.i64 (1 : Int) (ari BinOp.rem IntKind.i64 (IntKind.wrap IntKind.i64 (intAt (In.cs I) (In.o1 I + Int.toNat i * 1))) (8 : Int)))) (ari BinOp.add IntKind.i64 (1 : Int) (ari BinOp.rem IntKind.i64 (IntKind.wrap IntKind.i64 (intAt (In.cs I) (In.o1 I + Int.toNat i * 1))) (8 : Int))))) x != uw (takeW (wd x) (findI (wd x) (ari BinOp.add IntKind.i64 (1 : Int) (ari BinOp.rem IntKind.i64 (IntKind.wrap IntKind.i64 (intAt (In.cs I) (In.o1 I + Int.toNat i * 1))) (8 : Int)))) (ari BinOp.add IntKind.i64 (1 : Int) (ari BinOp.rem IntKind.i64 (IntKind.wrap IntKind.i64 (intAt (In.cs I) (In.o1 I + Int.toNat i * 1))) (8 : Int))))) = false → Q2 x (uw (takeW (wd x) (findI (wd x) (ari BinOp.add IntKind.i64 (1 : Int) (ari BinOp.rem IntKind.i64 (IntKind.wrap IntKind.i64 (intAt (In.cs I) (In.o1 I + Int.toNat i * 1))) (8 : Int)))) (ari BinOp.add IntKind.i64 (1 : Int) (ari BinOp.rem IntKind.i64 (IntKind.wrap IntKind.i64 (intAt (In.cs I) (In.o1 I + Int.toNat i * 1))) (8 : Int))))) none i (ari BinOp.add IntKind.i64 (1 : Int) (ari BinOp.rem IntKind.i64 (IntKind.wrap IntKind.i64 (intAt (In.cs I) (In.o1 I + Int.toNat i * 1))) (8 : Int))) (findI (wd x) (ari BinOp.add IntKind.i64 (1 : Int) (ari BinOp.rem IntKind.i64 (IntKind.wrap IntKind.i64 (intAt (In.cs I) (In.o1 I + Int.toNat i * 1))) (8 : Int)))) (findI (wd x) (ari BinOp.add IntKind.i64 (1 : Int) (ari BinOp.rem IntKind.i64 (IntKind.wrap IntKind.i64 (intAt (In.cs I) (In.o1 I + Int.toNat i * 1))) (8 : Int)))) ∧ CallKind.normal = CallKind.normal ∧ TodoOk (ren 2 [(2, 2), (3, 3), (5, 6)]) td2 td2 ∧ In.o1 I = In.o1 I ∧ In.n1 I = In.n1 I ∧ ari BinOp.add IntKind.i64 (1 : Int) (ari BinOp.rem IntKind.i64 (IntKind.wrap IntKind.i64 (intAt (In.cs I) (In.o1 I + Int.toNat i * 1))) (8 : Int)) = ari BinOp.add IntKind.i64 (1 : Int) (ari BinOp.rem IntKind.i64 (IntKind.wrap IntKind.i64 (intAt (In.cs I) (In.o1 I + Int.toNat i * 1))) (8 : Int)) ∧ Value.slice none (0 : Nat) (0 : Nat) = Value.slice none (0 : Nat) (0 : Nat) ∧ In.o2 I = In.o2 I ∧ In.n2 I = In.n2 I ∧ findI (wd x) (ari BinOp.add IntKind.i64 (1 : Int) (ari BinOp.rem IntKind.i64 (IntKind.wrap IntKind.i64 (intAt (In.cs I) (In.o1 I + Int.toNat i * 1))) (8 : Int))) = findI (wd x) (ari BinOp.add IntKind.i64 (1 : Int) (ari BinOp.rem IntKind.i64 (IntKind.wrap IntKind.i64 (intAt (In.cs I) (In.o1 I + Int.toNat i * 1))) (8 : Int))) ∧ findI (wd x) (ari BinOp.add IntKind.i64 (1 : Int) (ari BinOp.rem IntKind.i64 (IntKind.wrap IntKind.i64 (intAt (In.cs I) (In.o1 I + Int.toNat i * 1))) (8 : Int))) = findI (wd x) (ari BinOp.add IntKind.i64 (1 : Int) (ari BinOp.rem IntKind.i64 (IntKind.wrap IntKind.i64 (intAt (In.cs I) (In.o1 I + Int.toNat i * 1))) (8 : Int))) ∧ i = i ∧ In.ty I = In.ty I ∧ In.cs I = In.cs I ∧ In.tz I = In.tz I ∧ In.ds I = In.ds I ∧ SBlk.ty (one1 x) = SBlk.ty (one1 x) ∧ x = x ∧ SBlk.ty (one1 (uw (takeW (wd x) (findI (wd x) (ari BinOp.add IntKind.i64 (1 : Int) (ari BinOp.rem IntKind.i64 (IntKind.wrap IntKind.i64 (intAt (In.cs I) (In.o1 I + Int.toNat i * 1))) (8 : Int)))) (ari BinOp.add IntKind.i64 (1 : Int) (ari BinOp.rem IntKind.i64 (IntKind.wrap IntKind.i64 (intAt (In.cs I) (In.o1 I + Int.toNat i * 1))) (8 : Int)))))) = (26 : Nat) ∧ uw (takeW (wd x) (findI (wd x) (ari BinOp.add IntKind.i64 (1 : Int) (ari BinOp.rem IntKind.i64 (IntKind.wrap IntKind.i64 (intAt (In.cs I) (In.o1 I + Int.toNat i * 1))) (8 : Int)))) (ari BinOp.add IntKind.i64 (1 : Int) (ari BinOp.rem IntKind.i64 (IntKind.wrap IntKind.i64 (intAt (In.cs I) (In.o1 I + Int.toNat i * 1))) (8 : Int)))) = uw (takeW (wd x) (findI (wd x) (ari BinOp.add IntKind.i64 (1 : Int) (ari BinOp.rem IntKind.i64 (IntKind.wrap IntKind.i64 (intAt (In.cs I) (In.o1 I + Int.toNat i * 1))) (8 : Int)))) (ari BinOp.add IntKind.i64 (1 : Int) (ari BinOp.rem IntKind.i64 (IntKind.wrap IntKind.i64 (intAt (In.cs I) (In.o1 I + Int.toNat i * 1))) (8 : Int)))) ∧ SBlk.ty (one1 F) = SBlk.ty (one1 F) ∧ F = F ∧ True)) ∧ (((ocI (uw (takeW (wd x) (findI (wd x) (ari BinOp.add IntKind.i64 (1 : Int) (ari BinOp.rem IntKind.i64 (IntKind.wrap IntKind.i64 (intAt (In.cs I) (In.o1 I + Int.toNat i * 1))) (8 : Int)))) (ari BinOp.add IntKind.i64 (1 : Int) (ari BinOp.rem IntKind.i64 (IntKind.wrap IntKind.i64 (intAt (In.cs I) (In.o1 I + Int.toNat i * 1))) (8 : Int))))) != ari BinOp.sub IntKind.i64 (ocI x) (ari BinOp.add IntKind.i64 (1 : Int) (ari BinOp.rem IntKind.i64 (IntKind.wrap IntKind.i64 (intAt (In.cs I) (In.o1 I + Int.toNat i * 1))) (8 : Int)))) == false) = false → False)) ∧ (((!takeOk (wd x) (findI (wd x) (ari BinOp.add IntKind.i64 (1 : Int) (ari BinOp.rem IntKind.i64 (IntKind.wrap IntKind.i64 (intAt (In.cs I) (In.o1 I + Int.toNat i * 1))) (8 : Int)))) (ari BinOp.add IntKind.i64 (1 : Int) (ari BinOp.rem IntKind.i64 (IntKind.wrap IntKind.i64 (intAt (In.cs I) (In.o1 I + Int.toNat i * 1))) (8 : Int)))) == false) = false → False))) ∧ (decide (i < (↑(In.n1 I) : Int)) = false → Q3 x none (0 : Int) ∧ CallKind.normal = CallKind.normal ∧ TodoOk (ren 2 [(2, 2), (3, 3)]) td3 td3 ∧ Value.slice none (0 : Nat) (0 : Nat) = Value.slice none (0 : Nat) (0 : Nat) ∧ (0 : Int) = (0 : Int) ∧ In.o2 I = In.o2 I ∧ In.n2 I = In.n2 I ∧ In.ty I = In.ty I ∧ In.cs I = In.cs I ∧ In.tz I = In.tz I ∧ In.ds I = In.ds I ∧ SBlk.ty (one1 x) = SBlk.ty (one1 x) ∧ x = x ∧ SBlk.ty (one1 F) = SBlk.ty (one1 F) ∧ F = F ∧ True)) := by kernel_rfl
theorem ow2_tn (I : In) (F : Int) (Q1 : Int → Tk → Int → Prop) (Q2 : Int → Int → Tk → Int → Int → Int → Int → Prop) (Q3 : Int → Tk → Int → Prop) (Q4 : Rw → Int → Prop) (x y i n a k : Int) : (st2 th2 I true F x y none i n a k).vc okRet (nxO I true F ⟨Q1, Q2, Q3, Q4⟩ th1 th2 td3 td4) =
    ((decide (k < ari BinOp.add IntKind.i64 a n) = true → (uw (wd x) = x ∧ True) ∧ (((!(decide ((0 : Int) ≤ k) && BitVec.getLsbD (wd x) (Int.toNat k))) == false) = true → (uw (wd y) = y ∧ True) ∧ ((decide ((0 : Int) ≤ k) && BitVec.getLsbD (wd y) (Int.toNat k)) = true → False) ∧ ((decide ((0 : Int) ≤ k) && BitVec.getLsbD (wd y) (Int.toNat k)) = false → Q2 x y (some ((1 : Nat), #[Value.int IntKind.i64 k])) i n a (ari BinOp.add IntKind.i64 k (1 : Int)) ∧ CallKind.normal = CallKind.normal ∧ TodoOk (ren 2 [(2, 2), (3, 3), (5, 5), (4, 7)]) th2 th2 ∧ In.o1 I = In.o1 I ∧ In.n1 I = In.n1 I ∧ n = n ∧ (1 : Nat) = (1 : Nat) ∧ In.o2 I = In.o2 I ∧ In.n2 I = In.n2 I ∧ ari BinOp.add IntKind.i64 k (1 : Int) = ari BinOp.add IntKind.i64 k (1 : Int) ∧ a = a ∧ i = i ∧ In.ty I = In.ty I ∧ In.cs I = In.cs I ∧ In.tz I = In.tz I ∧ In.ds I = In.ds I ∧ SBlk.ty (one1 x) = SBlk.ty (one1 x) ∧ x = x ∧ SBlk.ty (one1 y) = SBlk.ty (one1 y) ∧ y = y ∧ SBlk.ty (one1 F) = SBlk.ty (one1 F) ∧ F = F ∧ (3 : TypeId) = (3 : Nat) ∧ #[Value.int IntKind.i64 k] = #[Value.int IntKind.i64 k] ∧ True)) ∧ (((!(decide ((0 : Int) ≤ k) && BitVec.getLsbD (wd x) (Int.toNat k))) == false) = false → False)) ∧ (decide (k < ari BinOp.add IntKind.i64 a n) = false → Q1 y none (ari BinOp.add IntKind.i64 i (1 : Int)) ∧ CallKind.normal = CallKind.normal ∧ TodoOk (ren 2 [(2, 2), (3, 3)]) th1 th1 ∧ In.o1 I = In.o1 I ∧ In.n1 I = In.n1 I ∧ Value.slice none (0 : Nat) (0 : Nat) = Value.slice none (0 : Nat) (0 : Nat) ∧ In.o2 I = In.o2 I ∧ In.n2 I = In.n2 I ∧ ari BinOp.add IntKind.i64 i (1 : Int) = ari BinOp.add IntKind.i64 i (1 : Int) ∧ In.ty I = In.ty I ∧ In.cs I = In.cs I ∧ In.tz I = In.tz I ∧ In.ds I = In.ds I ∧ SBlk.ty (one1 y) = SBlk.ty (one1 x) ∧ y = y ∧ SBlk.ty (one1 F) = SBlk.ty (one1 F) ∧ F = F ∧ True)) := by kernel_rfl
theorem ow3_tn (I : In) (F : Int) (Q1 : Int → Tk → Int → Prop) (Q2 : Int → Int → Tk → Int → Int → Int → Int → Prop) (Q3 : Int → Tk → Int → Prop) (Q4 : Rw → Int → Prop) (x i : Int) : (st3 th3 I true F x none i).vc okRet (nxO I true F ⟨Q1, Q2, Q3, Q4⟩ th1 th2 th3 td4) =
    ((uw (wd x) = x ∧ True) ∧ (decide (wd x = BitVec.ofNat (64 : Nat) (0 : Nat)) = true → (uw (wd F) = F ∧ True) ∧ (decide (wd F = BitVec.ofNat (64 : Nat) (0 : Nat)) = true → Q4 none (0 : Int) ∧ CallKind.normal = CallKind.normal ∧ TodoOk (ren 2 []) td4 td4 ∧ Value.slice none (0 : Nat) (0 : Nat) = Value.slice none (0 : Nat) (0 : Nat) ∧ (0 : Int) = (0 : Int) ∧ Value.slice none (0 : Nat) (0 : Nat) = Value.slice none (0 : Nat) (0 : Nat) ∧ True) ∧ (decide (wd F = BitVec.ofNat (64 : Nat) (0 : Nat)) = false → (((0 : Int) != (↑(runsN (wd F)) : Int)) = true → False) ∧ (((0 : Int) != (↑(runsN (wd F)) : Int)) = false → False))) ∧ (decide (wd x = BitVec.ofNat (64 : Nat) (0 : Nat)) = false → (uw (wd F) = F ∧ True) ∧ (decide (wd F = BitVec.ofNat (64 : Nat) (0 : Nat)) = true → (((↑(runsN (wd x)) : Int) != (0 : Int)) = true → False) ∧ (((↑(runsN (wd x)) : Int) != (0 : Int)) = false → False)) ∧ (decide (wd F = BitVec.ofNat (64 : Nat) (0 : Nat)) = false → (((↑(runsN (wd x)) : Int) != (↑(runsN (wd F)) : Int)) = true → False) ∧ (((↑(runsN (wd x)) : Int) != (↑(runsN (wd F)) : Int)) = false → Q4 (some ((runsN (wd x), runsC (wd x)), runsN (wd F), runsC (wd F))) (0 : Int) ∧ CallKind.normal = CallKind.normal ∧ TodoOk (ren 2 [(2, 6), (3, 7)]) td4 td4 ∧ runsN (wd x) = runsN (wd x) ∧ (0 : Int) = (0 : Int) ∧ runsN (wd F) = runsN (wd F) ∧ (50 : TypeId) = (50 : TypeId) ∧ runsC (wd F) = runsC (wd F) ∧ (50 : TypeId) = (50 : TypeId) ∧ runsC (wd x) = runsC (wd x) ∧ True)))) := by kernel_rfl
theorem ow1_ts (I : In) (F : Int) (Q1 : Int → Tk → Int → Prop) (Q2 : Int → Int → Tk → Int → Int → Int → Int → Prop) (Q3 : Int → Tk → Int → Prop) (Q4 : Rw → Int → Prop) (x i : Int) (kt : Nat) (ts : Array Value) : (st1 th1 I true F x (some (kt, ts)) i).vc okRet (nxO I true F ⟨Q1, Q2, Q3, Q4⟩ th1 td2 td3 td4) =
    ((decide (i < (↑(In.n1 I) : Int)) = true → (((0 : Int) ≤ i ∧ i < (↑(In.n1 I) : Int)) ∧ True) ∧ (IsInt IntKind.u8 (In.cs I) (In.o1 I + Int.toNat i * 1) ∧ True) ∧ (uw (wd x) = x ∧ True) ∧ ((!findOk (wd x) (ari BinOp.add IntKind.i64 (1 : Int) (ari BinOp.rem IntKind.i64 (IntKind.wrap IntKind.i64 (intAt (In.cs I) (In.o1 I + Int.toNat i * 1))) (8 : Int)))) = true → Q1 x (some (kt, ts)) (ari BinOp.add IntKind.i64 i (1 : Int)) ∧ CallKind.normal = CallKind.normal ∧ TodoOk (ren 2 [(2, 2), (3, 3), (4, 4)]) th1 th1 ∧ In.o1 I = In.o1 I ∧ In.n1 I = In.n1 I ∧ kt = kt ∧ In.o2 I = In.o2 I ∧ In.n2 I = In.n2 I ∧ ari BinOp.add IntKind.i64 i (1 : Int) = ari BinOp.add IntKind.i64 i (1 : Int) ∧ In.ty I = In.ty I ∧ In.cs I = In.cs I ∧ In.tz I = In.tz I ∧ In.ds I = In.ds I ∧ SBlk.ty (one1 x) = SBlk.ty (one1 x) ∧ x = x ∧ SBlk.ty (one1 F) = SBlk.ty (one1 F) ∧ F = F ∧ (3 : TypeId) = (3 : TypeId) ∧ ts = ts ∧ True) ∧ ((!findOk (wd x) (ari BinOp.add IntKind.i64 (1 : Int) (ari BinOp.rem IntKind.i64 (IntKind.wrap IntKind.i64 (intAt (In.cs I) (In.o1 I + Int.toNat i * 1))) (8 : Int)))) = false → (uw (wd x) = x ∧ True) ∧ (((!takeOk (wd x) (findI (wd x) (ari BinOp.add IntKind.i64 (1 : Int) (ari BinOp.rem IntKind.i64 (IntKind.wrap IntKind.i64 (intAt (In.cs I) (In.o1 I + Int.toNat i * 1))) (8 : Int)))) (ari BinOp.add IntKind.i64 (1 : Int) (ari BinOp.rem IntKind.i64 (IntKind.wrap IntKind.i64 (intAt (In.cs I) (In.o1 I + Int.toNat i * 1))) (8 : Int)))) == false) = true → (((ocI (uw (takeW (wd x) (findI (wd x) (ari BinOp.add IntKind.i64 (1 : Int) (ari BinOp.rem IntKind.i64 (IntKind.wrap IntKind.i64 (intAt (In.cs I) (In.o1 I + Int.toNat i * 1))) (8 : Int)))) (ari BinOp.add IntKind.i64 (1 : Int) (ari BinOp.rem IntKind.i64 (IntKind.wrap IntKind.i64 (intAt (In.cs I) (In.o1 I + Int.toNat i * 1))) (8 : Int))))) != ari BinOp.sub IntKind.i64 (ocI x) (ari BinOp.add IntKind.i64 (1 : Int) (ari BinOp.rem IntKind.i64 (IntKind.wrap IntKind.i64 (intAt (In.cs I) (In.o1 I + Int.toNat i * 1))) (8 : Int)))) == false) = true → ((ari BinOp.and IntKind.u64 (uw (takeW (wd x) (findI (wd x) (ari BinOp.add IntKind.i64 (1 : Int) (ari BinOp.rem IntKind.i64 (IntKind.wrap IntKind.i64 (intAt (In.cs I) (In.o1 I + Int.toNat i * 1))) (8 : Int)))) (ari BinOp.add IntKind.i64 (1 : Int) (ari BinOp.rem IntKind.i64 (IntKind.wrap IntKind.i64 (intAt (In.cs I) (In.o1 I + Int.toNat i * 1))) (8 : Int))))) x != uw (takeW (wd x) (findI (wd x) (ari BinOp.add IntKind.i64 (1 : Int) (ari BinOp.rem IntKind.i64 (IntKind.wrap IntKind.i64 (intAt (In.cs I) (In.o1 I + Int.toNat i * 1))) (8 : Int)))) (ari BinOp.add IntKind.i64 (1 : Int) (ari BinOp.rem IntKind.i64 (IntKind.wrap IntKind.i64 (intAt (In.cs I) (In.o1 I + Int.toNat i * 1))) (8 : Int))))) = true → False) ∧ ((ari BinOp.and IntKind.u64 (uw (takeW (wd x) (findI (wd x) (ari BinOp.add IntKind.i64 (1 : Int) (ari BinOp.rem IntKind.i64 (IntKind.wrap IntKind.i64 (intAt (In.cs I) (In.o1 I + Int.toNat i * 1))) (8 : Int)))) (ari BinOp.add IntKind.i64 (1 : Int) (ari BinOp.rem IntKind.i64 (IntKind.wrap IntKind.i64 (intAt (In.cs I) (In.o1 I + Int.toNat i * 1))) (8 : Int))))) x != uw (takeW (wd x) (findI (wd x) (ari BinOp.add IntKind.i64 (1 : Int) (ari BinOp.rem IntKind.i64 (IntKind.wrap IntKind.i64 (intAt (In.cs I) (In.o1 I + Int.toNat i * 1))) (8 : Int)))) (ari BinOp.add IntKind.i64 (1 : Int) (ari BinOp.rem IntKind.i64 (IntKind.wrap IntKind.i64 (intAt (In.cs I) (In.o1 I + Int.toNat i * 1))) (8 : Int))))) = false → Q2 x (uw (takeW (wd x) (findI (wd x) (ari BinOp.add IntKind.i64 (1 : Int) (ari BinOp.rem IntKind.i64 (IntKind.wrap IntKind.i64 (intAt (In.cs I) (In.o1 I + Int.toNat i * 1))) (8 : Int)))) (ari BinOp.add IntKind.i64 (1 : Int) (ari BinOp.rem IntKind.i64 (IntKind.wrap IntKind.i64 (intAt (In.cs I) (In.o1 I + Int.toNat i * 1))) (8 : Int))))) (some (kt, ts)) i (ari BinOp.add IntKind.i64 (1 : Int) (ari BinOp.rem IntKind.i64 (IntKind.wrap IntKind.i64 (intAt (In.cs I) (In.o1 I + Int.toNat i * 1))) (8 : Int))) (findI (wd x) (ari BinOp.add IntKind.i64 (1 : Int) (ari BinOp.rem IntKind.i64 (IntKind.wrap IntKind.i64 (intAt (In.cs I) (In.o1 I + Int.toNat i * 1))) (8 : Int)))) (findI (wd x) (ari BinOp.add IntKind.i64 (1 : Int) (ari BinOp.rem IntKind.i64 (IntKind.wrap IntKind.i64 (intAt (In.cs I) (In.o1 I + Int.toNat i * 1))) (8 : Int)))) ∧ CallKind.normal = CallKind.normal ∧ TodoOk (ren 2 [(2, 2), (3, 3), (5, 6), (4, 4)]) td2 td2 ∧ In.o1 I = In.o1 I ∧ In.n1 I = In.n1 I ∧ ari BinOp.add IntKind.i64 (1 : Int) (ari BinOp.rem IntKind.i64 (IntKind.wrap IntKind.i64 (intAt (In.cs I) (In.o1 I + Int.toNat i * 1))) (8 : Int)) = ari BinOp.add IntKind.i64 (1 : Int) (ari BinOp.rem IntKind.i64 (IntKind.wrap IntKind.i64 (intAt (In.cs I) (In.o1 I + Int.toNat i * 1))) (8 : Int)) ∧ kt = kt ∧ In.o2 I = In.o2 I ∧ In.n2 I = In.n2 I ∧ findI (wd x) (ari BinOp.add IntKind.i64 (1 : Int) (ari BinOp.rem IntKind.i64 (IntKind.wrap IntKind.i64 (intAt (In.cs I) (In.o1 I + Int.toNat i * 1))) (8 : Int))) = findI (wd x) (ari BinOp.add IntKind.i64 (1 : Int) (ari BinOp.rem IntKind.i64 (IntKind.wrap IntKind.i64 (intAt (In.cs I) (In.o1 I + Int.toNat i * 1))) (8 : Int))) ∧ findI (wd x) (ari BinOp.add IntKind.i64 (1 : Int) (ari BinOp.rem IntKind.i64 (IntKind.wrap IntKind.i64 (intAt (In.cs I) (In.o1 I + Int.toNat i * 1))) (8 : Int))) = findI (wd x) (ari BinOp.add IntKind.i64 (1 : Int) (ari BinOp.rem IntKind.i64 (IntKind.wrap IntKind.i64 (intAt (In.cs I) (In.o1 I + Int.toNat i * 1))) (8 : Int))) ∧ i = i ∧ In.ty I = In.ty I ∧ In.cs I = In.cs I ∧ In.tz I = In.tz I ∧ In.ds I = In.ds I ∧ SBlk.ty (one1 x) = SBlk.ty (one1 x) ∧ x = x ∧ SBlk.ty (one1 (uw (takeW (wd x) (findI (wd x) (ari BinOp.add IntKind.i64 (1 : Int) (ari BinOp.rem IntKind.i64 (IntKind.wrap IntKind.i64 (intAt (In.cs I) (In.o1 I + Int.toNat i * 1))) (8 : Int)))) (ari BinOp.add IntKind.i64 (1 : Int) (ari BinOp.rem IntKind.i64 (IntKind.wrap IntKind.i64 (intAt (In.cs I) (In.o1 I + Int.toNat i * 1))) (8 : Int)))))) = (26 : Nat) ∧ uw (takeW (wd x) (findI (wd x) (ari BinOp.add IntKind.i64 (1 : Int) (ari BinOp.rem IntKind.i64 (IntKind.wrap IntKind.i64 (intAt (In.cs I) (In.o1 I + Int.toNat i * 1))) (8 : Int)))) (ari BinOp.add IntKind.i64 (1 : Int) (ari BinOp.rem IntKind.i64 (IntKind.wrap IntKind.i64 (intAt (In.cs I) (In.o1 I + Int.toNat i * 1))) (8 : Int)))) = uw (takeW (wd x) (findI (wd x) (ari BinOp.add IntKind.i64 (1 : Int) (ari BinOp.rem IntKind.i64 (IntKind.wrap IntKind.i64 (intAt (In.cs I) (In.o1 I + Int.toNat i * 1))) (8 : Int)))) (ari BinOp.add IntKind.i64 (1 : Int) (ari BinOp.rem IntKind.i64 (IntKind.wrap IntKind.i64 (intAt (In.cs I) (In.o1 I + Int.toNat i * 1))) (8 : Int)))) ∧ SBlk.ty (one1 F) = SBlk.ty (one1 F) ∧ F = F ∧ (3 : TypeId) = (3 : TypeId) ∧ ts = ts ∧ True)) ∧ (((ocI (uw (takeW (wd x) (findI (wd x) (ari BinOp.add IntKind.i64 (1 : Int) (ari BinOp.rem IntKind.i64 (IntKind.wrap IntKind.i64 (intAt (In.cs I) (In.o1 I + Int.toNat i * 1))) (8 : Int)))) (ari BinOp.add IntKind.i64 (1 : Int) (ari BinOp.rem IntKind.i64 (IntKind.wrap IntKind.i64 (intAt (In.cs I) (In.o1 I + Int.toNat i * 1))) (8 : Int))))) != ari BinOp.sub IntKind.i64 (ocI x) (ari BinOp.add IntKind.i64 (1 : Int) (ari BinOp.rem IntKind.i64 (IntKind.wrap IntKind.i64 (intAt (In.cs I) (In.o1 I + Int.toNat i * 1))) (8 : Int)))) == false) = false → False)) ∧ (((!takeOk (wd x) (findI (wd x) (ari BinOp.add IntKind.i64 (1 : Int) (ari BinOp.rem IntKind.i64 (IntKind.wrap IntKind.i64 (intAt (In.cs I) (In.o1 I + Int.toNat i * 1))) (8 : Int)))) (ari BinOp.add IntKind.i64 (1 : Int) (ari BinOp.rem IntKind.i64 (IntKind.wrap IntKind.i64 (intAt (In.cs I) (In.o1 I + Int.toNat i * 1))) (8 : Int)))) == false) = false → False))) ∧ (decide (i < (↑(In.n1 I) : Int)) = false → Q3 x (some (kt, ts)) (0 : Int) ∧ CallKind.normal = CallKind.normal ∧ TodoOk (ren 2 [(2, 2), (3, 3), (4, 4)]) td3 td3 ∧ kt = kt ∧ (0 : Int) = (0 : Int) ∧ In.o2 I = In.o2 I ∧ In.n2 I = In.n2 I ∧ In.ty I = In.ty I ∧ In.cs I = In.cs I ∧ In.tz I = In.tz I ∧ In.ds I = In.ds I ∧ SBlk.ty (one1 x) = SBlk.ty (one1 x) ∧ x = x ∧ SBlk.ty (one1 F) = SBlk.ty (one1 F) ∧ F = F ∧ (3 : TypeId) = (3 : TypeId) ∧ ts = ts ∧ True)) := by kernel_rfl
theorem ow2_ts (I : In) (F : Int) (Q1 : Int → Tk → Int → Prop) (Q2 : Int → Int → Tk → Int → Int → Int → Int → Prop) (Q3 : Int → Tk → Int → Prop) (Q4 : Rw → Int → Prop) (x y i n a k : Int) (kt : Nat) (ts : Array Value) : (st2 th2 I true F x y (some (kt, ts)) i n a k).vc okRet (nxO I true F ⟨Q1, Q2, Q3, Q4⟩ th1 th2 td3 td4) =
    ((decide (k < ari BinOp.add IntKind.i64 a n) = true → (uw (wd x) = x ∧ True) ∧ (((!(decide ((0 : Int) ≤ k) && BitVec.getLsbD (wd x) (Int.toNat k))) == false) = true → (uw (wd y) = y ∧ True) ∧ ((decide ((0 : Int) ≤ k) && BitVec.getLsbD (wd y) (Int.toNat k)) = true → False) ∧ ((decide ((0 : Int) ≤ k) && BitVec.getLsbD (wd y) (Int.toNat k)) = false → (((kt + 1) * 8 ≤ (140737488355328 : Nat) ∧ kt + 1 ≤ (140737488355328 : Nat)) ∧ kt * 1 = Array.size ts ∧ True) ∧ Q2 x y (some (kt + 1, ts ++ #[Value.int IntKind.i64 k])) i n a (ari BinOp.add IntKind.i64 k (1 : Int)) ∧ CallKind.normal = CallKind.normal ∧ TodoOk (ren 2 [(2, 2), (3, 3), (5, 5), (4, 7)]) th2 th2 ∧ In.o1 I = In.o1 I ∧ In.n1 I = In.n1 I ∧ n = n ∧ kt + 1 = kt + 1 ∧ In.o2 I = In.o2 I ∧ In.n2 I = In.n2 I ∧ ari BinOp.add IntKind.i64 k (1 : Int) = ari BinOp.add IntKind.i64 k (1 : Int) ∧ a = a ∧ i = i ∧ In.ty I = In.ty I ∧ In.cs I = In.cs I ∧ In.tz I = In.tz I ∧ In.ds I = In.ds I ∧ SBlk.ty (one1 x) = SBlk.ty (one1 x) ∧ x = x ∧ SBlk.ty (one1 y) = SBlk.ty (one1 y) ∧ y = y ∧ SBlk.ty (one1 F) = SBlk.ty (one1 F) ∧ F = F ∧ (3 : TypeId) = (3 : Nat) ∧ ts ++ #[Value.int IntKind.i64 k] = ts ++ #[Value.int IntKind.i64 k] ∧ True)) ∧ (((!(decide ((0 : Int) ≤ k) && BitVec.getLsbD (wd x) (Int.toNat k))) == false) = false → False)) ∧ (decide (k < ari BinOp.add IntKind.i64 a n) = false → Q1 y (some (kt, ts)) (ari BinOp.add IntKind.i64 i (1 : Int)) ∧ CallKind.normal = CallKind.normal ∧ TodoOk (ren 2 [(2, 2), (3, 3), (4, 4)]) th1 th1 ∧ In.o1 I = In.o1 I ∧ In.n1 I = In.n1 I ∧ kt = kt ∧ In.o2 I = In.o2 I ∧ In.n2 I = In.n2 I ∧ ari BinOp.add IntKind.i64 i (1 : Int) = ari BinOp.add IntKind.i64 i (1 : Int) ∧ In.ty I = In.ty I ∧ In.cs I = In.cs I ∧ In.tz I = In.tz I ∧ In.ds I = In.ds I ∧ SBlk.ty (one1 y) = SBlk.ty (one1 x) ∧ y = y ∧ SBlk.ty (one1 F) = SBlk.ty (one1 F) ∧ F = F ∧ (3 : TypeId) = (3 : TypeId) ∧ ts = ts ∧ True)) := by kernel_rfl
theorem ow3_ts (I : In) (F : Int) (Q1 : Int → Tk → Int → Prop) (Q2 : Int → Int → Tk → Int → Int → Int → Int → Prop) (Q3 : Int → Tk → Int → Prop) (Q4 : Rw → Int → Prop) (x i : Int) (kt : Nat) (ts : Array Value) : (st3 th3 I true F x (some (kt, ts)) i).vc okRet (nxO I true F ⟨Q1, Q2, Q3, Q4⟩ th1 th2 th3 td4) =
    ((decide ((↑kt : Int) > (0 : Int)) = true → (decide (i < (↑(In.n2 I) : Int)) = true → (((0 : Int) ≤ i ∧ i < (↑(In.n2 I) : Int)) ∧ True) ∧ (IsInt IntKind.u8 (In.ds I) (In.o2 I + Int.toNat i * 1) ∧ True) ∧ ((↑kt : Int) ≠ (0 : Int) ∧ True) ∧ (((0 : Int) ≤ ari BinOp.rem IntKind.i64 (IntKind.wrap IntKind.i64 (intAt (In.ds I) (In.o2 I + Int.toNat i * 1))) (↑kt : Int) ∧ ari BinOp.rem IntKind.i64 (IntKind.wrap IntKind.i64 (intAt (In.ds I) (In.o2 I + Int.toNat i * 1))) (↑kt : Int) < (↑kt : Int)) ∧ True) ∧ (IsInt IntKind.i64 ts ((0 : Nat) + Int.toNat (ari BinOp.rem IntKind.i64 (IntKind.wrap IntKind.i64 (intAt (In.ds I) (In.o2 I + Int.toNat i * 1))) (↑kt : Int)) * 1) ∧ True) ∧ (uw (wd x) = x ∧ True) ∧ (((0 : Int) ≤ ari BinOp.rem IntKind.i64 (IntKind.wrap IntKind.i64 (intAt (In.ds I) (In.o2 I + Int.toNat i * 1))) (↑kt : Int) ∧ ari BinOp.rem IntKind.i64 (IntKind.wrap IntKind.i64 (intAt (In.ds I) (In.o2 I + Int.toNat i * 1))) (↑kt : Int) < (↑kt : Int)) ∧ True) ∧ (IsInt IntKind.i64 ts ((0 : Nat) + Int.toNat (ari BinOp.rem IntKind.i64 (IntKind.wrap IntKind.i64 (intAt (In.ds I) (In.o2 I + Int.toNat i * 1))) (↑kt : Int)) * 1) ∧ True) ∧ (uw (wd (uw (giveW (wd x) (intAt ts ((0 : Nat) + Int.toNat (ari BinOp.rem IntKind.i64 (IntKind.wrap IntKind.i64 (intAt (In.ds I) (In.o2 I + Int.toNat i * 1))) (↑kt : Int)) * 1)) (1 : Int)))) = uw (giveW (wd x) (intAt ts ((0 : Nat) + Int.toNat (ari BinOp.rem IntKind.i64 (IntKind.wrap IntKind.i64 (intAt (In.ds I) (In.o2 I + Int.toNat i * 1))) (↑kt : Int)) * 1)) (1 : Int)) ∧ True) ∧ (((!giveOk (wd x) (intAt ts ((0 : Nat) + Int.toNat (ari BinOp.rem IntKind.i64 (IntKind.wrap IntKind.i64 (intAt (In.ds I) (In.o2 I + Int.toNat i * 1))) (↑kt : Int)) * 1)) (1 : Int)) == false) = true → ((giveOk (wd (uw (giveW (wd x) (intAt ts ((0 : Nat) + Int.toNat (ari BinOp.rem IntKind.i64 (IntKind.wrap IntKind.i64 (intAt (In.ds I) (In.o2 I + Int.toNat i * 1))) (↑kt : Int)) * 1)) (1 : Int)))) (intAt ts ((0 : Nat) + Int.toNat (ari BinOp.rem IntKind.i64 (IntKind.wrap IntKind.i64 (intAt (In.ds I) (In.o2 I + Int.toNat i * 1))) (↑kt : Int)) * 1)) (1 : Int) == false) = true → ((ocI (uw (giveW (wd x) (intAt ts ((0 : Nat) + Int.toNat (ari BinOp.rem IntKind.i64 (IntKind.wrap IntKind.i64 (intAt (In.ds I) (In.o2 I + Int.toNat i * 1))) (↑kt : Int)) * 1)) (1 : Int))) != ari BinOp.add IntKind.i64 (ocI x) (1 : Int)) = true → False) ∧ ((ocI (uw (giveW (wd x) (intAt ts ((0 : Nat) + Int.toNat (ari BinOp.rem IntKind.i64 (IntKind.wrap IntKind.i64 (intAt (In.ds I) (In.o2 I + Int.toNat i * 1))) (↑kt : Int)) * 1)) (1 : Int))) != ari BinOp.add IntKind.i64 (ocI x) (1 : Int)) = false → ((0 : Int) ≤ ari BinOp.rem IntKind.i64 (IntKind.wrap IntKind.i64 (intAt (In.ds I) (In.o2 I + Int.toNat i * 1))) (↑kt : Int) ∧ Int.toNat (ari BinOp.rem IntKind.i64 (IntKind.wrap IntKind.i64 (intAt (In.ds I) (In.o2 I + Int.toNat i * 1))) (↑kt : Int)) ≤ kt ∧ True) ∧ (decide (Int.toNat (ari BinOp.rem IntKind.i64 (IntKind.wrap IntKind.i64 (intAt (In.ds I) (In.o2 I + Int.toNat i * 1))) (↑kt : Int)) = (0 : Nat)) = true → (decide (Int.toNat (ari BinOp.add IntKind.i64 (ari BinOp.rem IntKind.i64 (IntKind.wrap IntKind.i64 (intAt (In.ds I) (In.o2 I + Int.toNat i * 1))) (↑kt : Int)) (1 : Int)) = kt) = true → ((0 : Int) ≤ ari BinOp.add IntKind.i64 (ari BinOp.rem IntKind.i64 (IntKind.wrap IntKind.i64 (intAt (In.ds I) (In.o2 I + Int.toNat i * 1))) (↑kt : Int)) (1 : Int) ∧ Int.toNat (ari BinOp.add IntKind.i64 (ari BinOp.rem IntKind.i64 (IntKind.wrap IntKind.i64 (intAt (In.ds I) (In.o2 I + Int.toNat i * 1))) (↑kt : Int)) (1 : Int)) ≤ kt ∧ True) ∧ Q3 (uw (giveW (wd x) (intAt ts ((0 : Nat) + Int.toNat (ari BinOp.rem IntKind.i64 (IntKind.wrap IntKind.i64 (intAt (In.ds I) (In.o2 I + Int.toNat i * 1))) (↑kt : Int)) * 1)) (1 : Int))) none (ari BinOp.add IntKind.i64 i (1 : Int)) ∧ CallKind.normal = CallKind.normal ∧ TodoOk (ren 2 [(2, 2), (3, 3)]) th3 th3 ∧ Value.slice none (0 : Nat) (0 : Nat) = Value.slice none (0 : Nat) (0 : Nat) ∧ ari BinOp.add IntKind.i64 i (1 : Int) = ari BinOp.add IntKind.i64 i (1 : Int) ∧ In.o2 I = In.o2 I ∧ In.n2 I = In.n2 I ∧ In.ty I = In.ty I ∧ In.cs I = In.cs I ∧ In.tz I = In.tz I ∧ In.ds I = In.ds I ∧ SBlk.ty (one1 (uw (giveW (wd x) (intAt ts ((0 : Nat) + Int.toNat (ari BinOp.rem IntKind.i64 (IntKind.wrap IntKind.i64 (intAt (In.ds I) (In.o2 I + Int.toNat i * 1))) (↑kt : Int)) * 1)) (1 : Int)))) = SBlk.ty (one1 x) ∧ uw (giveW (wd x) (intAt ts ((0 : Nat) + Int.toNat (ari BinOp.rem IntKind.i64 (IntKind.wrap IntKind.i64 (intAt (In.ds I) (In.o2 I + Int.toNat i * 1))) (↑kt : Int)) * 1)) (1 : Int)) = uw (giveW (wd x) (intAt ts ((0 : Nat) + Int.toNat (ari BinOp.rem IntKind.i64 (IntKind.wrap IntKind.i64 (intAt (In.ds I) (In.o2 I + Int.toNat i * 1))) (↑kt : Int)) * 1)) (1 : Int)) ∧ SBlk.ty (one1 F) = SBlk.ty (one1 F) ∧ F = F ∧ True) ∧ (decide (Int.toNat (ari BinOp.add IntKind.i64 (ari BinOp.rem IntKind.i64 (IntKind.wrap IntKind.i64 (intAt (In.ds I) (In.o2 I + Int.toNat i * 1))) (↑kt : Int)) (1 : Int)) = kt) = false → ((0 : Int) ≤ ari BinOp.add IntKind.i64 (ari BinOp.rem IntKind.i64 (IntKind.wrap IntKind.i64 (intAt (In.ds I) (In.o2 I + Int.toNat i * 1))) (↑kt : Int)) (1 : Int) ∧ Int.toNat (ari BinOp.add IntKind.i64 (ari BinOp.rem IntKind.i64 (IntKind.wrap IntKind.i64 (intAt (In.ds I) (In.o2 I + Int.toNat i * 1))) (↑kt : Int)) (1 : Int)) ≤ kt ∧ Int.toNat (ari BinOp.add IntKind.i64 (ari BinOp.rem IntKind.i64 (IntKind.wrap IntKind.i64 (intAt (In.ds I) (In.o2 I + Int.toNat i * 1))) (↑kt : Int)) (1 : Int)) < kt ∧ True) ∧ (decide (kt - Int.toNat (ari BinOp.add IntKind.i64 (ari BinOp.rem IntKind.i64 (IntKind.wrap IntKind.i64 (intAt (In.ds I) (In.o2 I + Int.toNat i * 1))) (↑kt : Int)) (1 : Int)) = (0 : Nat)) = true → Q3 (uw (giveW (wd x) (intAt ts ((0 : Nat) + Int.toNat (ari BinOp.rem IntKind.i64 (IntKind.wrap IntKind.i64 (intAt (In.ds I) (In.o2 I + Int.toNat i * 1))) (↑kt : Int)) * 1)) (1 : Int))) none (ari BinOp.add IntKind.i64 i (1 : Int)) ∧ CallKind.normal = CallKind.normal ∧ TodoOk (ren 2 [(2, 2), (3, 3)]) th3 th3 ∧ Value.slice none (0 : Nat) (0 : Nat) = Value.slice none (0 : Nat) (0 : Nat) ∧ ari BinOp.add IntKind.i64 i (1 : Int) = ari BinOp.add IntKind.i64 i (1 : Int) ∧ In.o2 I = In.o2 I ∧ In.n2 I = In.n2 I ∧ In.ty I = In.ty I ∧ In.cs I = In.cs I ∧ In.tz I = In.tz I ∧ In.ds I = In.ds I ∧ SBlk.ty (one1 (uw (giveW (wd x) (intAt ts ((0 : Nat) + Int.toNat (ari BinOp.rem IntKind.i64 (IntKind.wrap IntKind.i64 (intAt (In.ds I) (In.o2 I + Int.toNat i * 1))) (↑kt : Int)) * 1)) (1 : Int)))) = SBlk.ty (one1 x) ∧ uw (giveW (wd x) (intAt ts ((0 : Nat) + Int.toNat (ari BinOp.rem IntKind.i64 (IntKind.wrap IntKind.i64 (intAt (In.ds I) (In.o2 I + Int.toNat i * 1))) (↑kt : Int)) * 1)) (1 : Int)) = uw (giveW (wd x) (intAt ts ((0 : Nat) + Int.toNat (ari BinOp.rem IntKind.i64 (IntKind.wrap IntKind.i64 (intAt (In.ds I) (In.o2 I + Int.toNat i * 1))) (↑kt : Int)) * 1)) (1 : Int)) ∧ SBlk.ty (one1 F) = SBlk.ty (one1 F) ∧ F = F ∧ True) ∧ (decide (kt - Int.toNat (ari BinOp.add IntKind.i64 (ari BinOp.rem IntKind.i64 (IntKind.wrap IntKind.i64 (intAt (In.ds I) (In.o2 I + Int.toNat i * 1))) (↑kt : Int)) (1 : Int)) = (0 : Nat)) = false → ((0 : Nat) + Int.toNat (ari BinOp.add IntKind.i64 (ari BinOp.rem IntKind.i64 (IntKind.wrap IntKind.i64 (intAt (In.ds I) (In.o2 I + Int.toNat i * 1))) (↑kt : Int)) (1 : Int)) * 1 + (kt - Int.toNat (ari BinOp.add IntKind.i64 (ari BinOp.rem IntKind.i64 (IntKind.wrap IntKind.i64 (intAt (In.ds I) (In.o2 I + Int.toNat i * 1))) (↑kt : Int)) (1 : Int))) * 1 ≤ Array.size ts ∧ (0 : Nat) < kt - Int.toNat (ari BinOp.add IntKind.i64 (ari BinOp.rem IntKind.i64 (IntKind.wrap IntKind.i64 (intAt (In.ds I) (In.o2 I + Int.toNat i * 1))) (↑kt : Int)) (1 : Int)) ∧ (((0 : Nat) + (kt - Int.toNat (ari BinOp.add IntKind.i64 (ari BinOp.rem IntKind.i64 (IntKind.wrap IntKind.i64 (intAt (In.ds I) (In.o2 I + Int.toNat i * 1))) (↑kt : Int)) (1 : Int)))) * 8 ≤ (140737488355328 : Nat) ∧ (0 : Nat) + (kt - Int.toNat (ari BinOp.add IntKind.i64 (ari BinOp.rem IntKind.i64 (IntKind.wrap IntKind.i64 (intAt (In.ds I) (In.o2 I + Int.toNat i * 1))) (↑kt : Int)) (1 : Int))) ≤ (140737488355328 : Nat)) ∧ True) ∧ Q3 (uw (giveW (wd x) (intAt ts ((0 : Nat) + Int.toNat (ari BinOp.rem IntKind.i64 (IntKind.wrap IntKind.i64 (intAt (In.ds I) (In.o2 I + Int.toNat i * 1))) (↑kt : Int)) * 1)) (1 : Int))) (some (kt - Int.toNat (ari BinOp.add IntKind.i64 (ari BinOp.rem IntKind.i64 (IntKind.wrap IntKind.i64 (intAt (In.ds I) (In.o2 I + Int.toNat i * 1))) (↑kt : Int)) (1 : Int)), Array.extract ts ((0 : Nat) + Int.toNat (ari BinOp.add IntKind.i64 (ari BinOp.rem IntKind.i64 (IntKind.wrap IntKind.i64 (intAt (In.ds I) (In.o2 I + Int.toNat i * 1))) (↑kt : Int)) (1 : Int)) * 1) ((0 : Nat) + Int.toNat (ari BinOp.add IntKind.i64 (ari BinOp.rem IntKind.i64 (IntKind.wrap IntKind.i64 (intAt (In.ds I) (In.o2 I + Int.toNat i * 1))) (↑kt : Int)) (1 : Int)) * 1 + (kt - Int.toNat (ari BinOp.add IntKind.i64 (ari BinOp.rem IntKind.i64 (IntKind.wrap IntKind.i64 (intAt (In.ds I) (In.o2 I + Int.toNat i * 1))) (↑kt : Int)) (1 : Int))) * 1))) (ari BinOp.add IntKind.i64 i (1 : Int)) ∧ CallKind.normal = CallKind.normal ∧ TodoOk (ren 2 [(2, 2), (3, 3), (4, 11)]) th3 th3 ∧ kt - Int.toNat (ari BinOp.add IntKind.i64 (ari BinOp.rem IntKind.i64 (IntKind.wrap IntKind.i64 (intAt (In.ds I) (In.o2 I + Int.toNat i * 1))) (↑kt : Int)) (1 : Int)) = kt - Int.toNat (ari BinOp.add IntKind.i64 (ari BinOp.rem IntKind.i64 (IntKind.wrap IntKind.i64 (intAt (In.ds I) (In.o2 I + Int.toNat i * 1))) (↑kt : Int)) (1 : Int)) ∧ ari BinOp.add IntKind.i64 i (1 : Int) = ari BinOp.add IntKind.i64 i (1 : Int) ∧ In.o2 I = In.o2 I ∧ In.n2 I = In.n2 I ∧ In.ty I = In.ty I ∧ In.cs I = In.cs I ∧ In.tz I = In.tz I ∧ In.ds I = In.ds I ∧ SBlk.ty (one1 (uw (giveW (wd x) (intAt ts ((0 : Nat) + Int.toNat (ari BinOp.rem IntKind.i64 (IntKind.wrap IntKind.i64 (intAt (In.ds I) (In.o2 I + Int.toNat i * 1))) (↑kt : Int)) * 1)) (1 : Int)))) = SBlk.ty (one1 x) ∧ uw (giveW (wd x) (intAt ts ((0 : Nat) + Int.toNat (ari BinOp.rem IntKind.i64 (IntKind.wrap IntKind.i64 (intAt (In.ds I) (In.o2 I + Int.toNat i * 1))) (↑kt : Int)) * 1)) (1 : Int)) = uw (giveW (wd x) (intAt ts ((0 : Nat) + Int.toNat (ari BinOp.rem IntKind.i64 (IntKind.wrap IntKind.i64 (intAt (In.ds I) (In.o2 I + Int.toNat i * 1))) (↑kt : Int)) * 1)) (1 : Int)) ∧ SBlk.ty (one1 F) = SBlk.ty (one1 F) ∧ F = F ∧ (3 : TypeId) = (3 : Nat) ∧ Array.extract ts ((0 : Nat) + Int.toNat (ari BinOp.add IntKind.i64 (ari BinOp.rem IntKind.i64 (IntKind.wrap IntKind.i64 (intAt (In.ds I) (In.o2 I + Int.toNat i * 1))) (↑kt : Int)) (1 : Int)) * 1) ((0 : Nat) + Int.toNat (ari BinOp.add IntKind.i64 (ari BinOp.rem IntKind.i64 (IntKind.wrap IntKind.i64 (intAt (In.ds I) (In.o2 I + Int.toNat i * 1))) (↑kt : Int)) (1 : Int)) * 1 + (kt - Int.toNat (ari BinOp.add IntKind.i64 (ari BinOp.rem IntKind.i64 (IntKind.wrap IntKind.i64 (intAt (In.ds I) (In.o2 I + Int.toNat i * 1))) (↑kt : Int)) (1 : Int))) * 1) = Array.extract ts ((0 : Nat) + Int.toNat (ari BinOp.add IntKind.i64 (ari BinOp.rem IntKind.i64 (IntKind.wrap IntKind.i64 (intAt (In.ds I) (In.o2 I + Int.toNat i * 1))) (↑kt : Int)) (1 : Int)) * 1) ((0 : Nat) + Int.toNat (ari BinOp.add IntKind.i64 (ari BinOp.rem IntKind.i64 (IntKind.wrap IntKind.i64 (intAt (In.ds I) (In.o2 I + Int.toNat i * 1))) (↑kt : Int)) (1 : Int)) * 1 + (kt - Int.toNat (ari BinOp.add IntKind.i64 (ari BinOp.rem IntKind.i64 (IntKind.wrap IntKind.i64 (intAt (In.ds I) (In.o2 I + Int.toNat i * 1))) (↑kt : Int)) (1 : Int))) * 1) ∧ True))) ∧ (decide (Int.toNat (ari BinOp.rem IntKind.i64 (IntKind.wrap IntKind.i64 (intAt (In.ds I) (In.o2 I + Int.toNat i * 1))) (↑kt : Int)) = (0 : Nat)) = false → ((0 : Nat) + Int.toNat (ari BinOp.rem IntKind.i64 (IntKind.wrap IntKind.i64 (intAt (In.ds I) (In.o2 I + Int.toNat i * 1))) (↑kt : Int)) * 1 ≤ Array.size ts ∧ (0 : Nat) < Int.toNat (ari BinOp.rem IntKind.i64 (IntKind.wrap IntKind.i64 (intAt (In.ds I) (In.o2 I + Int.toNat i * 1))) (↑kt : Int)) ∧ (((0 : Nat) + Int.toNat (ari BinOp.rem IntKind.i64 (IntKind.wrap IntKind.i64 (intAt (In.ds I) (In.o2 I + Int.toNat i * 1))) (↑kt : Int))) * 8 ≤ (140737488355328 : Nat) ∧ (0 : Nat) + Int.toNat (ari BinOp.rem IntKind.i64 (IntKind.wrap IntKind.i64 (intAt (In.ds I) (In.o2 I + Int.toNat i * 1))) (↑kt : Int)) ≤ (140737488355328 : Nat)) ∧ True) ∧ (decide (Int.toNat (ari BinOp.add IntKind.i64 (ari BinOp.rem IntKind.i64 (IntKind.wrap IntKind.i64 (intAt (In.ds I) (In.o2 I + Int.toNat i * 1))) (↑kt : Int)) (1 : Int)) = kt) = true → ((0 : Int) ≤ ari BinOp.add IntKind.i64 (ari BinOp.rem IntKind.i64 (IntKind.wrap IntKind.i64 (intAt (In.ds I) (In.o2 I + Int.toNat i * 1))) (↑kt : Int)) (1 : Int) ∧ Int.toNat (ari BinOp.add IntKind.i64 (ari BinOp.rem IntKind.i64 (IntKind.wrap IntKind.i64 (intAt (In.ds I) (In.o2 I + Int.toNat i * 1))) (↑kt : Int)) (1 : Int)) ≤ kt ∧ True) ∧ Q3 (uw (giveW (wd x) (intAt ts ((0 : Nat) + Int.toNat (ari BinOp.rem IntKind.i64 (IntKind.wrap IntKind.i64 (intAt (In.ds I) (In.o2 I + Int.toNat i * 1))) (↑kt : Int)) * 1)) (1 : Int))) (some (Int.toNat (ari BinOp.rem IntKind.i64 (IntKind.wrap IntKind.i64 (intAt (In.ds I) (In.o2 I + Int.toNat i * 1))) (↑kt : Int)), Array.extract ts (0 : Nat) ((0 : Nat) + Int.toNat (ari BinOp.rem IntKind.i64 (IntKind.wrap IntKind.i64 (intAt (In.ds I) (In.o2 I + Int.toNat i * 1))) (↑kt : Int)) * 1))) (ari BinOp.add IntKind.i64 i (1 : Int)) ∧ CallKind.normal = CallKind.normal ∧ TodoOk (ren 2 [(2, 2), (3, 3), (4, 10)]) th3 th3 ∧ Int.toNat (ari BinOp.rem IntKind.i64 (IntKind.wrap IntKind.i64 (intAt (In.ds I) (In.o2 I + Int.toNat i * 1))) (↑kt : Int)) = Int.toNat (ari BinOp.rem IntKind.i64 (IntKind.wrap IntKind.i64 (intAt (In.ds I) (In.o2 I + Int.toNat i * 1))) (↑kt : Int)) ∧ ari BinOp.add IntKind.i64 i (1 : Int) = ari BinOp.add IntKind.i64 i (1 : Int) ∧ In.o2 I = In.o2 I ∧ In.n2 I = In.n2 I ∧ In.ty I = In.ty I ∧ In.cs I = In.cs I ∧ In.tz I = In.tz I ∧ In.ds I = In.ds I ∧ SBlk.ty (one1 (uw (giveW (wd x) (intAt ts ((0 : Nat) + Int.toNat (ari BinOp.rem IntKind.i64 (IntKind.wrap IntKind.i64 (intAt (In.ds I) (In.o2 I + Int.toNat i * 1))) (↑kt : Int)) * 1)) (1 : Int)))) = SBlk.ty (one1 x) ∧ uw (giveW (wd x) (intAt ts ((0 : Nat) + Int.toNat (ari BinOp.rem IntKind.i64 (IntKind.wrap IntKind.i64 (intAt (In.ds I) (In.o2 I + Int.toNat i * 1))) (↑kt : Int)) * 1)) (1 : Int)) = uw (giveW (wd x) (intAt ts ((0 : Nat) + Int.toNat (ari BinOp.rem IntKind.i64 (IntKind.wrap IntKind.i64 (intAt (In.ds I) (In.o2 I + Int.toNat i * 1))) (↑kt : Int)) * 1)) (1 : Int)) ∧ SBlk.ty (one1 F) = SBlk.ty (one1 F) ∧ F = F ∧ (3 : TypeId) = (3 : Nat) ∧ Array.extract ts (0 : Nat) ((0 : Nat) + Int.toNat (ari BinOp.rem IntKind.i64 (IntKind.wrap IntKind.i64 (intAt (In.ds I) (In.o2 I + Int.toNat i * 1))) (↑kt : Int)) * 1) = Array.extract ts (0 : Nat) ((0 : Nat) + Int.toNat (ari BinOp.rem IntKind.i64 (IntKind.wrap IntKind.i64 (intAt (In.ds I) (In.o2 I + Int.toNat i * 1))) (↑kt : Int)) * 1) ∧ True) ∧ (decide (Int.toNat (ari BinOp.add IntKind.i64 (ari BinOp.rem IntKind.i64 (IntKind.wrap IntKind.i64 (intAt (In.ds I) (In.o2 I + Int.toNat i * 1))) (↑kt : Int)) (1 : Int)) = kt) = false → ((0 : Int) ≤ ari BinOp.add IntKind.i64 (ari BinOp.rem IntKind.i64 (IntKind.wrap IntKind.i64 (intAt (In.ds I) (In.o2 I + Int.toNat i * 1))) (↑kt : Int)) (1 : Int) ∧ Int.toNat (ari BinOp.add IntKind.i64 (ari BinOp.rem IntKind.i64 (IntKind.wrap IntKind.i64 (intAt (In.ds I) (In.o2 I + Int.toNat i * 1))) (↑kt : Int)) (1 : Int)) ≤ kt ∧ Int.toNat (ari BinOp.add IntKind.i64 (ari BinOp.rem IntKind.i64 (IntKind.wrap IntKind.i64 (intAt (In.ds I) (In.o2 I + Int.toNat i * 1))) (↑kt : Int)) (1 : Int)) < kt ∧ True) ∧ ((0 : Nat) + Int.toNat (ari BinOp.add IntKind.i64 (ari BinOp.rem IntKind.i64 (IntKind.wrap IntKind.i64 (intAt (In.ds I) (In.o2 I + Int.toNat i * 1))) (↑kt : Int)) (1 : Int)) * 1 + (kt - Int.toNat (ari BinOp.add IntKind.i64 (ari BinOp.rem IntKind.i64 (IntKind.wrap IntKind.i64 (intAt (In.ds I) (In.o2 I + Int.toNat i * 1))) (↑kt : Int)) (1 : Int))) * 1 ≤ Array.size ts ∧ ((Int.toNat (ari BinOp.rem IntKind.i64 (IntKind.wrap IntKind.i64 (intAt (In.ds I) (In.o2 I + Int.toNat i * 1))) (↑kt : Int)) + (kt - Int.toNat (ari BinOp.add IntKind.i64 (ari BinOp.rem IntKind.i64 (IntKind.wrap IntKind.i64 (intAt (In.ds I) (In.o2 I + Int.toNat i * 1))) (↑kt : Int)) (1 : Int)))) * 8 ≤ (140737488355328 : Nat) ∧ Int.toNat (ari BinOp.rem IntKind.i64 (IntKind.wrap IntKind.i64 (intAt (In.ds I) (In.o2 I + Int.toNat i * 1))) (↑kt : Int)) + (kt - Int.toNat (ari BinOp.add IntKind.i64 (ari BinOp.rem IntKind.i64 (IntKind.wrap IntKind.i64 (intAt (In.ds I) (In.o2 I + Int.toNat i * 1))) (↑kt : Int)) (1 : Int))) ≤ (140737488355328 : Nat)) ∧ Int.toNat (ari BinOp.rem IntKind.i64 (IntKind.wrap IntKind.i64 (intAt (In.ds I) (In.o2 I + Int.toNat i * 1))) (↑kt : Int)) * 1 = Array.size (Array.extract ts (0 : Nat) ((0 : Nat) + Int.toNat (ari BinOp.rem IntKind.i64 (IntKind.wrap IntKind.i64 (intAt (In.ds I) (In.o2 I + Int.toNat i * 1))) (↑kt : Int)) * 1)) ∧ True) ∧ Q3 (uw (giveW (wd x) (intAt ts ((0 : Nat) + Int.toNat (ari BinOp.rem IntKind.i64 (IntKind.wrap IntKind.i64 (intAt (In.ds I) (In.o2 I + Int.toNat i * 1))) (↑kt : Int)) * 1)) (1 : Int))) (some (Int.toNat (ari BinOp.rem IntKind.i64 (IntKind.wrap IntKind.i64 (intAt (In.ds I) (In.o2 I + Int.toNat i * 1))) (↑kt : Int)) + (kt - Int.toNat (ari BinOp.add IntKind.i64 (ari BinOp.rem IntKind.i64 (IntKind.wrap IntKind.i64 (intAt (In.ds I) (In.o2 I + Int.toNat i * 1))) (↑kt : Int)) (1 : Int))), Array.extract ts (0 : Nat) ((0 : Nat) + Int.toNat (ari BinOp.rem IntKind.i64 (IntKind.wrap IntKind.i64 (intAt (In.ds I) (In.o2 I + Int.toNat i * 1))) (↑kt : Int)) * 1) ++ Array.extract ts ((0 : Nat) + Int.toNat (ari BinOp.add IntKind.i64 (ari BinOp.rem IntKind.i64 (IntKind.wrap IntKind.i64 (intAt (In.ds I) (In.o2 I + Int.toNat i * 1))) (↑kt : Int)) (1 : Int)) * 1) ((0 : Nat) + Int.toNat (ari BinOp.add IntKind.i64 (ari BinOp.rem IntKind.i64 (IntKind.wrap IntKind.i64 (intAt (In.ds I) (In.o2 I + Int.toNat i * 1))) (↑kt : Int)) (1 : Int)) * 1 + (kt - Int.toNat (ari BinOp.add IntKind.i64 (ari BinOp.rem IntKind.i64 (IntKind.wrap IntKind.i64 (intAt (In.ds I) (In.o2 I + Int.toNat i * 1))) (↑kt : Int)) (1 : Int))) * 1))) (ari BinOp.add IntKind.i64 i (1 : Int)) ∧ CallKind.normal = CallKind.normal ∧ TodoOk (ren 2 [(2, 2), (3, 3), (4, 11)]) th3 th3 ∧ Int.toNat (ari BinOp.rem IntKind.i64 (IntKind.wrap IntKind.i64 (intAt (In.ds I) (In.o2 I + Int.toNat i * 1))) (↑kt : Int)) + (kt - Int.toNat (ari BinOp.add IntKind.i64 (ari BinOp.rem IntKind.i64 (IntKind.wrap IntKind.i64 (intAt (In.ds I) (In.o2 I + Int.toNat i * 1))) (↑kt : Int)) (1 : Int))) = Int.toNat (ari BinOp.rem IntKind.i64 (IntKind.wrap IntKind.i64 (intAt (In.ds I) (In.o2 I + Int.toNat i * 1))) (↑kt : Int)) + (kt - Int.toNat (ari BinOp.add IntKind.i64 (ari BinOp.rem IntKind.i64 (IntKind.wrap IntKind.i64 (intAt (In.ds I) (In.o2 I + Int.toNat i * 1))) (↑kt : Int)) (1 : Int))) ∧ ari BinOp.add IntKind.i64 i (1 : Int) = ari BinOp.add IntKind.i64 i (1 : Int) ∧ In.o2 I = In.o2 I ∧ In.n2 I = In.n2 I ∧ In.ty I = In.ty I ∧ In.cs I = In.cs I ∧ In.tz I = In.tz I ∧ In.ds I = In.ds I ∧ SBlk.ty (one1 (uw (giveW (wd x) (intAt ts ((0 : Nat) + Int.toNat (ari BinOp.rem IntKind.i64 (IntKind.wrap IntKind.i64 (intAt (In.ds I) (In.o2 I + Int.toNat i * 1))) (↑kt : Int)) * 1)) (1 : Int)))) = SBlk.ty (one1 x) ∧ uw (giveW (wd x) (intAt ts ((0 : Nat) + Int.toNat (ari BinOp.rem IntKind.i64 (IntKind.wrap IntKind.i64 (intAt (In.ds I) (In.o2 I + Int.toNat i * 1))) (↑kt : Int)) * 1)) (1 : Int)) = uw (giveW (wd x) (intAt ts ((0 : Nat) + Int.toNat (ari BinOp.rem IntKind.i64 (IntKind.wrap IntKind.i64 (intAt (In.ds I) (In.o2 I + Int.toNat i * 1))) (↑kt : Int)) * 1)) (1 : Int)) ∧ SBlk.ty (one1 F) = SBlk.ty (one1 F) ∧ F = F ∧ (3 : TypeId) = (3 : Nat) ∧ Array.extract ts (0 : Nat) ((0 : Nat) + Int.toNat (ari BinOp.rem IntKind.i64 (IntKind.wrap IntKind.i64 (intAt (In.ds I) (In.o2 I + Int.toNat i * 1))) (↑kt : Int)) * 1) ++ Array.extract ts ((0 : Nat) + Int.toNat (ari BinOp.add IntKind.i64 (ari BinOp.rem IntKind.i64 (IntKind.wrap IntKind.i64 (intAt (In.ds I) (In.o2 I + Int.toNat i * 1))) (↑kt : Int)) (1 : Int)) * 1) ((0 : Nat) + Int.toNat (ari BinOp.add IntKind.i64 (ari BinOp.rem IntKind.i64 (IntKind.wrap IntKind.i64 (intAt (In.ds I) (In.o2 I + Int.toNat i * 1))) (↑kt : Int)) (1 : Int)) * 1 + (kt - Int.toNat (ari BinOp.add IntKind.i64 (ari BinOp.rem IntKind.i64 (IntKind.wrap IntKind.i64 (intAt (In.ds I) (In.o2 I + Int.toNat i * 1))) (↑kt : Int)) (1 : Int))) * 1) = Array.extract ts (0 : Nat) ((0 : Nat) + Int.toNat (ari BinOp.rem IntKind.i64 (IntKind.wrap IntKind.i64 (intAt (In.ds I) (In.o2 I + Int.toNat i * 1))) (↑kt : Int)) * 1) ++ Array.extract ts ((0 : Nat) + Int.toNat (ari BinOp.add IntKind.i64 (ari BinOp.rem IntKind.i64 (IntKind.wrap IntKind.i64 (intAt (In.ds I) (In.o2 I + Int.toNat i * 1))) (↑kt : Int)) (1 : Int)) * 1) ((0 : Nat) + Int.toNat (ari BinOp.add IntKind.i64 (ari BinOp.rem IntKind.i64 (IntKind.wrap IntKind.i64 (intAt (In.ds I) (In.o2 I + Int.toNat i * 1))) (↑kt : Int)) (1 : Int)) * 1 + (kt - Int.toNat (ari BinOp.add IntKind.i64 (ari BinOp.rem IntKind.i64 (IntKind.wrap IntKind.i64 (intAt (In.ds I) (In.o2 I + Int.toNat i * 1))) (↑kt : Int)) (1 : Int))) * 1) ∧ True)))) ∧ ((giveOk (wd (uw (giveW (wd x) (intAt ts ((0 : Nat) + Int.toNat (ari BinOp.rem IntKind.i64 (IntKind.wrap IntKind.i64 (intAt (In.ds I) (In.o2 I + Int.toNat i * 1))) (↑kt : Int)) * 1)) (1 : Int)))) (intAt ts ((0 : Nat) + Int.toNat (ari BinOp.rem IntKind.i64 (IntKind.wrap IntKind.i64 (intAt (In.ds I) (In.o2 I + Int.toNat i * 1))) (↑kt : Int)) * 1)) (1 : Int) == false) = false → False)) ∧ (((!giveOk (wd x) (intAt ts ((0 : Nat) + Int.toNat (ari BinOp.rem IntKind.i64 (IntKind.wrap IntKind.i64 (intAt (In.ds I) (In.o2 I + Int.toNat i * 1))) (↑kt : Int)) * 1)) (1 : Int)) == false) = false → False)) ∧ (decide (i < (↑(In.n2 I) : Int)) = false → (((0 : Int) ≤ (0 : Int) ∧ (0 : Int) < (↑kt : Int)) ∧ True) ∧ (IsInt IntKind.i64 ts (0 : Nat) ∧ True) ∧ (uw (wd x) = x ∧ True) ∧ (((0 : Int) ≤ (0 : Int) ∧ (0 : Int) < (↑kt : Int)) ∧ True) ∧ (IsInt IntKind.i64 ts (0 : Nat) ∧ True) ∧ (uw (wd (uw (giveW (wd x) (intAt ts (0 : Nat)) (1 : Int)))) = uw (giveW (wd x) (intAt ts (0 : Nat)) (1 : Int)) ∧ True) ∧ (((!giveOk (wd x) (intAt ts (0 : Nat)) (1 : Int)) == false) = true → ((giveOk (wd (uw (giveW (wd x) (intAt ts (0 : Nat)) (1 : Int)))) (intAt ts (0 : Nat)) (1 : Int) == false) = true → ((ocI (uw (giveW (wd x) (intAt ts (0 : Nat)) (1 : Int))) != ari BinOp.add IntKind.i64 (ocI x) (1 : Int)) = true → False) ∧ ((ocI (uw (giveW (wd x) (intAt ts (0 : Nat)) (1 : Int))) != ari BinOp.add IntKind.i64 (ocI x) (1 : Int)) = false → ((0 : Nat) ≤ kt ∧ True) ∧ (decide ((1 : Nat) = kt) = true → ((1 : Nat) ≤ kt ∧ True) ∧ Q3 (uw (giveW (wd x) (intAt ts (0 : Nat)) (1 : Int))) none (ari BinOp.add IntKind.i64 i (1 : Int)) ∧ CallKind.normal = CallKind.normal ∧ TodoOk (ren 2 [(2, 2), (3, 3)]) th3 th3 ∧ Value.slice none (0 : Nat) (0 : Nat) = Value.slice none (0 : Nat) (0 : Nat) ∧ ari BinOp.add IntKind.i64 i (1 : Int) = ari BinOp.add IntKind.i64 i (1 : Int) ∧ In.o2 I = In.o2 I ∧ In.n2 I = In.n2 I ∧ In.ty I = In.ty I ∧ In.cs I = In.cs I ∧ In.tz I = In.tz I ∧ In.ds I = In.ds I ∧ SBlk.ty (one1 (uw (giveW (wd x) (intAt ts (0 : Nat)) (1 : Int)))) = SBlk.ty (one1 x) ∧ uw (giveW (wd x) (intAt ts (0 : Nat)) (1 : Int)) = uw (giveW (wd x) (intAt ts (0 : Nat)) (1 : Int)) ∧ SBlk.ty (one1 F) = SBlk.ty (one1 F) ∧ F = F ∧ True) ∧ (decide ((1 : Nat) = kt) = false → ((1 : Nat) ≤ kt ∧ (1 : Nat) < kt ∧ True) ∧ (decide (kt - (1 : Nat) = (0 : Nat)) = true → Q3 (uw (giveW (wd x) (intAt ts (0 : Nat)) (1 : Int))) none (ari BinOp.add IntKind.i64 i (1 : Int)) ∧ CallKind.normal = CallKind.normal ∧ TodoOk (ren 2 [(2, 2), (3, 3)]) th3 th3 ∧ Value.slice none (0 : Nat) (0 : Nat) = Value.slice none (0 : Nat) (0 : Nat) ∧ ari BinOp.add IntKind.i64 i (1 : Int) = ari BinOp.add IntKind.i64 i (1 : Int) ∧ In.o2 I = In.o2 I ∧ In.n2 I = In.n2 I ∧ In.ty I = In.ty I ∧ In.cs I = In.cs I ∧ In.tz I = In.tz I ∧ In.ds I = In.ds I ∧ SBlk.ty (one1 (uw (giveW (wd x) (intAt ts (0 : Nat)) (1 : Int)))) = SBlk.ty (one1 x) ∧ uw (giveW (wd x) (intAt ts (0 : Nat)) (1 : Int)) = uw (giveW (wd x) (intAt ts (0 : Nat)) (1 : Int)) ∧ SBlk.ty (one1 F) = SBlk.ty (one1 F) ∧ F = F ∧ True) ∧ (decide (kt - (1 : Nat) = (0 : Nat)) = false → ((1 : Nat) + (kt - (1 : Nat)) * 1 ≤ Array.size ts ∧ (0 : Nat) < kt - (1 : Nat) ∧ (((0 : Nat) + (kt - (1 : Nat))) * 8 ≤ (140737488355328 : Nat) ∧ (0 : Nat) + (kt - (1 : Nat)) ≤ (140737488355328 : Nat)) ∧ True) ∧ Q3 (uw (giveW (wd x) (intAt ts (0 : Nat)) (1 : Int))) (some (kt - (1 : Nat), Array.extract ts (1 : Nat) ((1 : Nat) + (kt - (1 : Nat)) * 1))) (ari BinOp.add IntKind.i64 i (1 : Int)) ∧ CallKind.normal = CallKind.normal ∧ TodoOk (ren 2 [(2, 2), (3, 3), (4, 11)]) th3 th3 ∧ kt - (1 : Nat) = kt - (1 : Nat) ∧ ari BinOp.add IntKind.i64 i (1 : Int) = ari BinOp.add IntKind.i64 i (1 : Int) ∧ In.o2 I = In.o2 I ∧ In.n2 I = In.n2 I ∧ In.ty I = In.ty I ∧ In.cs I = In.cs I ∧ In.tz I = In.tz I ∧ In.ds I = In.ds I ∧ SBlk.ty (one1 (uw (giveW (wd x) (intAt ts (0 : Nat)) (1 : Int)))) = SBlk.ty (one1 x) ∧ uw (giveW (wd x) (intAt ts (0 : Nat)) (1 : Int)) = uw (giveW (wd x) (intAt ts (0 : Nat)) (1 : Int)) ∧ SBlk.ty (one1 F) = SBlk.ty (one1 F) ∧ F = F ∧ (3 : TypeId) = (3 : Nat) ∧ Array.extract ts (1 : Nat) ((1 : Nat) + (kt - (1 : Nat)) * 1) = Array.extract ts (1 : Nat) ((1 : Nat) + (kt - (1 : Nat)) * 1) ∧ True)))) ∧ ((giveOk (wd (uw (giveW (wd x) (intAt ts (0 : Nat)) (1 : Int)))) (intAt ts (0 : Nat)) (1 : Int) == false) = false → False)) ∧ (((!giveOk (wd x) (intAt ts (0 : Nat)) (1 : Int)) == false) = false → False))) ∧ (decide ((↑kt : Int) > (0 : Int)) = false → (uw (wd x) = x ∧ True) ∧ (decide (wd x = BitVec.ofNat (64 : Nat) (0 : Nat)) = true → (uw (wd F) = F ∧ True) ∧ (decide (wd F = BitVec.ofNat (64 : Nat) (0 : Nat)) = true → Q4 none (0 : Int) ∧ CallKind.normal = CallKind.normal ∧ TodoOk (ren 2 []) td4 td4 ∧ Value.slice none (0 : Nat) (0 : Nat) = Value.slice none (0 : Nat) (0 : Nat) ∧ (0 : Int) = (0 : Int) ∧ Value.slice none (0 : Nat) (0 : Nat) = Value.slice none (0 : Nat) (0 : Nat) ∧ True) ∧ (decide (wd F = BitVec.ofNat (64 : Nat) (0 : Nat)) = false → (((0 : Int) != (↑(runsN (wd F)) : Int)) = true → False) ∧ (((0 : Int) != (↑(runsN (wd F)) : Int)) = false → False))) ∧ (decide (wd x = BitVec.ofNat (64 : Nat) (0 : Nat)) = false → (uw (wd F) = F ∧ True) ∧ (decide (wd F = BitVec.ofNat (64 : Nat) (0 : Nat)) = true → (((↑(runsN (wd x)) : Int) != (0 : Int)) = true → False) ∧ (((↑(runsN (wd x)) : Int) != (0 : Int)) = false → False)) ∧ (decide (wd F = BitVec.ofNat (64 : Nat) (0 : Nat)) = false → (((↑(runsN (wd x)) : Int) != (↑(runsN (wd F)) : Int)) = true → False) ∧ (((↑(runsN (wd x)) : Int) != (↑(runsN (wd F)) : Int)) = false → Q4 (some ((runsN (wd x), runsC (wd x)), runsN (wd F), runsC (wd F))) (0 : Int) ∧ CallKind.normal = CallKind.normal ∧ TodoOk (ren 2 [(2, 6), (3, 7)]) td4 td4 ∧ runsN (wd x) = runsN (wd x) ∧ (0 : Int) = (0 : Int) ∧ runsN (wd F) = runsN (wd F) ∧ (50 : TypeId) = (50 : TypeId) ∧ runsC (wd F) = runsC (wd F) ∧ (50 : TypeId) = (50 : TypeId) ∧ runsC (wd x) = runsC (wd x) ∧ True))))) := by kernel_rfl
theorem ow_start_f (I : In) (F : Int) (Q1 : Int → Tk → Int → Prop) (Q2 : Int → Int → Tk → Int → Int → Int → Int → Prop) (Q3 : Int → Tk → Int → Prop) (Q4 : Rw → Int → Prop) (pg : Int) : (owR I false pg).vc okRet (nxO I false F ⟨Q1, Q2, Q3, Q4⟩ td1 td2 td3 td4) =
    (((decide ((↑(In.n1 I) : Int) > (60 : Int)) == false) = true → Q1 (uw (lowW (clampN (ari BinOp.rem IntKind.i64 (IntKind.wrap IntKind.i64 pg) (65 : Int))))) none (0 : Int) ∧ CallKind.normal = CallKind.normal ∧ TodoOk (ren 2 [(2, 2), (3, 3)]) td1 td1 ∧ In.o1 I = In.o1 I ∧ In.n1 I = In.n1 I ∧ Value.slice none (0 : Nat) (0 : Nat) = Value.slice none (0 : Nat) (0 : Nat) ∧ Value.slice none (0 : Nat) (0 : Nat) = Value.slice none (0 : Nat) (0 : Nat) ∧ (0 : Int) = (0 : Int) ∧ In.ty I = In.ty I ∧ In.cs I = In.cs I ∧ SBlk.ty (one1 (uw (lowW (clampN (ari BinOp.rem IntKind.i64 (IntKind.wrap IntKind.i64 pg) (65 : Int)))))) = (26 : Nat) ∧ uw (lowW (clampN (ari BinOp.rem IntKind.i64 (IntKind.wrap IntKind.i64 pg) (65 : Int)))) = uw (lowW (clampN (ari BinOp.rem IntKind.i64 (IntKind.wrap IntKind.i64 pg) (65 : Int)))) ∧ SBlk.ty (one1 F) = (26 : Nat) ∧ F = uw (lowW (clampN (ari BinOp.rem IntKind.i64 (IntKind.wrap IntKind.i64 pg) (65 : Int)))) ∧ True) ∧ ((decide ((↑(In.n1 I) : Int) > (60 : Int)) == false) = false → True)) := by kernel_rfl
theorem ow_nil_f (I : In) (F : Int) (Q1 : Int → Tk → Int → Prop) (Q2 : Int → Int → Tk → Int → Int → Int → Int → Prop) (Q3 : Int → Tk → Int → Prop) (Q4 : Rw → Int → Prop) (pg : Int) : (run EO4 1000 2 (owNil I false pg) (inN I false)).vc okRet (nxO I false F ⟨Q1, Q2, Q3, Q4⟩ td1 td2 td3 td4) =
    ((uw (wd (uw (lowW (clampN (ari BinOp.rem IntKind.i64 (IntKind.wrap IntKind.i64 pg) (65 : Int)))))) = uw (lowW (clampN (ari BinOp.rem IntKind.i64 (IntKind.wrap IntKind.i64 pg) (65 : Int)))) ∧ True) ∧ (decide (wd (uw (lowW (clampN (ari BinOp.rem IntKind.i64 (IntKind.wrap IntKind.i64 pg) (65 : Int))))) = BitVec.ofNat (64 : Nat) (0 : Nat)) = true → (uw (wd (uw (lowW (clampN (ari BinOp.rem IntKind.i64 (IntKind.wrap IntKind.i64 pg) (65 : Int)))))) = uw (lowW (clampN (ari BinOp.rem IntKind.i64 (IntKind.wrap IntKind.i64 pg) (65 : Int)))) ∧ True) ∧ (decide (wd (uw (lowW (clampN (ari BinOp.rem IntKind.i64 (IntKind.wrap IntKind.i64 pg) (65 : Int))))) = BitVec.ofNat (64 : Nat) (0 : Nat)) = true → Q4 none (0 : Int) ∧ CallKind.normal = CallKind.normal ∧ TodoOk (ren 2 []) td4 td4 ∧ Value.slice none (0 : Nat) (0 : Nat) = Value.slice none (0 : Nat) (0 : Nat) ∧ (0 : Int) = (0 : Int) ∧ Value.slice none (0 : Nat) (0 : Nat) = Value.slice none (0 : Nat) (0 : Nat) ∧ True) ∧ (decide (wd (uw (lowW (clampN (ari BinOp.rem IntKind.i64 (IntKind.wrap IntKind.i64 pg) (65 : Int))))) = BitVec.ofNat (64 : Nat) (0 : Nat)) = false → (((0 : Int) != (↑(runsN (wd (uw (lowW (clampN (ari BinOp.rem IntKind.i64 (IntKind.wrap IntKind.i64 pg) (65 : Int))))))) : Int)) = true → False) ∧ (((0 : Int) != (↑(runsN (wd (uw (lowW (clampN (ari BinOp.rem IntKind.i64 (IntKind.wrap IntKind.i64 pg) (65 : Int))))))) : Int)) = false → False))) ∧ (decide (wd (uw (lowW (clampN (ari BinOp.rem IntKind.i64 (IntKind.wrap IntKind.i64 pg) (65 : Int))))) = BitVec.ofNat (64 : Nat) (0 : Nat)) = false → (uw (wd (uw (lowW (clampN (ari BinOp.rem IntKind.i64 (IntKind.wrap IntKind.i64 pg) (65 : Int)))))) = uw (lowW (clampN (ari BinOp.rem IntKind.i64 (IntKind.wrap IntKind.i64 pg) (65 : Int)))) ∧ True) ∧ (decide (wd (uw (lowW (clampN (ari BinOp.rem IntKind.i64 (IntKind.wrap IntKind.i64 pg) (65 : Int))))) = BitVec.ofNat (64 : Nat) (0 : Nat)) = true → (((↑(runsN (wd (uw (lowW (clampN (ari BinOp.rem IntKind.i64 (IntKind.wrap IntKind.i64 pg) (65 : Int))))))) : Int) != (0 : Int)) = true → False) ∧ (((↑(runsN (wd (uw (lowW (clampN (ari BinOp.rem IntKind.i64 (IntKind.wrap IntKind.i64 pg) (65 : Int))))))) : Int) != (0 : Int)) = false → False)) ∧ (decide (wd (uw (lowW (clampN (ari BinOp.rem IntKind.i64 (IntKind.wrap IntKind.i64 pg) (65 : Int))))) = BitVec.ofNat (64 : Nat) (0 : Nat)) = false → (((↑(runsN (wd (uw (lowW (clampN (ari BinOp.rem IntKind.i64 (IntKind.wrap IntKind.i64 pg) (65 : Int))))))) : Int) != (↑(runsN (wd (uw (lowW (clampN (ari BinOp.rem IntKind.i64 (IntKind.wrap IntKind.i64 pg) (65 : Int))))))) : Int)) = true → False) ∧ (((↑(runsN (wd (uw (lowW (clampN (ari BinOp.rem IntKind.i64 (IntKind.wrap IntKind.i64 pg) (65 : Int))))))) : Int) != (↑(runsN (wd (uw (lowW (clampN (ari BinOp.rem IntKind.i64 (IntKind.wrap IntKind.i64 pg) (65 : Int))))))) : Int)) = false → Q4 (some ((runsN (wd (uw (lowW (clampN (ari BinOp.rem IntKind.i64 (IntKind.wrap IntKind.i64 pg) (65 : Int)))))), runsC (wd (uw (lowW (clampN (ari BinOp.rem IntKind.i64 (IntKind.wrap IntKind.i64 pg) (65 : Int))))))), runsN (wd (uw (lowW (clampN (ari BinOp.rem IntKind.i64 (IntKind.wrap IntKind.i64 pg) (65 : Int)))))), runsC (wd (uw (lowW (clampN (ari BinOp.rem IntKind.i64 (IntKind.wrap IntKind.i64 pg) (65 : Int)))))))) (0 : Int) ∧ CallKind.normal = CallKind.normal ∧ TodoOk (ren 2 [(2, 4), (3, 5)]) td4 td4 ∧ runsN (wd (uw (lowW (clampN (ari BinOp.rem IntKind.i64 (IntKind.wrap IntKind.i64 pg) (65 : Int)))))) = runsN (wd (uw (lowW (clampN (ari BinOp.rem IntKind.i64 (IntKind.wrap IntKind.i64 pg) (65 : Int)))))) ∧ (0 : Int) = (0 : Int) ∧ runsN (wd (uw (lowW (clampN (ari BinOp.rem IntKind.i64 (IntKind.wrap IntKind.i64 pg) (65 : Int)))))) = runsN (wd (uw (lowW (clampN (ari BinOp.rem IntKind.i64 (IntKind.wrap IntKind.i64 pg) (65 : Int)))))) ∧ (50 : TypeId) = (50 : TypeId) ∧ runsC (wd (uw (lowW (clampN (ari BinOp.rem IntKind.i64 (IntKind.wrap IntKind.i64 pg) (65 : Int)))))) = runsC (wd (uw (lowW (clampN (ari BinOp.rem IntKind.i64 (IntKind.wrap IntKind.i64 pg) (65 : Int)))))) ∧ (50 : TypeId) = (50 : TypeId) ∧ runsC (wd (uw (lowW (clampN (ari BinOp.rem IntKind.i64 (IntKind.wrap IntKind.i64 pg) (65 : Int)))))) = runsC (wd (uw (lowW (clampN (ari BinOp.rem IntKind.i64 (IntKind.wrap IntKind.i64 pg) (65 : Int)))))) ∧ True)))) := by kernel_rfl
theorem ow1_fn (I : In) (F : Int) (Q1 : Int → Tk → Int → Prop) (Q2 : Int → Int → Tk → Int → Int → Int → Int → Prop) (Q3 : Int → Tk → Int → Prop) (Q4 : Rw → Int → Prop) (x i : Int) : (st1 th1 I false F x none i).vc okRet (nxO I false F ⟨Q1, Q2, Q3, Q4⟩ th1 td2 td3 td4) =
    ((decide (i < (↑(In.n1 I) : Int)) = true → (((0 : Int) ≤ i ∧ i < (↑(In.n1 I) : Int)) ∧ True) ∧ (IsInt IntKind.u8 (In.cs I) (In.o1 I + Int.toNat i * 1) ∧ True) ∧ (uw (wd x) = x ∧ True) ∧ ((!findOk (wd x) (ari BinOp.add IntKind.i64 (1 : Int) (ari BinOp.rem IntKind.i64 (IntKind.wrap IntKind.i64 (intAt (In.cs I) (In.o1 I + Int.toNat i * 1))) (8 : Int)))) = true → Q1 x none (ari BinOp.add IntKind.i64 i (1 : Int)) ∧ CallKind.normal = CallKind.normal ∧ TodoOk (ren 2 [(2, 2), (3, 3)]) th1 th1 ∧ In.o1 I = In.o1 I ∧ In.n1 I = In.n1 I ∧ Value.slice none (0 : Nat) (0 : Nat) = Value.slice none (0 : Nat) (0 : Nat) ∧ Value.slice none (0 : Nat) (0 : Nat) = Value.slice none (0 : Nat) (0 : Nat) ∧ ari BinOp.add IntKind.i64 i (1 : Int) = ari BinOp.add IntKind.i64 i (1 : Int) ∧ In.ty I = In.ty I ∧ In.cs I = In.cs I ∧ SBlk.ty (one1 x) = SBlk.ty (one1 x) ∧ x = x ∧ SBlk.ty (one1 F) = SBlk.ty (one1 F) ∧ F = F ∧ True) ∧ ((!findOk (wd x) (ari BinOp.add IntKind.i64 (1 : Int) (ari BinOp.rem IntKind.i64 (IntKind.wrap IntKind.i64 (intAt (In.cs I) (In.o1 I + Int.toNat i * 1))) (8 : Int)))) = false → (uw (wd x) = x ∧ True) ∧ (((!takeOk (wd x) (findI (wd x) (ari BinOp.add IntKind.i64 (1 : Int) (ari BinOp.rem IntKind.i64 (IntKind.wrap IntKind.i64 (intAt (In.cs I) (In.o1 I + Int.toNat i * 1))) (8 : Int)))) (ari BinOp.add IntKind.i64 (1 : Int) (ari BinOp.rem IntKind.i64 (IntKind.wrap IntKind.i64 (intAt (In.cs I) (In.o1 I + Int.toNat i * 1))) (8 : Int)))) == false) = true → (((ocI (uw (takeW (wd x) (findI (wd x) (ari BinOp.add IntKind.i64 (1 : Int) (ari BinOp.rem IntKind.i64 (IntKind.wrap IntKind.i64 (intAt (In.cs I) (In.o1 I + Int.toNat i * 1))) (8 : Int)))) (ari BinOp.add IntKind.i64 (1 : Int) (ari BinOp.rem IntKind.i64 (IntKind.wrap IntKind.i64 (intAt (In.cs I) (In.o1 I + Int.toNat i * 1))) (8 : Int))))) != ari BinOp.sub IntKind.i64 (ocI x) (ari BinOp.add IntKind.i64 (1 : Int) (ari BinOp.rem IntKind.i64 (IntKind.wrap IntKind.i64 (intAt (In.cs I) (In.o1 I + Int.toNat i * 1))) (8 : Int)))) == false) = true → ((ari BinOp.and IntKind.u64 (uw (takeW (wd x) (findI (wd x) (ari BinOp.add IntKind.i64 (1 : Int) (ari BinOp.rem IntKind.i64 (IntKind.wrap IntKind.i64 (intAt (In.cs I) (In.o1 I + Int.toNat i * 1))) (8 : Int)))) (ari BinOp.add IntKind.i64 (1 : Int) (ari BinOp.rem IntKind.i64 (IntKind.wrap IntKind.i64 (intAt (In.cs I) (In.o1 I + Int.toNat i * 1))) (8 : Int))))) x != uw (takeW (wd x) (findI (wd x) (ari BinOp.add IntKind.i64 (1 : Int) (ari BinOp.rem IntKind.i64 (IntKind.wrap IntKind.i64 (intAt (In.cs I) (In.o1 I + Int.toNat i * 1))) (8 : Int)))) (ari BinOp.add IntKind.i64 (1 : Int) (ari BinOp.rem IntKind.i64 (IntKind.wrap IntKind.i64 (intAt (In.cs I) (In.o1 I + Int.toNat i * 1))) (8 : Int))))) = true → False) ∧ ((ari BinOp.and IntKind.u64 (uw (takeW (wd x) (findI (wd x) (ari BinOp.add IntKind.i64 (1 : Int) (ari BinOp.rem IntKind.i64 (IntKind.wrap IntKind.i64 (intAt (In.cs I) (In.o1 I + Int.toNat i * 1))) (8 : Int)))) (ari BinOp.add IntKind.i64 (1 : Int) (ari BinOp.rem IntKind.i64 (IntKind.wrap IntKind.i64 (intAt (In.cs I) (In.o1 I + Int.toNat i * 1))) (8 : Int))))) x != uw (takeW (wd x) (findI (wd x) (ari BinOp.add IntKind.i64 (1 : Int) (ari BinOp.rem IntKind.i64 (IntKind.wrap IntKind.i64 (intAt (In.cs I) (In.o1 I + Int.toNat i * 1))) (8 : Int)))) (ari BinOp.add IntKind.i64 (1 : Int) (ari BinOp.rem IntKind.i64 (IntKind.wrap IntKind.i64 (intAt (In.cs I) (In.o1 I + Int.toNat i * 1))) (8 : Int))))) = false → Q2 x (uw (takeW (wd x) (findI (wd x) (ari BinOp.add IntKind.i64 (1 : Int) (ari BinOp.rem IntKind.i64 (IntKind.wrap IntKind.i64 (intAt (In.cs I) (In.o1 I + Int.toNat i * 1))) (8 : Int)))) (ari BinOp.add IntKind.i64 (1 : Int) (ari BinOp.rem IntKind.i64 (IntKind.wrap IntKind.i64 (intAt (In.cs I) (In.o1 I + Int.toNat i * 1))) (8 : Int))))) none i (ari BinOp.add IntKind.i64 (1 : Int) (ari BinOp.rem IntKind.i64 (IntKind.wrap IntKind.i64 (intAt (In.cs I) (In.o1 I + Int.toNat i * 1))) (8 : Int))) (findI (wd x) (ari BinOp.add IntKind.i64 (1 : Int) (ari BinOp.rem IntKind.i64 (IntKind.wrap IntKind.i64 (intAt (In.cs I) (In.o1 I + Int.toNat i * 1))) (8 : Int)))) (findI (wd x) (ari BinOp.add IntKind.i64 (1 : Int) (ari BinOp.rem IntKind.i64 (IntKind.wrap IntKind.i64 (intAt (In.cs I) (In.o1 I + Int.toNat i * 1))) (8 : Int)))) ∧ CallKind.normal = CallKind.normal ∧ TodoOk (ren 2 [(2, 2), (3, 3), (5, 6)]) td2 td2 ∧ In.o1 I = In.o1 I ∧ In.n1 I = In.n1 I ∧ ari BinOp.add IntKind.i64 (1 : Int) (ari BinOp.rem IntKind.i64 (IntKind.wrap IntKind.i64 (intAt (In.cs I) (In.o1 I + Int.toNat i * 1))) (8 : Int)) = ari BinOp.add IntKind.i64 (1 : Int) (ari BinOp.rem IntKind.i64 (IntKind.wrap IntKind.i64 (intAt (In.cs I) (In.o1 I + Int.toNat i * 1))) (8 : Int)) ∧ Value.slice none (0 : Nat) (0 : Nat) = Value.slice none (0 : Nat) (0 : Nat) ∧ Value.slice none (0 : Nat) (0 : Nat) = Value.slice none (0 : Nat) (0 : Nat) ∧ findI (wd x) (ari BinOp.add IntKind.i64 (1 : Int) (ari BinOp.rem IntKind.i64 (IntKind.wrap IntKind.i64 (intAt (In.cs I) (In.o1 I + Int.toNat i * 1))) (8 : Int))) = findI (wd x) (ari BinOp.add IntKind.i64 (1 : Int) (ari BinOp.rem IntKind.i64 (IntKind.wrap IntKind.i64 (intAt (In.cs I) (In.o1 I + Int.toNat i * 1))) (8 : Int))) ∧ findI (wd x) (ari BinOp.add IntKind.i64 (1 : Int) (ari BinOp.rem IntKind.i64 (IntKind.wrap IntKind.i64 (intAt (In.cs I) (In.o1 I + Int.toNat i * 1))) (8 : Int))) = findI (wd x) (ari BinOp.add IntKind.i64 (1 : Int) (ari BinOp.rem IntKind.i64 (IntKind.wrap IntKind.i64 (intAt (In.cs I) (In.o1 I + Int.toNat i * 1))) (8 : Int))) ∧ i = i ∧ In.ty I = In.ty I ∧ In.cs I = In.cs I ∧ SBlk.ty (one1 x) = SBlk.ty (one1 x) ∧ x = x ∧ SBlk.ty (one1 (uw (takeW (wd x) (findI (wd x) (ari BinOp.add IntKind.i64 (1 : Int) (ari BinOp.rem IntKind.i64 (IntKind.wrap IntKind.i64 (intAt (In.cs I) (In.o1 I + Int.toNat i * 1))) (8 : Int)))) (ari BinOp.add IntKind.i64 (1 : Int) (ari BinOp.rem IntKind.i64 (IntKind.wrap IntKind.i64 (intAt (In.cs I) (In.o1 I + Int.toNat i * 1))) (8 : Int)))))) = (26 : Nat) ∧ uw (takeW (wd x) (findI (wd x) (ari BinOp.add IntKind.i64 (1 : Int) (ari BinOp.rem IntKind.i64 (IntKind.wrap IntKind.i64 (intAt (In.cs I) (In.o1 I + Int.toNat i * 1))) (8 : Int)))) (ari BinOp.add IntKind.i64 (1 : Int) (ari BinOp.rem IntKind.i64 (IntKind.wrap IntKind.i64 (intAt (In.cs I) (In.o1 I + Int.toNat i * 1))) (8 : Int)))) = uw (takeW (wd x) (findI (wd x) (ari BinOp.add IntKind.i64 (1 : Int) (ari BinOp.rem IntKind.i64 (IntKind.wrap IntKind.i64 (intAt (In.cs I) (In.o1 I + Int.toNat i * 1))) (8 : Int)))) (ari BinOp.add IntKind.i64 (1 : Int) (ari BinOp.rem IntKind.i64 (IntKind.wrap IntKind.i64 (intAt (In.cs I) (In.o1 I + Int.toNat i * 1))) (8 : Int)))) ∧ SBlk.ty (one1 F) = SBlk.ty (one1 F) ∧ F = F ∧ True)) ∧ (((ocI (uw (takeW (wd x) (findI (wd x) (ari BinOp.add IntKind.i64 (1 : Int) (ari BinOp.rem IntKind.i64 (IntKind.wrap IntKind.i64 (intAt (In.cs I) (In.o1 I + Int.toNat i * 1))) (8 : Int)))) (ari BinOp.add IntKind.i64 (1 : Int) (ari BinOp.rem IntKind.i64 (IntKind.wrap IntKind.i64 (intAt (In.cs I) (In.o1 I + Int.toNat i * 1))) (8 : Int))))) != ari BinOp.sub IntKind.i64 (ocI x) (ari BinOp.add IntKind.i64 (1 : Int) (ari BinOp.rem IntKind.i64 (IntKind.wrap IntKind.i64 (intAt (In.cs I) (In.o1 I + Int.toNat i * 1))) (8 : Int)))) == false) = false → False)) ∧ (((!takeOk (wd x) (findI (wd x) (ari BinOp.add IntKind.i64 (1 : Int) (ari BinOp.rem IntKind.i64 (IntKind.wrap IntKind.i64 (intAt (In.cs I) (In.o1 I + Int.toNat i * 1))) (8 : Int)))) (ari BinOp.add IntKind.i64 (1 : Int) (ari BinOp.rem IntKind.i64 (IntKind.wrap IntKind.i64 (intAt (In.cs I) (In.o1 I + Int.toNat i * 1))) (8 : Int)))) == false) = false → False))) ∧ (decide (i < (↑(In.n1 I) : Int)) = false → Q3 x none (0 : Int) ∧ CallKind.normal = CallKind.normal ∧ TodoOk (ren 2 [(2, 2), (3, 3)]) td3 td3 ∧ Value.slice none (0 : Nat) (0 : Nat) = Value.slice none (0 : Nat) (0 : Nat) ∧ (0 : Int) = (0 : Int) ∧ Value.slice none (0 : Nat) (0 : Nat) = Value.slice none (0 : Nat) (0 : Nat) ∧ In.ty I = In.ty I ∧ In.cs I = In.cs I ∧ SBlk.ty (one1 x) = SBlk.ty (one1 x) ∧ x = x ∧ SBlk.ty (one1 F) = SBlk.ty (one1 F) ∧ F = F ∧ True)) := by kernel_rfl
theorem ow2_fn (I : In) (F : Int) (Q1 : Int → Tk → Int → Prop) (Q2 : Int → Int → Tk → Int → Int → Int → Int → Prop) (Q3 : Int → Tk → Int → Prop) (Q4 : Rw → Int → Prop) (x y i n a k : Int) : (st2 th2 I false F x y none i n a k).vc okRet (nxO I false F ⟨Q1, Q2, Q3, Q4⟩ th1 th2 td3 td4) =
    ((decide (k < ari BinOp.add IntKind.i64 a n) = true → (uw (wd x) = x ∧ True) ∧ (((!(decide ((0 : Int) ≤ k) && BitVec.getLsbD (wd x) (Int.toNat k))) == false) = true → (uw (wd y) = y ∧ True) ∧ ((decide ((0 : Int) ≤ k) && BitVec.getLsbD (wd y) (Int.toNat k)) = true → False) ∧ ((decide ((0 : Int) ≤ k) && BitVec.getLsbD (wd y) (Int.toNat k)) = false → Q2 x y (some ((1 : Nat), #[Value.int IntKind.i64 k])) i n a (ari BinOp.add IntKind.i64 k (1 : Int)) ∧ CallKind.normal = CallKind.normal ∧ TodoOk (ren 2 [(2, 2), (3, 3), (5, 5), (4, 7)]) th2 th2 ∧ In.o1 I = In.o1 I ∧ In.n1 I = In.n1 I ∧ n = n ∧ (1 : Nat) = (1 : Nat) ∧ Value.slice none (0 : Nat) (0 : Nat) = Value.slice none (0 : Nat) (0 : Nat) ∧ ari BinOp.add IntKind.i64 k (1 : Int) = ari BinOp.add IntKind.i64 k (1 : Int) ∧ a = a ∧ i = i ∧ In.ty I = In.ty I ∧ In.cs I = In.cs I ∧ SBlk.ty (one1 x) = SBlk.ty (one1 x) ∧ x = x ∧ SBlk.ty (one1 y) = SBlk.ty (one1 y) ∧ y = y ∧ SBlk.ty (one1 F) = SBlk.ty (one1 F) ∧ F = F ∧ (3 : TypeId) = (3 : Nat) ∧ #[Value.int IntKind.i64 k] = #[Value.int IntKind.i64 k] ∧ True)) ∧ (((!(decide ((0 : Int) ≤ k) && BitVec.getLsbD (wd x) (Int.toNat k))) == false) = false → False)) ∧ (decide (k < ari BinOp.add IntKind.i64 a n) = false → Q1 y none (ari BinOp.add IntKind.i64 i (1 : Int)) ∧ CallKind.normal = CallKind.normal ∧ TodoOk (ren 2 [(2, 2), (3, 3)]) th1 th1 ∧ In.o1 I = In.o1 I ∧ In.n1 I = In.n1 I ∧ Value.slice none (0 : Nat) (0 : Nat) = Value.slice none (0 : Nat) (0 : Nat) ∧ Value.slice none (0 : Nat) (0 : Nat) = Value.slice none (0 : Nat) (0 : Nat) ∧ ari BinOp.add IntKind.i64 i (1 : Int) = ari BinOp.add IntKind.i64 i (1 : Int) ∧ In.ty I = In.ty I ∧ In.cs I = In.cs I ∧ SBlk.ty (one1 y) = SBlk.ty (one1 x) ∧ y = y ∧ SBlk.ty (one1 F) = SBlk.ty (one1 F) ∧ F = F ∧ True)) := by kernel_rfl
theorem ow3_fn (I : In) (F : Int) (Q1 : Int → Tk → Int → Prop) (Q2 : Int → Int → Tk → Int → Int → Int → Int → Prop) (Q3 : Int → Tk → Int → Prop) (Q4 : Rw → Int → Prop) (x i : Int) : (st3 th3 I false F x none i).vc okRet (nxO I false F ⟨Q1, Q2, Q3, Q4⟩ th1 th2 th3 td4) =
    ((uw (wd x) = x ∧ True) ∧ (decide (wd x = BitVec.ofNat (64 : Nat) (0 : Nat)) = true → (uw (wd F) = F ∧ True) ∧ (decide (wd F = BitVec.ofNat (64 : Nat) (0 : Nat)) = true → Q4 none (0 : Int) ∧ CallKind.normal = CallKind.normal ∧ TodoOk (ren 2 []) td4 td4 ∧ Value.slice none (0 : Nat) (0 : Nat) = Value.slice none (0 : Nat) (0 : Nat) ∧ (0 : Int) = (0 : Int) ∧ Value.slice none (0 : Nat) (0 : Nat) = Value.slice none (0 : Nat) (0 : Nat) ∧ True) ∧ (decide (wd F = BitVec.ofNat (64 : Nat) (0 : Nat)) = false → (((0 : Int) != (↑(runsN (wd F)) : Int)) = true → False) ∧ (((0 : Int) != (↑(runsN (wd F)) : Int)) = false → False))) ∧ (decide (wd x = BitVec.ofNat (64 : Nat) (0 : Nat)) = false → (uw (wd F) = F ∧ True) ∧ (decide (wd F = BitVec.ofNat (64 : Nat) (0 : Nat)) = true → (((↑(runsN (wd x)) : Int) != (0 : Int)) = true → False) ∧ (((↑(runsN (wd x)) : Int) != (0 : Int)) = false → False)) ∧ (decide (wd F = BitVec.ofNat (64 : Nat) (0 : Nat)) = false → (((↑(runsN (wd x)) : Int) != (↑(runsN (wd F)) : Int)) = true → False) ∧ (((↑(runsN (wd x)) : Int) != (↑(runsN (wd F)) : Int)) = false → Q4 (some ((runsN (wd x), runsC (wd x)), runsN (wd F), runsC (wd F))) (0 : Int) ∧ CallKind.normal = CallKind.normal ∧ TodoOk (ren 2 [(2, 6), (3, 7)]) td4 td4 ∧ runsN (wd x) = runsN (wd x) ∧ (0 : Int) = (0 : Int) ∧ runsN (wd F) = runsN (wd F) ∧ (50 : TypeId) = (50 : TypeId) ∧ runsC (wd F) = runsC (wd F) ∧ (50 : TypeId) = (50 : TypeId) ∧ runsC (wd x) = runsC (wd x) ∧ True)))) := by kernel_rfl
theorem ow1_fs (I : In) (F : Int) (Q1 : Int → Tk → Int → Prop) (Q2 : Int → Int → Tk → Int → Int → Int → Int → Prop) (Q3 : Int → Tk → Int → Prop) (Q4 : Rw → Int → Prop) (x i : Int) (kt : Nat) (ts : Array Value) : (st1 th1 I false F x (some (kt, ts)) i).vc okRet (nxO I false F ⟨Q1, Q2, Q3, Q4⟩ th1 td2 td3 td4) =
    ((decide (i < (↑(In.n1 I) : Int)) = true → (((0 : Int) ≤ i ∧ i < (↑(In.n1 I) : Int)) ∧ True) ∧ (IsInt IntKind.u8 (In.cs I) (In.o1 I + Int.toNat i * 1) ∧ True) ∧ (uw (wd x) = x ∧ True) ∧ ((!findOk (wd x) (ari BinOp.add IntKind.i64 (1 : Int) (ari BinOp.rem IntKind.i64 (IntKind.wrap IntKind.i64 (intAt (In.cs I) (In.o1 I + Int.toNat i * 1))) (8 : Int)))) = true → Q1 x (some (kt, ts)) (ari BinOp.add IntKind.i64 i (1 : Int)) ∧ CallKind.normal = CallKind.normal ∧ TodoOk (ren 2 [(2, 2), (3, 3), (4, 4)]) th1 th1 ∧ In.o1 I = In.o1 I ∧ In.n1 I = In.n1 I ∧ kt = kt ∧ Value.slice none (0 : Nat) (0 : Nat) = Value.slice none (0 : Nat) (0 : Nat) ∧ ari BinOp.add IntKind.i64 i (1 : Int) = ari BinOp.add IntKind.i64 i (1 : Int) ∧ In.ty I = In.ty I ∧ In.cs I = In.cs I ∧ SBlk.ty (one1 x) = SBlk.ty (one1 x) ∧ x = x ∧ SBlk.ty (one1 F) = SBlk.ty (one1 F) ∧ F = F ∧ (3 : TypeId) = (3 : TypeId) ∧ ts = ts ∧ True) ∧ ((!findOk (wd x) (ari BinOp.add IntKind.i64 (1 : Int) (ari BinOp.rem IntKind.i64 (IntKind.wrap IntKind.i64 (intAt (In.cs I) (In.o1 I + Int.toNat i * 1))) (8 : Int)))) = false → (uw (wd x) = x ∧ True) ∧ (((!takeOk (wd x) (findI (wd x) (ari BinOp.add IntKind.i64 (1 : Int) (ari BinOp.rem IntKind.i64 (IntKind.wrap IntKind.i64 (intAt (In.cs I) (In.o1 I + Int.toNat i * 1))) (8 : Int)))) (ari BinOp.add IntKind.i64 (1 : Int) (ari BinOp.rem IntKind.i64 (IntKind.wrap IntKind.i64 (intAt (In.cs I) (In.o1 I + Int.toNat i * 1))) (8 : Int)))) == false) = true → (((ocI (uw (takeW (wd x) (findI (wd x) (ari BinOp.add IntKind.i64 (1 : Int) (ari BinOp.rem IntKind.i64 (IntKind.wrap IntKind.i64 (intAt (In.cs I) (In.o1 I + Int.toNat i * 1))) (8 : Int)))) (ari BinOp.add IntKind.i64 (1 : Int) (ari BinOp.rem IntKind.i64 (IntKind.wrap IntKind.i64 (intAt (In.cs I) (In.o1 I + Int.toNat i * 1))) (8 : Int))))) != ari BinOp.sub IntKind.i64 (ocI x) (ari BinOp.add IntKind.i64 (1 : Int) (ari BinOp.rem IntKind.i64 (IntKind.wrap IntKind.i64 (intAt (In.cs I) (In.o1 I + Int.toNat i * 1))) (8 : Int)))) == false) = true → ((ari BinOp.and IntKind.u64 (uw (takeW (wd x) (findI (wd x) (ari BinOp.add IntKind.i64 (1 : Int) (ari BinOp.rem IntKind.i64 (IntKind.wrap IntKind.i64 (intAt (In.cs I) (In.o1 I + Int.toNat i * 1))) (8 : Int)))) (ari BinOp.add IntKind.i64 (1 : Int) (ari BinOp.rem IntKind.i64 (IntKind.wrap IntKind.i64 (intAt (In.cs I) (In.o1 I + Int.toNat i * 1))) (8 : Int))))) x != uw (takeW (wd x) (findI (wd x) (ari BinOp.add IntKind.i64 (1 : Int) (ari BinOp.rem IntKind.i64 (IntKind.wrap IntKind.i64 (intAt (In.cs I) (In.o1 I + Int.toNat i * 1))) (8 : Int)))) (ari BinOp.add IntKind.i64 (1 : Int) (ari BinOp.rem IntKind.i64 (IntKind.wrap IntKind.i64 (intAt (In.cs I) (In.o1 I + Int.toNat i * 1))) (8 : Int))))) = true → False) ∧ ((ari BinOp.and IntKind.u64 (uw (takeW (wd x) (findI (wd x) (ari BinOp.add IntKind.i64 (1 : Int) (ari BinOp.rem IntKind.i64 (IntKind.wrap IntKind.i64 (intAt (In.cs I) (In.o1 I + Int.toNat i * 1))) (8 : Int)))) (ari BinOp.add IntKind.i64 (1 : Int) (ari BinOp.rem IntKind.i64 (IntKind.wrap IntKind.i64 (intAt (In.cs I) (In.o1 I + Int.toNat i * 1))) (8 : Int))))) x != uw (takeW (wd x) (findI (wd x) (ari BinOp.add IntKind.i64 (1 : Int) (ari BinOp.rem IntKind.i64 (IntKind.wrap IntKind.i64 (intAt (In.cs I) (In.o1 I + Int.toNat i * 1))) (8 : Int)))) (ari BinOp.add IntKind.i64 (1 : Int) (ari BinOp.rem IntKind.i64 (IntKind.wrap IntKind.i64 (intAt (In.cs I) (In.o1 I + Int.toNat i * 1))) (8 : Int))))) = false → Q2 x (uw (takeW (wd x) (findI (wd x) (ari BinOp.add IntKind.i64 (1 : Int) (ari BinOp.rem IntKind.i64 (IntKind.wrap IntKind.i64 (intAt (In.cs I) (In.o1 I + Int.toNat i * 1))) (8 : Int)))) (ari BinOp.add IntKind.i64 (1 : Int) (ari BinOp.rem IntKind.i64 (IntKind.wrap IntKind.i64 (intAt (In.cs I) (In.o1 I + Int.toNat i * 1))) (8 : Int))))) (some (kt, ts)) i (ari BinOp.add IntKind.i64 (1 : Int) (ari BinOp.rem IntKind.i64 (IntKind.wrap IntKind.i64 (intAt (In.cs I) (In.o1 I + Int.toNat i * 1))) (8 : Int))) (findI (wd x) (ari BinOp.add IntKind.i64 (1 : Int) (ari BinOp.rem IntKind.i64 (IntKind.wrap IntKind.i64 (intAt (In.cs I) (In.o1 I + Int.toNat i * 1))) (8 : Int)))) (findI (wd x) (ari BinOp.add IntKind.i64 (1 : Int) (ari BinOp.rem IntKind.i64 (IntKind.wrap IntKind.i64 (intAt (In.cs I) (In.o1 I + Int.toNat i * 1))) (8 : Int)))) ∧ CallKind.normal = CallKind.normal ∧ TodoOk (ren 2 [(2, 2), (3, 3), (5, 6), (4, 4)]) td2 td2 ∧ In.o1 I = In.o1 I ∧ In.n1 I = In.n1 I ∧ ari BinOp.add IntKind.i64 (1 : Int) (ari BinOp.rem IntKind.i64 (IntKind.wrap IntKind.i64 (intAt (In.cs I) (In.o1 I + Int.toNat i * 1))) (8 : Int)) = ari BinOp.add IntKind.i64 (1 : Int) (ari BinOp.rem IntKind.i64 (IntKind.wrap IntKind.i64 (intAt (In.cs I) (In.o1 I + Int.toNat i * 1))) (8 : Int)) ∧ kt = kt ∧ Value.slice none (0 : Nat) (0 : Nat) = Value.slice none (0 : Nat) (0 : Nat) ∧ findI (wd x) (ari BinOp.add IntKind.i64 (1 : Int) (ari BinOp.rem IntKind.i64 (IntKind.wrap IntKind.i64 (intAt (In.cs I) (In.o1 I + Int.toNat i * 1))) (8 : Int))) = findI (wd x) (ari BinOp.add IntKind.i64 (1 : Int) (ari BinOp.rem IntKind.i64 (IntKind.wrap IntKind.i64 (intAt (In.cs I) (In.o1 I + Int.toNat i * 1))) (8 : Int))) ∧ findI (wd x) (ari BinOp.add IntKind.i64 (1 : Int) (ari BinOp.rem IntKind.i64 (IntKind.wrap IntKind.i64 (intAt (In.cs I) (In.o1 I + Int.toNat i * 1))) (8 : Int))) = findI (wd x) (ari BinOp.add IntKind.i64 (1 : Int) (ari BinOp.rem IntKind.i64 (IntKind.wrap IntKind.i64 (intAt (In.cs I) (In.o1 I + Int.toNat i * 1))) (8 : Int))) ∧ i = i ∧ In.ty I = In.ty I ∧ In.cs I = In.cs I ∧ SBlk.ty (one1 x) = SBlk.ty (one1 x) ∧ x = x ∧ SBlk.ty (one1 (uw (takeW (wd x) (findI (wd x) (ari BinOp.add IntKind.i64 (1 : Int) (ari BinOp.rem IntKind.i64 (IntKind.wrap IntKind.i64 (intAt (In.cs I) (In.o1 I + Int.toNat i * 1))) (8 : Int)))) (ari BinOp.add IntKind.i64 (1 : Int) (ari BinOp.rem IntKind.i64 (IntKind.wrap IntKind.i64 (intAt (In.cs I) (In.o1 I + Int.toNat i * 1))) (8 : Int)))))) = (26 : Nat) ∧ uw (takeW (wd x) (findI (wd x) (ari BinOp.add IntKind.i64 (1 : Int) (ari BinOp.rem IntKind.i64 (IntKind.wrap IntKind.i64 (intAt (In.cs I) (In.o1 I + Int.toNat i * 1))) (8 : Int)))) (ari BinOp.add IntKind.i64 (1 : Int) (ari BinOp.rem IntKind.i64 (IntKind.wrap IntKind.i64 (intAt (In.cs I) (In.o1 I + Int.toNat i * 1))) (8 : Int)))) = uw (takeW (wd x) (findI (wd x) (ari BinOp.add IntKind.i64 (1 : Int) (ari BinOp.rem IntKind.i64 (IntKind.wrap IntKind.i64 (intAt (In.cs I) (In.o1 I + Int.toNat i * 1))) (8 : Int)))) (ari BinOp.add IntKind.i64 (1 : Int) (ari BinOp.rem IntKind.i64 (IntKind.wrap IntKind.i64 (intAt (In.cs I) (In.o1 I + Int.toNat i * 1))) (8 : Int)))) ∧ SBlk.ty (one1 F) = SBlk.ty (one1 F) ∧ F = F ∧ (3 : TypeId) = (3 : TypeId) ∧ ts = ts ∧ True)) ∧ (((ocI (uw (takeW (wd x) (findI (wd x) (ari BinOp.add IntKind.i64 (1 : Int) (ari BinOp.rem IntKind.i64 (IntKind.wrap IntKind.i64 (intAt (In.cs I) (In.o1 I + Int.toNat i * 1))) (8 : Int)))) (ari BinOp.add IntKind.i64 (1 : Int) (ari BinOp.rem IntKind.i64 (IntKind.wrap IntKind.i64 (intAt (In.cs I) (In.o1 I + Int.toNat i * 1))) (8 : Int))))) != ari BinOp.sub IntKind.i64 (ocI x) (ari BinOp.add IntKind.i64 (1 : Int) (ari BinOp.rem IntKind.i64 (IntKind.wrap IntKind.i64 (intAt (In.cs I) (In.o1 I + Int.toNat i * 1))) (8 : Int)))) == false) = false → False)) ∧ (((!takeOk (wd x) (findI (wd x) (ari BinOp.add IntKind.i64 (1 : Int) (ari BinOp.rem IntKind.i64 (IntKind.wrap IntKind.i64 (intAt (In.cs I) (In.o1 I + Int.toNat i * 1))) (8 : Int)))) (ari BinOp.add IntKind.i64 (1 : Int) (ari BinOp.rem IntKind.i64 (IntKind.wrap IntKind.i64 (intAt (In.cs I) (In.o1 I + Int.toNat i * 1))) (8 : Int)))) == false) = false → False))) ∧ (decide (i < (↑(In.n1 I) : Int)) = false → Q3 x (some (kt, ts)) (0 : Int) ∧ CallKind.normal = CallKind.normal ∧ TodoOk (ren 2 [(2, 2), (3, 3), (4, 4)]) td3 td3 ∧ kt = kt ∧ (0 : Int) = (0 : Int) ∧ Value.slice none (0 : Nat) (0 : Nat) = Value.slice none (0 : Nat) (0 : Nat) ∧ In.ty I = In.ty I ∧ In.cs I = In.cs I ∧ SBlk.ty (one1 x) = SBlk.ty (one1 x) ∧ x = x ∧ SBlk.ty (one1 F) = SBlk.ty (one1 F) ∧ F = F ∧ (3 : TypeId) = (3 : TypeId) ∧ ts = ts ∧ True)) := by kernel_rfl
theorem ow2_fs (I : In) (F : Int) (Q1 : Int → Tk → Int → Prop) (Q2 : Int → Int → Tk → Int → Int → Int → Int → Prop) (Q3 : Int → Tk → Int → Prop) (Q4 : Rw → Int → Prop) (x y i n a k : Int) (kt : Nat) (ts : Array Value) : (st2 th2 I false F x y (some (kt, ts)) i n a k).vc okRet (nxO I false F ⟨Q1, Q2, Q3, Q4⟩ th1 th2 td3 td4) =
    ((decide (k < ari BinOp.add IntKind.i64 a n) = true → (uw (wd x) = x ∧ True) ∧ (((!(decide ((0 : Int) ≤ k) && BitVec.getLsbD (wd x) (Int.toNat k))) == false) = true → (uw (wd y) = y ∧ True) ∧ ((decide ((0 : Int) ≤ k) && BitVec.getLsbD (wd y) (Int.toNat k)) = true → False) ∧ ((decide ((0 : Int) ≤ k) && BitVec.getLsbD (wd y) (Int.toNat k)) = false → (((kt + 1) * 8 ≤ (140737488355328 : Nat) ∧ kt + 1 ≤ (140737488355328 : Nat)) ∧ kt * 1 = Array.size ts ∧ True) ∧ Q2 x y (some (kt + 1, ts ++ #[Value.int IntKind.i64 k])) i n a (ari BinOp.add IntKind.i64 k (1 : Int)) ∧ CallKind.normal = CallKind.normal ∧ TodoOk (ren 2 [(2, 2), (3, 3), (5, 5), (4, 7)]) th2 th2 ∧ In.o1 I = In.o1 I ∧ In.n1 I = In.n1 I ∧ n = n ∧ kt + 1 = kt + 1 ∧ Value.slice none (0 : Nat) (0 : Nat) = Value.slice none (0 : Nat) (0 : Nat) ∧ ari BinOp.add IntKind.i64 k (1 : Int) = ari BinOp.add IntKind.i64 k (1 : Int) ∧ a = a ∧ i = i ∧ In.ty I = In.ty I ∧ In.cs I = In.cs I ∧ SBlk.ty (one1 x) = SBlk.ty (one1 x) ∧ x = x ∧ SBlk.ty (one1 y) = SBlk.ty (one1 y) ∧ y = y ∧ SBlk.ty (one1 F) = SBlk.ty (one1 F) ∧ F = F ∧ (3 : TypeId) = (3 : Nat) ∧ ts ++ #[Value.int IntKind.i64 k] = ts ++ #[Value.int IntKind.i64 k] ∧ True)) ∧ (((!(decide ((0 : Int) ≤ k) && BitVec.getLsbD (wd x) (Int.toNat k))) == false) = false → False)) ∧ (decide (k < ari BinOp.add IntKind.i64 a n) = false → Q1 y (some (kt, ts)) (ari BinOp.add IntKind.i64 i (1 : Int)) ∧ CallKind.normal = CallKind.normal ∧ TodoOk (ren 2 [(2, 2), (3, 3), (4, 4)]) th1 th1 ∧ In.o1 I = In.o1 I ∧ In.n1 I = In.n1 I ∧ kt = kt ∧ Value.slice none (0 : Nat) (0 : Nat) = Value.slice none (0 : Nat) (0 : Nat) ∧ ari BinOp.add IntKind.i64 i (1 : Int) = ari BinOp.add IntKind.i64 i (1 : Int) ∧ In.ty I = In.ty I ∧ In.cs I = In.cs I ∧ SBlk.ty (one1 y) = SBlk.ty (one1 x) ∧ y = y ∧ SBlk.ty (one1 F) = SBlk.ty (one1 F) ∧ F = F ∧ (3 : TypeId) = (3 : TypeId) ∧ ts = ts ∧ True)) := by kernel_rfl
theorem ow3_fs (I : In) (F : Int) (Q1 : Int → Tk → Int → Prop) (Q2 : Int → Int → Tk → Int → Int → Int → Int → Prop) (Q3 : Int → Tk → Int → Prop) (Q4 : Rw → Int → Prop) (x i : Int) (kt : Nat) (ts : Array Value) : (st3 th3 I false F x (some (kt, ts)) i).vc okRet (nxO I false F ⟨Q1, Q2, Q3, Q4⟩ th1 th2 th3 td4) =
    ((decide ((↑kt : Int) > (0 : Int)) = true → (decide (i < (0 : Int)) = true → False) ∧ (decide (i < (0 : Int)) = false → (((0 : Int) ≤ (0 : Int) ∧ (0 : Int) < (↑kt : Int)) ∧ True) ∧ (IsInt IntKind.i64 ts (0 : Nat) ∧ True) ∧ (uw (wd x) = x ∧ True) ∧ (((0 : Int) ≤ (0 : Int) ∧ (0 : Int) < (↑kt : Int)) ∧ True) ∧ (IsInt IntKind.i64 ts (0 : Nat) ∧ True) ∧ (uw (wd (uw (giveW (wd x) (intAt ts (0 : Nat)) (1 : Int)))) = uw (giveW (wd x) (intAt ts (0 : Nat)) (1 : Int)) ∧ True) ∧ (((!giveOk (wd x) (intAt ts (0 : Nat)) (1 : Int)) == false) = true → ((giveOk (wd (uw (giveW (wd x) (intAt ts (0 : Nat)) (1 : Int)))) (intAt ts (0 : Nat)) (1 : Int) == false) = true → ((ocI (uw (giveW (wd x) (intAt ts (0 : Nat)) (1 : Int))) != ari BinOp.add IntKind.i64 (ocI x) (1 : Int)) = true → False) ∧ ((ocI (uw (giveW (wd x) (intAt ts (0 : Nat)) (1 : Int))) != ari BinOp.add IntKind.i64 (ocI x) (1 : Int)) = false → ((0 : Nat) ≤ kt ∧ True) ∧ (decide ((1 : Nat) = kt) = true → ((1 : Nat) ≤ kt ∧ True) ∧ Q3 (uw (giveW (wd x) (intAt ts (0 : Nat)) (1 : Int))) none (ari BinOp.add IntKind.i64 i (1 : Int)) ∧ CallKind.normal = CallKind.normal ∧ TodoOk (ren 2 [(2, 2), (3, 3)]) th3 th3 ∧ Value.slice none (0 : Nat) (0 : Nat) = Value.slice none (0 : Nat) (0 : Nat) ∧ ari BinOp.add IntKind.i64 i (1 : Int) = ari BinOp.add IntKind.i64 i (1 : Int) ∧ Value.slice none (0 : Nat) (0 : Nat) = Value.slice none (0 : Nat) (0 : Nat) ∧ In.ty I = In.ty I ∧ In.cs I = In.cs I ∧ SBlk.ty (one1 (uw (giveW (wd x) (intAt ts (0 : Nat)) (1 : Int)))) = SBlk.ty (one1 x) ∧ uw (giveW (wd x) (intAt ts (0 : Nat)) (1 : Int)) = uw (giveW (wd x) (intAt ts (0 : Nat)) (1 : Int)) ∧ SBlk.ty (one1 F) = SBlk.ty (one1 F) ∧ F = F ∧ True) ∧ (decide ((1 : Nat) = kt) = false → ((1 : Nat) ≤ kt ∧ (1 : Nat) < kt ∧ True) ∧ (decide (kt - (1 : Nat) = (0 : Nat)) = true → Q3 (uw (giveW (wd x) (intAt ts (0 : Nat)) (1 : Int))) none (ari BinOp.add IntKind.i64 i (1 : Int)) ∧ CallKind.normal = CallKind.normal ∧ TodoOk (ren 2 [(2, 2), (3, 3)]) th3 th3 ∧ Value.slice none (0 : Nat) (0 : Nat) = Value.slice none (0 : Nat) (0 : Nat) ∧ ari BinOp.add IntKind.i64 i (1 : Int) = ari BinOp.add IntKind.i64 i (1 : Int) ∧ Value.slice none (0 : Nat) (0 : Nat) = Value.slice none (0 : Nat) (0 : Nat) ∧ In.ty I = In.ty I ∧ In.cs I = In.cs I ∧ SBlk.ty (one1 (uw (giveW (wd x) (intAt ts (0 : Nat)) (1 : Int)))) = SBlk.ty (one1 x) ∧ uw (giveW (wd x) (intAt ts (0 : Nat)) (1 : Int)) = uw (giveW (wd x) (intAt ts (0 : Nat)) (1 : Int)) ∧ SBlk.ty (one1 F) = SBlk.ty (one1 F) ∧ F = F ∧ True) ∧ (decide (kt - (1 : Nat) = (0 : Nat)) = false → ((1 : Nat) + (kt - (1 : Nat)) * 1 ≤ Array.size ts ∧ (0 : Nat) < kt - (1 : Nat) ∧ (((0 : Nat) + (kt - (1 : Nat))) * 8 ≤ (140737488355328 : Nat) ∧ (0 : Nat) + (kt - (1 : Nat)) ≤ (140737488355328 : Nat)) ∧ True) ∧ Q3 (uw (giveW (wd x) (intAt ts (0 : Nat)) (1 : Int))) (some (kt - (1 : Nat), Array.extract ts (1 : Nat) ((1 : Nat) + (kt - (1 : Nat)) * 1))) (ari BinOp.add IntKind.i64 i (1 : Int)) ∧ CallKind.normal = CallKind.normal ∧ TodoOk (ren 2 [(2, 2), (3, 3), (4, 11)]) th3 th3 ∧ kt - (1 : Nat) = kt - (1 : Nat) ∧ ari BinOp.add IntKind.i64 i (1 : Int) = ari BinOp.add IntKind.i64 i (1 : Int) ∧ Value.slice none (0 : Nat) (0 : Nat) = Value.slice none (0 : Nat) (0 : Nat) ∧ In.ty I = In.ty I ∧ In.cs I = In.cs I ∧ SBlk.ty (one1 (uw (giveW (wd x) (intAt ts (0 : Nat)) (1 : Int)))) = SBlk.ty (one1 x) ∧ uw (giveW (wd x) (intAt ts (0 : Nat)) (1 : Int)) = uw (giveW (wd x) (intAt ts (0 : Nat)) (1 : Int)) ∧ SBlk.ty (one1 F) = SBlk.ty (one1 F) ∧ F = F ∧ (3 : TypeId) = (3 : Nat) ∧ Array.extract ts (1 : Nat) ((1 : Nat) + (kt - (1 : Nat)) * 1) = Array.extract ts (1 : Nat) ((1 : Nat) + (kt - (1 : Nat)) * 1) ∧ True)))) ∧ ((giveOk (wd (uw (giveW (wd x) (intAt ts (0 : Nat)) (1 : Int)))) (intAt ts (0 : Nat)) (1 : Int) == false) = false → False)) ∧ (((!giveOk (wd x) (intAt ts (0 : Nat)) (1 : Int)) == false) = false → False))) ∧ (decide ((↑kt : Int) > (0 : Int)) = false → (uw (wd x) = x ∧ True) ∧ (decide (wd x = BitVec.ofNat (64 : Nat) (0 : Nat)) = true → (uw (wd F) = F ∧ True) ∧ (decide (wd F = BitVec.ofNat (64 : Nat) (0 : Nat)) = true → Q4 none (0 : Int) ∧ CallKind.normal = CallKind.normal ∧ TodoOk (ren 2 []) td4 td4 ∧ Value.slice none (0 : Nat) (0 : Nat) = Value.slice none (0 : Nat) (0 : Nat) ∧ (0 : Int) = (0 : Int) ∧ Value.slice none (0 : Nat) (0 : Nat) = Value.slice none (0 : Nat) (0 : Nat) ∧ True) ∧ (decide (wd F = BitVec.ofNat (64 : Nat) (0 : Nat)) = false → (((0 : Int) != (↑(runsN (wd F)) : Int)) = true → False) ∧ (((0 : Int) != (↑(runsN (wd F)) : Int)) = false → False))) ∧ (decide (wd x = BitVec.ofNat (64 : Nat) (0 : Nat)) = false → (uw (wd F) = F ∧ True) ∧ (decide (wd F = BitVec.ofNat (64 : Nat) (0 : Nat)) = true → (((↑(runsN (wd x)) : Int) != (0 : Int)) = true → False) ∧ (((↑(runsN (wd x)) : Int) != (0 : Int)) = false → False)) ∧ (decide (wd F = BitVec.ofNat (64 : Nat) (0 : Nat)) = false → (((↑(runsN (wd x)) : Int) != (↑(runsN (wd F)) : Int)) = true → False) ∧ (((↑(runsN (wd x)) : Int) != (↑(runsN (wd F)) : Int)) = false → Q4 (some ((runsN (wd x), runsC (wd x)), runsN (wd F), runsC (wd F))) (0 : Int) ∧ CallKind.normal = CallKind.normal ∧ TodoOk (ren 2 [(2, 6), (3, 7)]) td4 td4 ∧ runsN (wd x) = runsN (wd x) ∧ (0 : Int) = (0 : Int) ∧ runsN (wd F) = runsN (wd F) ∧ (50 : TypeId) = (50 : TypeId) ∧ runsC (wd F) = runsC (wd F) ∧ (50 : TypeId) = (50 : TypeId) ∧ runsC (wd x) = runsC (wd x) ∧ True))))) := by kernel_rfl
theorem ow4_n (I : In) (F : Int) (Q1 : Int → Tk → Int → Prop) (Q2 : Int → Int → Tk → Int → Int → Int → Int → Prop) (Q3 : Int → Tk → Int → Prop) (Q4 : Rw → Int → Prop) (i : Int) : (st4 th4 none i).vc okRet (nxO I true F ⟨Q1, Q2, Q3, Q4⟩ th1 th2 th3 th4) =
    ((decide (i < (0 : Int)) = true → False) ∧ (decide (i < (0 : Int)) = false → True)) := by kernel_rfl
theorem ow4_s (I : In) (F : Int) (Q1 : Int → Tk → Int → Prop) (Q2 : Int → Int → Tk → Int → Int → Int → Int → Prop) (Q3 : Int → Tk → Int → Prop) (Q4 : Rw → Int → Prop) (i : Int) (ka kb : Nat) (xs ys : Array Value) : (st4 th4 (some ((ka, xs), (kb, ys))) i).vc okRet (nxO I true F ⟨Q1, Q2, Q3, Q4⟩ th1 th2 th3 th4) =
    ((decide (i < (↑ka : Int)) = true → (((0 : Int) ≤ i ∧ i < (↑ka : Int)) ∧ True) ∧ (IsInt IntKind.i64 xs ((0 : Nat) + Int.toNat i * 2) ∧ IsInt IntKind.i64 xs ((0 : Nat) + Int.toNat i * 2 + 1) ∧ True) ∧ (((0 : Int) ≤ i ∧ i < (↑kb : Int)) ∧ True) ∧ (IsInt IntKind.i64 ys ((0 : Nat) + Int.toNat i * 2) ∧ IsInt IntKind.i64 ys ((0 : Nat) + Int.toNat i * 2 + 1) ∧ True) ∧ ((!(intAt xs ((0 : Nat) + Int.toNat i * 2) == intAt ys ((0 : Nat) + Int.toNat i * 2) && intAt xs ((0 : Nat) + Int.toNat i * 2 + 1) == intAt ys ((0 : Nat) + Int.toNat i * 2 + 1))) = true → False) ∧ ((!(intAt xs ((0 : Nat) + Int.toNat i * 2) == intAt ys ((0 : Nat) + Int.toNat i * 2) && intAt xs ((0 : Nat) + Int.toNat i * 2 + 1) == intAt ys ((0 : Nat) + Int.toNat i * 2 + 1))) = false → Q4 (some ((ka, xs), kb, ys)) (ari BinOp.add IntKind.i64 i (1 : Int)) ∧ CallKind.normal = CallKind.normal ∧ TodoOk (ren 2 [(2, 2), (3, 3)]) th4 th4 ∧ ka = ka ∧ ari BinOp.add IntKind.i64 i (1 : Int) = ari BinOp.add IntKind.i64 i (1 : Int) ∧ kb = kb ∧ (50 : TypeId) = (50 : TypeId) ∧ ys = ys ∧ (50 : TypeId) = (50 : TypeId) ∧ xs = xs ∧ True)) ∧ (decide (i < (↑ka : Int)) = false → True)) := by kernel_rfl
end Go.Proofs.YtebjigahnpjjiaaDoor
/- How many bits of a word are set, bit by bit. No condition. -/
namespace Go.Proofs.YtebjigahnpjjiaaDoor
/-- The bits below a place, counted. -/
def pc (X : BitVec 64) : Nat → Nat
  | 0 => 0
  | k + 1 => pc X k + (X.getLsbD k).toNat
theorem bit_div (X : BitVec 64) (k : Nat) : (X.getLsbD k).toNat = X.toNat / 2 ^ k % 2 := by
  unfold BitVec.getLsbD
  rw [Nat.toNat_testBit]
theorem pc_byte (X : BitVec 64) (k : Nat) : pc X (k + 8) = pc X k + pcB (X.toNat / 2 ^ k % 256) := by
  show pc X k + _ + _ + _ + _ + _ + _ + _ + _ = _
  rw [bit_div, bit_div, bit_div, bit_div, bit_div, bit_div, bit_div, bit_div]
  have e : ∀ j, X.toNat / 2 ^ (k + j) = X.toNat / 2 ^ k / 2 ^ j := fun j => by rw [Nat.pow_add, Nat.div_div_eq_div_mul]
  rw [e 1, e 2, e 3, e 4, e 5, e 6, e 7]
  unfold pcB
  generalize X.toNat / 2 ^ k = y
  have h : ∀ j, j < 8 → y / 2 ^ j % 2 = y % 256 / 2 ^ j % 2 := by
    intro j hj
    have : j = 0 ∨ j = 1 ∨ j = 2 ∨ j = 3 ∨ j = 4 ∨ j = 5 ∨ j = 6 ∨ j = 7 := by omega
    rcases this with rfl | rfl | rfl | rfl | rfl | rfl | rfl | rfl <;> omega
  have h0 := h 0 (by omega)
  have h1 := h 1 (by omega)
  have h2 := h 2 (by omega)
  have h3 := h 3 (by omega)
  have h4 := h 4 (by omega)
  have h5 := h 5 (by omega)
  have h6 := h 6 (by omega)
  have h7 := h 7 (by omega)
  simp only [Nat.pow_zero, Nat.div_one, Nat.reducePow] at h0 h1 h2 h3 h4 h5 h6 h7 ⊢
  omega
theorem pc_cnt (X : BitVec 64) : pc X 64 = cnt X := by
  have h0 := pc_byte X 0
  have h1 := pc_byte X 8
  have h2 := pc_byte X 16
  have h3 := pc_byte X 24
  have h4 := pc_byte X 32
  have h5 := pc_byte X 40
  have h6 := pc_byte X 48
  have h7 := pc_byte X 56
  have hz : pc X 0 = 0 := rfl
  unfold cnt
  simp only [Nat.pow_zero, Nat.div_one, Nat.reducePow, Nat.zero_add, Nat.reduceAdd] at h0 h1 h2 h3 h4 h5 h6 h7
  omega
/-- Two words, one of which has what lies there besides. -/
theorem pc_add {X Y : BitVec 64} {a n : Nat} (h : ∀ i, i < 64 → Y.getLsbD i = (X.getLsbD i && !decide (a ≤ i ∧ i < a + n))) (hx : ∀ i, a ≤ i → i < a + n → X.getLsbD i = true) : ∀ k, k ≤ 64 → pc X k = pc Y k + (min k (a + n) - min k a)
  | 0, _ => by simp [pc]
  | k + 1, hk => by
    have ih := pc_add h hx k (by omega)
    simp only [pc]
    rw [ih, h k (by omega)]
    by_cases h1 : a ≤ k ∧ k < a + n
    · rw [hx k h1.1 h1.2, decide_eq_true h1]
      simp only [Bool.not_true, Bool.and_false, Bool.toNat_false, Bool.toNat_true]
      omega
    · rw [decide_eq_false h1]
      simp only [Bool.not_false, Bool.and_true]
      omega
/-- What is taken is counted no more. -/
theorem cnt_take {X : BitVec 64} {a n : Nat} (h : a + n ≤ 64) (hx : ∀ i, a ≤ i → i < a + n → X.getLsbD i = true) : cnt X = cnt (X &&& ~~~ spanW a n) + n := by
  have := pc_add (X := X) (Y := X &&& ~~~ spanW a n) (a := a) (n := n) (fun i hi => by
    rw [BitVec.getLsbD_and, BitVec.getLsbD_not, spanW_bit _ _ _ h, decide_eq_true hi, Bool.true_and]) hx 64 (Nat.le_refl _)
  rw [pc_cnt, pc_cnt] at this
  omega
theorem take_bit {X : BitVec 64} {a n : Nat} (h : a + n ≤ 64) (i : Nat) (hi : i < 64) : (X &&& ~~~ spanW a n).getLsbD i = (X.getLsbD i && !decide (a ≤ i ∧ i < a + n)) := by
  rw [BitVec.getLsbD_and, BitVec.getLsbD_not, spanW_bit _ _ _ h, decide_eq_true hi, Bool.true_and]
theorem give_bit {X : BitVec 64} {a n : Nat} (h : a + n ≤ 64) (i : Nat) : (X ||| spanW a n).getLsbD i = (X.getLsbD i || decide (a ≤ i ∧ i < a + n)) := by
  rw [BitVec.getLsbD_or, spanW_bit _ _ _ h]
theorem cnt_give {X : BitVec 64} {a n : Nat} (h : a + n ≤ 64) (hx : ∀ i, a ≤ i → i < a + n → X.getLsbD i = false) : cnt (X ||| spanW a n) = cnt X + n := by
  have := pc_add (X := X ||| spanW a n) (Y := X) (a := a) (n := n) (fun i hi => by
    rw [give_bit h]
    by_cases hc : a ≤ i ∧ i < a + n
    · rw [decide_eq_true hc, hx i hc.1 hc.2]; rfl
    · rw [decide_eq_false hc]; simp) (fun i h1 h2 => by rw [give_bit h, decide_eq_true (show a ≤ i ∧ i < a + n from ⟨h1, h2⟩)]; simp) 64 (Nat.le_refl _)
  rw [pc_cnt, pc_cnt] at this
  omega
/-- The pages that were taken, and the set: the first set. -/
structure Split (F X : BitVec 64) (T : List Nat) : Prop where
  all : ∀ i, i < 64 → F.getLsbD i = (X.getLsbD i || decide (i ∈ T))
  apart : ∀ i ∈ T, i < 64 ∧ X.getLsbD i = false
  once : T.Nodup
theorem Split.none {F X : BitVec 64} (h : Split F X []) : F = X := by
  apply BitVec.eq_of_getLsbD_eq
  intro i hi
  have := h.all i hi
  simpa using this
theorem Split.start (F : BitVec 64) : Split F F [] := ⟨fun i _ => by simp, fun i h => by simp at h, List.nodup_nil⟩
/-- So many pages from one on are taken. -/
theorem Split.take {F X : BitVec 64} {T : List Nat} (h : Split F X T) {a n : Nat} (hn : a + n ≤ 64) (hx : ∀ i, a ≤ i → i < a + n → X.getLsbD i = true) : Split F (X &&& ~~~ spanW a n) (T ++ List.range' a n) := by
  refine ⟨fun i hi => ?_, fun i hi => ?_, ?_⟩
  · rw [h.all i hi, take_bit hn i hi]
    by_cases hc : a ≤ i ∧ i < a + n
    · have : i ∈ T ++ List.range' a n := List.mem_append_right _ (by rw [List.mem_range'_1]; omega)
      rw [hx i hc.1 hc.2, decide_eq_true this]
      simp
    · have : (i ∈ T ++ List.range' a n) ↔ i ∈ T := by
        rw [List.mem_append, List.mem_range'_1]
        constructor
        · rintro (h | h)
          · exact h
          · omega
        · exact .inl
      rw [decide_eq_false hc]
      simp only [Bool.not_false, Bool.and_true]
      rw [decide_eq_decide.2 this]
  · rcases List.mem_append.1 hi with h1 | h1
    · obtain ⟨h2, h3⟩ := h.apart i h1
      refine ⟨h2, ?_⟩
      rw [take_bit hn i h2, h3]; rfl
    · rw [List.mem_range'_1] at h1
      refine ⟨by omega, ?_⟩
      rw [take_bit hn i (by omega), decide_eq_true (show a ≤ i ∧ i < a + n by omega)]
      simp
  · rw [List.nodup_append]
    refine ⟨h.once, List.nodup_range', fun x hx1 y hy e => ?_⟩
    subst e
    have := (h.apart x hx1).2
    rw [List.mem_range'_1] at hy
    rw [hx x (by omega) (by omega)] at this
    cases this
/-- A page is given back. -/
theorem Split.give {F X : BitVec 64} {T : List Nat} (h : Split F X T) {k : Nat} (hk : k < T.length) : Split F (X ||| spanW (T[k]) 1) (T.take k ++ T.drop (k + 1)) := by
  obtain ⟨h1, h2⟩ := h.apart T[k] (List.getElem_mem hk)
  have hT : T = T.take k ++ T[k] :: T.drop (k + 1) := by
    rw [← List.drop_eq_getElem_cons hk, List.take_append_drop]
  have hnd := h.once
  rw [hT, List.nodup_append] at hnd
  obtain ⟨d1, d2, d3⟩ := hnd
  rw [List.nodup_cons] at d2
  have hb : T[k] + 1 ≤ 64 := by omega
  have hmem : ∀ i, i ∈ T ↔ i = T[k] ∨ i ∈ T.take k ++ T.drop (k + 1) := by
    intro i
    conv => lhs; rw [hT]
    rw [List.mem_append, List.mem_cons, List.mem_append]
    constructor
    · rintro (h | h | h)
      · exact .inr (.inl h)
      · exact .inl h
      · exact .inr (.inr h)
    · rintro (h | h | h)
      · exact .inr (.inl h)
      · exact .inl h
      · exact .inr (.inr h)
  have hnot : T[k] ∉ T.take k ++ T.drop (k + 1) := by
    rw [List.mem_append]
    rintro (h | h)
    · exact d3 _ h _ (List.mem_cons_self ..) rfl
    · exact d2.1 h
  refine ⟨fun i hi => ?_, fun i hi => ?_, ?_⟩
  · rw [h.all i hi, give_bit hb]
    by_cases e : i = T[k]
    · subst e
      rw [decide_eq_true (show T[k] ≤ T[k] ∧ T[k] < T[k] + 1 by omega), decide_eq_true (show T[k] ∈ T from List.getElem_mem hk)]
      simp
    · rw [decide_eq_false (show ¬ (T[k] ≤ i ∧ i < T[k] + 1) by omega), Bool.or_false]
      congr 1
      rw [decide_eq_decide, hmem i]
      exact ⟨fun h => h.resolve_left e, .inr⟩
  · obtain ⟨k1, k2⟩ := h.apart i ((hmem i).2 (.inr hi))
    refine ⟨k1, ?_⟩
    rw [give_bit hb, k2, decide_eq_false (show ¬ (T[k] ≤ i ∧ i < T[k] + 1) from fun e => hnot (by rwa [show T[k] = i by omega]))]
    rfl
  · rw [List.nodup_append]
    exact ⟨d1, d2.2, fun x hx y hy => d3 x hx y (List.mem_cons_of_mem _ hy)⟩
end Go.Proofs.YtebjigahnpjjiaaDoor
/- Of runs: RunsOneWay: what its rounds keep. No condition. -/
namespace Go.Proofs.YtebjigahnpjjiaaDoor
set_option maxRecDepth 100000
def vI (k : Nat) : Value := .int .i64 (k : Int)
/-- The row of so many pages. -/
def tkOf : List Nat → Tk
  | [] => none
  | a :: l => some ((a :: l).length, ((a :: l).map vI).toArray)
theorem tkOf_eq {L : List Nat} {n : Nat} {cs : Array Value} (h0 : 0 < n) (h1 : L.length = n) (h2 : cs.toList = L.map vI) : some (n, cs) = tkOf L := by
  cases L with
  | nil => simp at h1; omega
  | cons a l =>
    show _ = some ((a :: l).length, ((a :: l).map vI).toArray)
    rw [h1, ← h2]
theorem tkOf_nil {L : List Nat} (h : L.length = 0) : (none : Tk) = tkOf L := by
  rw [List.eq_nil_of_length_eq_zero h]; rfl
theorem at_vI {T : List Nat} {k : Nat} (hk : k < T.length) : (T.map vI).toArray[k]? = some (vI T[k]) := by
  rw [List.getElem?_toArray, List.getElem?_map, List.getElem?_eq_getElem hk]; rfl
theorem int_vI {T : List Nat} {k : Nat} (hk : k < T.length) : IsInt .i64 (T.map vI).toArray k ∧ intAt (T.map vI).toArray k = (T[k] : Nat) := by
  have h := at_vI hk
  unfold IsInt intAt
  rw [h]
  exact ⟨rfl, rfl⟩
theorem ext_vI (T : List Nat) (a b : Nat) : ((T.map vI).toArray.extract a b).toList = ((T.drop a).take (b - a)).map vI := by
  rw [List.extract_toArray, List.extract_eq_take_drop]
  simp [List.map_take, List.map_drop]
/-- A page that is given back. -/
theorem give_one {F X : BitVec 64} {T : List Nat} (h : Split F X T) {k : Nat} (hk : k < T.length) :
    giveOk X (T[k] : Nat) 1 = true ∧ giveW X (T[k] : Nat) 1 = X ||| spanW T[k] 1 ∧ giveOk (X ||| spanW T[k] 1) (T[k] : Nat) 1 = false ∧ cnt (X ||| spanW T[k] 1) = cnt X + 1 := by
  obtain ⟨h1, h2⟩ := h.apart T[k] (List.getElem_mem hk)
  have hb : T[k] + 1 ≤ 64 := by omega
  have hm : mayB (T[k] : Nat) 1 = true := mayB_iff.2 ⟨by omega, by omega, by omega, by omega⟩
  have e1 : ((T[k] : Nat) : Int).toNat = T[k] := Int.toNat_natCast _
  have e2 : (1 : Int).toNat = 1 := rfl
  have hx : ∀ i, T[k] ≤ i → i < T[k] + 1 → X.getLsbD i = false := fun i k1 k2 => by
    rw [show i = T[k] by omega]; exact h2
  have hok : giveOk X (T[k] : Nat) 1 = true := by
    unfold giveOk
    rw [hm, Bool.true_and, e1, e2, allIn_iff hb]
    exact hx
  refine ⟨hok, ?_, ?_, cnt_give hb hx⟩
  · unfold giveW
    rw [if_pos hok, e1, e2]
  · cases hc : giveOk (X ||| spanW T[k] 1) (T[k] : Nat) 1 with
    | false => rfl
    | true =>
      unfold giveOk at hc
      rw [hm, Bool.true_and, e1, e2, allIn_iff hb] at hc
      have := hc T[k] (Nat.le_refl _) (by omega)
      rw [give_bit hb, decide_eq_true (show T[k] ≤ T[k] ∧ T[k] < T[k] + 1 by omega)] at this
      simp at this
theorem find_take {X : BitVec 64} {n : Int} {a : Nat} (h : findN X n = some a) (hn : 1 ≤ n) : a + n.toNat ≤ 64 ∧ (∀ i, a ≤ i → i < a + n.toNat → X.getLsbD i = true) ∧ takeOk X (a : Nat) n = true ∧ takeW X (a : Nat) n = X &&& ~~~ spanW a n.toNat := by
  obtain ⟨_, h2, h3, _⟩ := seek_some h
  obtain ⟨k1, k2, k3⟩ := fitsAt_iff.1 h3
  have hok : takeOk X (a : Nat) n = true := by
    unfold takeOk
    rw [mayB_iff.2 ⟨hn, by omega, by omega, by omega⟩, Bool.true_and, Int.toNat_natCast, allIn_iff (by omega)]
    exact k3
  refine ⟨by omega, k3, hok, ?_⟩
  unfold takeW
  rw [if_pos hok, Int.toNat_natCast]
theorem and_take (X : BitVec 64) (S : BitVec 64) : (X &&& ~~~ S) &&& X = X &&& ~~~ S := by
  rw [BitVec.and_assoc, BitVec.and_comm (~~~ S) X, ← BitVec.and_assoc, BitVec.and_self]
/-! The last loop: two rows are compared. -/
theorem nxO_good {I : In} {ob : Bool} {F : Int} {Q : Qs} {h1 h2 h3 h4 : List SIt} {A : SV → SMem → Prop} {fs : List SFr} {m : SMem} (h : nxO I ob F Q h1 h2 h3 h4 fs m)
    (g1 : ∀ x T i, Q.q1 x T i → Good EO.P A 2 [fr1 h1 I ob T i] (mem1 I ob F x T))
    (g2 : ∀ x y T i n a k, Q.q2 x y T i n a k → Good EO.P A 2 [fr2 h2 I ob T i n a k] (mem2 I ob F x y T))
    (g3 : ∀ x T i, Q.q3 x T i → Good EO.P A 2 [fr3 h3 I ob T i] (mem1 I ob F x T))
    (g4 : ∀ S i, Q.q4 S i → Good EO.P A 2 [fr4 h4 S i] (mem4 S)) : Good EO.P A 2 fs m := by
  unfold nxO at h
  split at h
  case h_2 => exact h.elim
  split at h
  case h_2 => exact h.elim
  split at h
  · unfold nx1 at h
    split at h
    case h_2 => exact h.elim
    split at h
    · exact Good.of_sub h.2 (g1 _ _ _ h.1)
    · exact h.elim
  · unfold nx2 at h
    split at h
    case h_2 => exact h.elim
    split at h
    · exact Good.of_sub h.2 (g2 _ _ _ _ _ _ _ h.1)
    · exact h.elim
  · unfold nx3 at h
    split at h
    case h_2 => exact h.elim
    split at h
    · exact Good.of_sub h.2 (g3 _ _ _ h.1)
    · exact h.elim
  · unfold nx4 at h
    split at h
    · exact Good.of_sub h.2 (g4 _ _ h.1)
    · exact Good.of_sub h.2 (g4 _ _ h.1)
    · exact h.elim
  · exact h.elim
theorem cells_int : ∀ (l : List (Nat × Nat)) (i : Nat), i < l.length → IsInt .i64 (cellsOf l).toArray (0 + i * 2) ∧ IsInt .i64 (cellsOf l).toArray (0 + i * 2 + 1) := by
  intro l
  induction l with
  | nil => intro i h; simp at h
  | cons r l ih =>
    intro i h
    cases i with
    | zero => exact ⟨rfl, rfl⟩
    | succ i =>
      obtain ⟨h1, h2⟩ := ih i (by simpa using h)
      have e : ∀ j, (cellsOf (r :: l)).toArray[j + 2]? = (cellsOf l).toArray[j]? := fun j => by
        rw [List.getElem?_toArray, List.getElem?_toArray]; rfl
      have e0 : 0 + (i + 1) * 2 = (0 + i * 2) + 2 := by omega
      rw [e0]
      unfold IsInt intAt at h1 h2 ⊢
      rw [e, show 0 + i * 2 + 2 + 1 = (0 + i * 2 + 1) + 2 by omega, e]
      exact ⟨h1, h2⟩
theorem last_good (l : List (Nat × Nat)) (hl : l.length ≤ 100) : ∀ (j : Nat) (i : Int), 0 ≤ i → i ≤ l.length → l.length - i.toNat ≤ j → Good EO.P okRet 2 [fr4 th4 (some ((l.length, (cellsOf l).toArray), (l.length, (cellsOf l).toArray))) i] (mem4 (some ((l.length, (cellsOf l).toArray), (l.length, (cellsOf l).toArray)))) := by
  intro j
  induction j with
  | zero =>
    intro i h0 h1 h2
    refine past_vc EO_ok 1000 (ow4_s ⟨0, 0, 0, 0, #[], #[], 0, 0⟩ 0 (fun _ _ _ => False) (fun _ _ _ _ _ _ _ => False) (fun _ _ _ => False) (fun _ _ => False) i l.length l.length (cellsOf l).toArray (cellsOf l).toArray) ?_ (fun _ _ h => h)
      (fun fs m hb => nxO_good hb (fun _ _ _ h => h.elim) (fun _ _ _ _ _ _ _ h => h.elim) (fun _ _ _ h => h.elim) (fun _ _ h => h.elim) )
    refine ⟨fun h => ?_, fun _ => trivial⟩
    have : i < (l.length : Int) := by simpa using h
    omega
  | succ j ih =>
    intro i h0 h1 h2
    refine past_vc EO_ok 1000 (ow4_s ⟨0, 0, 0, 0, #[], #[], 0, 0⟩ 0 (fun _ _ _ => False) (fun _ _ _ _ _ _ _ => False) (fun _ _ _ => False)
      (fun S k => S = some ((l.length, (cellsOf l).toArray), (l.length, (cellsOf l).toArray)) ∧ k = i + 1 ∧ i < l.length) i l.length l.length (cellsOf l).toArray (cellsOf l).toArray) ?_ (fun _ _ h => h)
      (fun fs m hb => nxO_good hb (fun _ _ _ h => h.elim) (fun _ _ _ _ _ _ _ h => h.elim) (fun _ _ _ h => h.elim) (fun S k ⟨e1, e2, e3⟩ => by rw [e1, e2]; exact ih (i + 1) (by omega) (by omega) (by omega)) )
    refine ⟨fun h => ?_, fun _ => trivial⟩
    have hi : i < (l.length : Int) := by simpa using h
    have hc := cells_int l i.toNat (by omega)
    have e1 : IntKind.i64.wrap (i + 1) = i + 1 := Go.IntWalk.i64_in _ (by omega)
    rw [ari_add, e1]
    refine ⟨⟨⟨h0, hi⟩, trivial⟩, ⟨hc.1, hc.2, trivial⟩, ⟨⟨h0, hi⟩, trivial⟩, ⟨hc.1, hc.2, trivial⟩, fun h => ?_, fun _ => ⟨⟨rfl, rfl, hi⟩, ?_⟩⟩
    · simp at h
    · repeat' first | exact trivial | apply And.intro | exact rfl
theorem last_none : Good EO.P okRet 2 [fr4 th4 none 0] (mem4 none) := by
  refine past_vc EO_ok 1000 (ow4_n ⟨0, 0, 0, 0, #[], #[], 0, 0⟩ 0 (fun _ _ _ => False) (fun _ _ _ _ _ _ _ => False) (fun _ _ _ => False) (fun _ _ => False) 0) ?_ (fun _ _ h => h)
      (fun fs m hb => nxO_good hb (fun _ _ _ h => h.elim) (fun _ _ _ _ _ _ _ h => h.elim) (fun _ _ _ h => h.elim) (fun _ _ h => h.elim) )
  exact ⟨fun h => by simp at h, fun _ => trivial⟩
theorem runsL_len : ∀ k L, (runsL k L).length ≤ k
  | 0, _ => Nat.le_refl _
  | k + 1, L => by
    rw [runsL_succ]
    split
    · simp
    · simpa using runsL_len k (nextW L)
/-- The rows of one set. -/
def rwOf (X : BitVec 64) : Rw := if X = 0#64 then none else some ((runsN X, runsC X), (runsN X, runsC X))
theorem last_of (X : BitVec 64) : Good EO.P okRet 2 [fr4 td4 (rwOf X) 0] (mem4 (rwOf X)) := by
  refine Good.head ?_
  show Good EO.P okRet 2 [fr4 th4 (rwOf X) 0] (mem4 (rwOf X))
  unfold rwOf
  split
  · exact last_none
  · have := runsL_len 65 X
    exact last_good (runsOf X) (by unfold runsOf; omega) (runsOf X).length 0 (by omega) (by omega) (by omega)
end Go.Proofs.YtebjigahnpjjiaaDoor
/- Of runs: RunsOneWay: pages are given back. No condition. -/
namespace Go.Proofs.YtebjigahnpjjiaaDoor
set_option maxRecDepth 100000
set_option maxHeartbeats 2000000
/-- Bytes that came in. -/
def BytesOk (ds : Array Value) (off n : Nat) : Prop := ∀ j, j < n → IsInt .u8 ds (off + j) ∧ 0 ≤ intAt ds (off + j) ∧ intAt ds (off + j) ≤ 255
theorem remK {v : Int} {k : Nat} (h0 : 0 ≤ v) : ari .rem .i64 v (k : Int) = ((v.toNat % k : Nat) : Int) := by
  rw [ari_rem]
  obtain ⟨n, rfl⟩ := Int.eq_ofNat_of_zero_le h0
  rw [Int.toNat_natCast]
  rfl
theorem wrap_in {t : Int} (h1 : 0 ≤ t) (h2 : t ≤ 1000000) : IntKind.i64.wrap t = t := Go.IntWalk.i64_in _ (by omega)
theorem bne_self {x : Int} : (x != x) = false := by unfold bne; rw [beq_self_eq_true]; rfl
theorem tf : (true == false) = false := rfl
theorem ff : (false == false) = true := rfl
section
variable (I : In) (F : BitVec 64)
/-- What comes behind. -/
def q3 (n : Nat) (i : Int) (x : Int) (T : Tk) (k : Int) : Prop := ∃ X L, x = uw X ∧ T = tkOf L ∧ L.length < n ∧ Split F X L ∧ k = i + 1
def q4 (S : Rw) (i : Int) : Prop := S = rwOf F ∧ i = 0
theorem l3_none_t (i : Int) : Good EO.P okRet 2 [fr3 th3 I true none i] (mem1 I true (uw F) (uw F) none) := by
  refine past_vc EO_ok 1000 (ow3_tn I (uw F) (fun _ _ _ => False) (fun _ _ _ _ _ _ _ => False) (fun _ _ _ => False) (q4 F) (uw F) i) ?_ (fun _ _ h => h)
    (fun fs m hb => nxO_good hb (fun _ _ _ h => h.elim) (fun _ _ _ _ _ _ _ h => h.elim) (fun _ _ _ h => h.elim) (fun S k ⟨e1, e2⟩ => by rw [e1, e2]; exact last_of F))
  simp only [wd_uw, bne_self]
  by_cases h0 : F = 0#64
  · have e : decide (F = 0#64) = true := decide_eq_true h0
    have hq : q4 F none 0 := ⟨by unfold rwOf; rw [if_pos h0], rfl⟩
    refine ⟨⟨trivial, trivial⟩, fun _ => ⟨⟨trivial, trivial⟩, fun _ => ⟨hq, ?_⟩, fun h => (by rw [e] at h; cases h)⟩, fun h => (by rw [e] at h; cases h)⟩
    repeat' first | exact trivial | apply And.intro | exact rfl
  · have e : decide (F = 0#64) = false := decide_eq_false h0
    have hq : q4 F (some ((runsN F, runsC F), runsN F, runsC F)) 0 := ⟨by unfold rwOf; rw [if_neg h0], rfl⟩
    refine ⟨⟨trivial, trivial⟩, fun h => (by rw [e] at h; cases h), fun _ => ⟨⟨trivial, trivial⟩, fun h => (by rw [e] at h; cases h), fun _ => ⟨fun h => (by cases h), fun _ => ⟨hq, ?_⟩⟩⟩⟩
    repeat' first | exact trivial | apply And.intro | exact rfl
theorem l3_none_f (i : Int) : Good EO.P okRet 2 [fr3 th3 I false none i] (mem1 I false (uw F) (uw F) none) := by
  refine past_vc EO_ok 1000 (ow3_fn I (uw F) (fun _ _ _ => False) (fun _ _ _ _ _ _ _ => False) (fun _ _ _ => False) (q4 F) (uw F) i) ?_ (fun _ _ h => h)
    (fun fs m hb => nxO_good hb (fun _ _ _ h => h.elim) (fun _ _ _ _ _ _ _ h => h.elim) (fun _ _ _ h => h.elim) (fun S k ⟨e1, e2⟩ => by rw [e1, e2]; exact last_of F))
  simp only [wd_uw, bne_self]
  by_cases h0 : F = 0#64
  · have e : decide (F = 0#64) = true := decide_eq_true h0
    have hq : q4 F none 0 := ⟨by unfold rwOf; rw [if_pos h0], rfl⟩
    refine ⟨⟨trivial, trivial⟩, fun _ => ⟨⟨trivial, trivial⟩, fun _ => ⟨hq, ?_⟩, fun h => (by rw [e] at h; cases h)⟩, fun h => (by rw [e] at h; cases h)⟩
    repeat' first | exact trivial | apply And.intro | exact rfl
  · have e : decide (F = 0#64) = false := decide_eq_false h0
    have hq : q4 F (some ((runsN F, runsC F), runsN F, runsC F)) 0 := ⟨by unfold rwOf; rw [if_neg h0], rfl⟩
    refine ⟨⟨trivial, trivial⟩, fun h => (by rw [e] at h; cases h), fun _ => ⟨⟨trivial, trivial⟩, fun h => (by rw [e] at h; cases h), fun _ => ⟨fun h => (by cases h), fun _ => ⟨hq, ?_⟩⟩⟩⟩
    repeat' first | exact trivial | apply And.intro | exact rfl
theorem l3_some_t (X : BitVec 64) (T : List Nat) (a : Nat) (l : List Nat) (hT : T = a :: l) (hlen : T.length ≤ 100000) (hS : Split F X T) (i : Int) (h0 : 0 ≤ i) (hi : i ≤ 500000) (hB : BytesOk I.ds I.o2 I.n2) 
    (hg : ∀ x U k, q3 F T.length i x U k → Good EO.P okRet 2 [fr3 th3 I true U k] (mem1 I true (uw F) x U)) : Good EO.P okRet 2 [fr3 th3 I true (some (T.length, (T.map vI).toArray)) i] (mem1 I true (uw F) (uw X) (some (T.length, (T.map vI).toArray))) := by
  refine past_vc EO_ok 1000 (ow3_ts I (uw F) (fun _ _ _ => False) (fun _ _ _ _ _ _ _ => False) (q3 F T.length i) (q4 F) (uw X) i T.length (T.map vI).toArray) ?_ (fun _ _ h => h)
    (fun fs m hb => nxO_good hb (fun _ _ _ h => h.elim) (fun _ _ _ _ _ _ _ h => h.elim) hg (fun S k ⟨e1, e2⟩ => by rw [e1, e2]; exact last_of F))
  have hpos : 0 < T.length := by rw [hT]; simp
  have hsz : (T.map vI).toArray.size = T.length := by simp
  have ei : IntKind.i64.wrap (i + 1) = i + 1 := wrap_in (by omega) (by omega)
  have hout : ∀ k, k < T.length → ∀ cs : Array Value, cs.toList = (T.take k ++ T.drop (k + 1)).map vI → ∀ n, n = T.length - 1 → 0 < n → q3 F T.length i (uw (X ||| spanW (T[k]!) 1)) (some (n, cs)) (i + 1) := by
    intro k hk cs hcs n hn hn0
    refine ⟨_, T.take k ++ T.drop (k + 1), rfl, tkOf_eq hn0 (by simp; omega) hcs, by simp; omega, ?_, rfl⟩
    rw [getElem!_pos T k hk]
    exact hS.give hk
  have hnil : ∀ k, k < T.length → T.length - 1 = 0 → q3 F T.length i (uw (X ||| spanW (T[k]!) 1)) none (i + 1) := by
    intro k hk hn
    refine ⟨_, T.take k ++ T.drop (k + 1), rfl, tkOf_nil (by simp; omega), by simp; omega, ?_, rfl⟩
    rw [getElem!_pos T k hk]
    exact hS.give hk
  refine ⟨fun _ => ⟨fun hlt => ?_, fun hge => ?_⟩, fun h => ?_⟩
  · have hlt : i < (I.n2 : Int) := by simpa using hlt
    refine ⟨⟨⟨h0, hlt⟩, trivial⟩, ⟨?_, trivial⟩, ⟨by omega, trivial⟩, ?_⟩
    · have := (hB i.toNat (by omega)).1
      rw [Nat.mul_one]; exact this
    · have _u := hpos
      have hb := hB i.toNat (by omega)
      have hb1 : I.o2 + i.toNat * 1 = I.o2 + i.toNat := by omega
      rw [hb1]
      obtain ⟨b1, b2, b3⟩ := hb
      have ew : IntKind.i64.wrap (intAt I.ds (I.o2 + i.toNat)) = intAt I.ds (I.o2 + i.toNat) := wrap_in b2 (by omega)
      have er := remK (k := T.length) b2
      have hk : (intAt I.ds (I.o2 + i.toNat)).toNat % T.length < T.length := Nat.mod_lt _ hpos
      rw [ew, er]
      generalize (intAt I.ds (I.o2 + i.toNat)).toNat % T.length = K at hk
      obtain ⟨g1, g2, g3, g4⟩ := give_one hS (k := K) hk
      obtain ⟨i1, i2⟩ := int_vI (T := T) (k := K) hk
      have n1 := hout K hk
      have n0 := hnil K hk
      rw [getElem!_pos T K hk] at n1 n0
      have hc0 : K = 0 → ((T.map vI).toArray.extract (K + 1) (K + 1 + (T.length - (K + 1)))).toList = (T.take K ++ T.drop (K + 1)).map vI := by
        intro e
        rw [ext_vI, e]
        simp only [List.take_zero, List.nil_append]
        rw [List.take_of_length_le (by simp <;> omega)]
      have hc1 : K + 1 = T.length → ((T.map vI).toArray.extract 0 K).toList = (T.take K ++ T.drop (K + 1)).map vI := by
        intro e
        rw [ext_vI, e, List.drop_eq_nil_of_le (Nat.le_refl _)]
        simp
      have hc2 : ((T.map vI).toArray.extract 0 K ++ (T.map vI).toArray.extract (K + 1) (K + 1 + (T.length - (K + 1)))).toList = (T.take K ++ T.drop (K + 1)).map vI := by
        rw [Array.toList_append, ext_vI, ext_vI, List.map_append]
        simp only [List.drop_zero, Nat.sub_zero]
        rw [List.take_of_length_le (l := T.drop (K + 1)) (by simp <;> omega)]
      have hse : ((T.map vI).toArray.extract 0 K).size = K := by
        have := congrArg List.length (ext_vI T 0 K)
        simp only [List.length_map, List.length_take, List.drop_zero, Nat.sub_zero] at this
        rw [Array.length_toList] at this
        omega
      have hcnt := cnt_le X
      have ec : IntKind.i64.wrap ((cnt X : Nat) + 1) = ((cnt X + 1 : Nat) : Int) := wrap_in (by omega) (by omega)
      have ek : IntKind.i64.wrap ((K : Int) + 1) = ((K + 1 : Nat) : Int) := wrap_in (by omega) (by omega)
      simp only [wd_uw, ocI_uw, ari_add, ei, bne_self, hsz, decide_eq_true_eq, decide_eq_false_iff_not, Bool.not_true, ff, Bool.false_eq_true, Bool.true_eq_false, true_implies, false_implies, and_true, true_and, Int.toNat_natCast, Nat.mul_one, Nat.zero_add, i2, g1, g2, g3, ec, ek, g4, hse]
      repeat' first | exact trivial | exact i1 | apply And.intro | intro _ | exact rfl | exact n0 (by omega) | exact n1 _ (hc0 (by omega)) _ (by omega) (by omega) | exact n1 _ (hc1 (by omega)) _ (by omega) (by omega) | exact n1 _ hc2 _ (by omega) (by omega) | omega
  · have _u := hpos
    obtain ⟨g1, g2, g3, g4⟩ := give_one hS (k := 0) hpos
    obtain ⟨i1, i2⟩ := int_vI (T := T) (k := 0) hpos
    have n1 := hout 0 hpos
    have n0 := hnil 0 hpos
    rw [getElem!_pos T 0 hpos] at n1 n0
    have hc : ((T.map vI).toArray.extract 1 (1 + (T.length - 1) * 1)).toList = (T.take 0 ++ T.drop (0 + 1)).map vI := by
      rw [ext_vI]
      simp
      rw [List.take_of_length_le (by simp)]
    have hcnt := cnt_le X
    have ec : IntKind.i64.wrap ((cnt X : Nat) + 1) = ((cnt X + 1 : Nat) : Int) := wrap_in (by omega) (by omega)
    simp only [wd_uw, ocI_uw, ari_add, ei, bne_self, hsz, decide_eq_true_eq, decide_eq_false_iff_not, Bool.not_true, ff, Bool.false_eq_true, Bool.true_eq_false, true_implies, false_implies, and_true, true_and, i2, g1, g2, g3, ec, g4]
    repeat' first | exact trivial | exact i1 | apply And.intro | intro _ | exact rfl | exact n0 (by omega) | exact n1 _ hc _ rfl (by omega) | omega
  · have : ¬ ((T.length : Nat) : Int) > 0 := by simpa using h
    omega
theorem l3_some_f (X : BitVec 64) (T : List Nat) (a : Nat) (l : List Nat) (hT : T = a :: l) (hlen : T.length ≤ 100000) (hS : Split F X T) (i : Int) (h0 : 0 ≤ i) (hi : i ≤ 500000) 
    (hg : ∀ x U k, q3 F T.length i x U k → Good EO.P okRet 2 [fr3 th3 I false U k] (mem1 I false (uw F) x U)) : Good EO.P okRet 2 [fr3 th3 I false (some (T.length, (T.map vI).toArray)) i] (mem1 I false (uw F) (uw X) (some (T.length, (T.map vI).toArray))) := by
  refine past_vc EO_ok 1000 (ow3_fs I (uw F) (fun _ _ _ => False) (fun _ _ _ _ _ _ _ => False) (q3 F T.length i) (q4 F) (uw X) i T.length (T.map vI).toArray) ?_ (fun _ _ h => h)
    (fun fs m hb => nxO_good hb (fun _ _ _ h => h.elim) (fun _ _ _ _ _ _ _ h => h.elim) hg (fun S k ⟨e1, e2⟩ => by rw [e1, e2]; exact last_of F))
  have hpos : 0 < T.length := by rw [hT]; simp
  have hsz : (T.map vI).toArray.size = T.length := by simp
  have ei : IntKind.i64.wrap (i + 1) = i + 1 := wrap_in (by omega) (by omega)
  have hout : ∀ k, k < T.length → ∀ cs : Array Value, cs.toList = (T.take k ++ T.drop (k + 1)).map vI → ∀ n, n = T.length - 1 → 0 < n → q3 F T.length i (uw (X ||| spanW (T[k]!) 1)) (some (n, cs)) (i + 1) := by
    intro k hk cs hcs n hn hn0
    refine ⟨_, T.take k ++ T.drop (k + 1), rfl, tkOf_eq hn0 (by simp; omega) hcs, by simp; omega, ?_, rfl⟩
    rw [getElem!_pos T k hk]
    exact hS.give hk
  have hnil : ∀ k, k < T.length → T.length - 1 = 0 → q3 F T.length i (uw (X ||| spanW (T[k]!) 1)) none (i + 1) := by
    intro k hk hn
    refine ⟨_, T.take k ++ T.drop (k + 1), rfl, tkOf_nil (by simp; omega), by simp; omega, ?_, rfl⟩
    rw [getElem!_pos T k hk]
    exact hS.give hk
  refine ⟨fun _ => ⟨fun h => ?_, fun _ => ?_⟩, fun h => ?_⟩
  · have : i < 0 := by simpa using h
    omega
  · have _u := hpos
    obtain ⟨g1, g2, g3, g4⟩ := give_one hS (k := 0) hpos
    obtain ⟨i1, i2⟩ := int_vI (T := T) (k := 0) hpos
    have n1 := hout 0 hpos
    have n0 := hnil 0 hpos
    rw [getElem!_pos T 0 hpos] at n1 n0
    have hc : ((T.map vI).toArray.extract 1 (1 + (T.length - 1) * 1)).toList = (T.take 0 ++ T.drop (0 + 1)).map vI := by
      rw [ext_vI]
      simp
      rw [List.take_of_length_le (by simp)]
    have hcnt := cnt_le X
    have ec : IntKind.i64.wrap ((cnt X : Nat) + 1) = ((cnt X + 1 : Nat) : Int) := wrap_in (by omega) (by omega)
    simp only [wd_uw, ocI_uw, ari_add, ei, bne_self, hsz, decide_eq_true_eq, decide_eq_false_iff_not, Bool.not_true, ff, Bool.false_eq_true, Bool.true_eq_false, true_implies, false_implies, and_true, true_and, i2, g1, g2, g3, ec, g4]
    repeat' first | exact trivial | exact i1 | apply And.intro | intro _ | exact rfl | exact n0 (by omega) | exact n1 _ hc _ rfl (by omega) | omega
  · have : ¬ ((T.length : Nat) : Int) > 0 := by simpa using h
    omega
end
end Go.Proofs.YtebjigahnpjjiaaDoor
/- Of runs: RunsOneWay: its rounds, together. No condition. -/
namespace Go.Proofs.YtebjigahnpjjiaaDoor
set_option maxRecDepth 100000
set_option maxHeartbeats 2000000
section
variable (I : In) (F : BitVec 64)
theorem l3_all_t (hB : BytesOk I.ds I.o2 I.n2) : ∀ (n : Nat) (T : List Nat) (X : BitVec 64) (i : Int), T.length < n → T.length ≤ 1000 → 0 ≤ i → i + n ≤ 400000 → Split F X T → Good EO.P okRet 2 [fr3 th3 I true (tkOf T) i] (mem1 I true (uw F) (uw X) (tkOf T)) := by
  intro n
  induction n with
  | zero => intro T X i h; omega
  | succ n ih =>
    intro T X i hn hl h0 hi hS
    cases T with
    | nil =>
      have := hS.none
      subst this
      exact l3_none_t I F i
    | cons a l =>
      exact l3_some_t I F X (a :: l) a l rfl (by omega) hS i h0 (by omega) hB (fun x U k ⟨Y, L, e1, e2, e3, e4, e5⟩ => by
        rw [e1, e2, e5]
        exact ih L Y (i + 1) (by omega) (by omega) (by omega) (by omega) e4)
theorem l3_all_f : ∀ (n : Nat) (T : List Nat) (X : BitVec 64) (i : Int), T.length < n → T.length ≤ 1000 → 0 ≤ i → i + n ≤ 400000 → Split F X T → Good EO.P okRet 2 [fr3 th3 I false (tkOf T) i] (mem1 I false (uw F) (uw X) (tkOf T)) := by
  intro n
  induction n with
  | zero => intro T X i h; omega
  | succ n ih =>
    intro T X i hn hl h0 hi hS
    cases T with
    | nil =>
      have := hS.none
      subst this
      exact l3_none_f I F i
    | cons a l =>
      exact l3_some_f I F X (a :: l) a l rfl (by omega) hS i h0 (by omega) (fun x U k ⟨Y, L, e1, e2, e3, e4, e5⟩ => by
        rw [e1, e2, e5]
        exact ih L Y (i + 1) (by omega) (by omega) (by omega) (by omega) e4)
/-- What is so at a round that takes. -/
structure At1 (x : Int) (Tk0 : Tk) (i : Int) (j : Int) : Prop where
  ex : ∃ X T, x = uw X ∧ Tk0 = tkOf T ∧ Split F X T ∧ (T.length : Int) ≤ 8 * j
  eq : i = j
structure At2 (x y : Int) (Tk0 : Tk) (i n a k : Int) (j : Int) (r m : Nat) : Prop where
  ex : ∃ (X : BitVec 64) (T : List Nat) (p : Nat), x = uw X ∧ y = uw (X &&& ~~~ spanW p m) ∧ Tk0 = tkOf (T ++ List.range' p r) ∧ Split F X T ∧ (T.length : Int) ≤ 8 * j ∧ p + m ≤ 64 ∧ m ≤ 8 ∧ r ≤ m ∧ (∀ i, p ≤ i → i < p + m → X.getLsbD i = true) ∧ a = (p : Nat) ∧ n = (m : Nat) ∧ k = ((p + r : Nat) : Int)
  eq : i = j
theorem remB {v : Int} (h0 : 0 ≤ v) : ari .rem .i64 v 8 = ((v.toNat % 8 : Nat) : Int) := remK h0
theorem tk_snoc (L : List Nat) (h : L ≠ []) (k : Nat) : some (L.length + 1, (L.map vI).toArray ++ #[Value.int .i64 (k : Int)]) = tkOf (L ++ [k]) := by
  refine tkOf_eq (by omega) (by simp) ?_
  rw [Array.toList_append, List.map_append]
  rfl
theorem range_snoc (p r : Nat) (T : List Nat) : (T ++ List.range' p r) ++ [p + r] = T ++ List.range' p (r + 1) := by
  rw [List.append_assoc, List.range'_concat, Nat.one_mul]
theorem l1_tn (hC : BytesOk I.cs I.o1 I.n1) (X : BitVec 64) (T : List Nat) (hT : T = []) (hS : Split F X T) (i : Int) (h0 : 0 ≤ i) (hi : i ≤ I.n1) (hn : I.n1 ≤ 100) (hl : (T.length : Int) ≤ 8 * i)
    (g1 : ∀ x U k, At1 F x U k (i + 1) → i < I.n1 → Good EO.P okRet 2 [fr1 th1 I true U k] (mem1 I true (uw F) x U))
    (g2 : ∀ x y U k n a b m, At2 F x y U k n a b i 0 m → i < I.n1 → Good EO.P okRet 2 [fr2 td2 I true U k n a b] (mem2 I true (uw F) x y U))
    (g3 : Good EO.P okRet 2 [fr3 td3 I true (tkOf T) 0] (mem1 I true (uw F) (uw X) (tkOf T))) :
    Good EO.P okRet 2 [fr1 th1 I true none i] (mem1 I true (uw F) (uw X) none) := by
  have hTk : (none : Tk) = tkOf T := by rw [hT]; rfl
  rw [← hTk] at g3
  refine past_vc EO_ok 1000 (ow1_tn I (uw F) (fun x U k => At1 F x U k (i + 1) ∧ i < I.n1) (fun x y U k n a b => ∃ m, At2 F x y U k n a b i 0 m ∧ i < I.n1) (fun x U k => x = uw X ∧ U = none ∧ k = 0) (fun _ _ => False) (uw X) i) ?_ (fun _ _ h => h)
    (fun fs m hb => nxO_good hb (fun x U k h => g1 x U k h.1 h.2) (fun x y U k n a b ⟨m, h⟩ => g2 x y U k n a b m h.1 h.2) (fun x U k ⟨e1, e2, e3⟩ => by rw [e1, e2, e3]; exact g3) (fun _ _ h => h.elim))
  refine ⟨fun hlt => ?_, fun _ => ⟨⟨rfl, rfl, rfl⟩, ?_⟩⟩
  · have hlt : i < (I.n1 : Int) := by simpa using hlt
    obtain ⟨b1, b2, b3⟩ := hC i.toNat (by omega)
    have ew : IntKind.i64.wrap (intAt I.cs (I.o1 + i.toNat)) = intAt I.cs (I.o1 + i.toNat) := wrap_in b2 (by omega)
    have er := remB b2
    have hb1 : I.o1 + i.toNat * 1 = I.o1 + i.toNat := by omega
    rw [hb1, ew, er]
    have hN : (intAt I.cs (I.o1 + i.toNat)).toNat % 8 < 8 := Nat.mod_lt _ (by decide)
    generalize (intAt I.cs (I.o1 + i.toNat)).toNat % 8 = K at hN
    have eN : ari .add .i64 1 (K : Int) = ((1 + K : Nat) : Int) := by rw [ari_add]; exact wrap_in (by omega) (by omega)
    have ei : IntKind.i64.wrap (i + 1) = i + 1 := wrap_in (by omega) (by omega)
    rw [eN]
    cases hf : findN X (1 + K : Nat) with
    | none =>
      obtain ⟨f1, f2⟩ := find_none hf
      have hQ : At1 F (uw X) none (i + 1) (i + 1) ∧ i < I.n1 := ⟨⟨⟨X, T, rfl, hTk, hS, by omega⟩, rfl⟩, hlt⟩
      simp only [wd_uw, ocI_uw, ari_add, ari_sub, bne_self, decide_eq_true_eq, decide_eq_false_iff_not, Bool.not_true, ff, Bool.false_eq_true, Bool.true_eq_false, true_implies, false_implies, and_true, true_and, Bool.not_false, f1, f2, ei, hb1]
      repeat' first | exact trivial | exact b1 | exact hQ | apply And.intro | intro _ | exact rfl | omega
    | some p =>
      obtain ⟨f1, f2⟩ := find_some hf
      obtain ⟨t1, t2, t3, t4⟩ := find_take hf (by omega)
      have em : ((1 + K : Nat) : Int).toNat = 1 + K := Int.toNat_natCast _
      rw [em] at t1 t2 t4
      have hct := cnt_take t1 t2
      have hcl := cnt_le X
      have es : IntKind.i64.wrap ((cnt X : Nat) - ((1 + K : Nat) : Int)) = (cnt (X &&& ~~~ spanW p (1 + K)) : Nat) := by rw [wrap_in (by omega) (by omega)]; omega
      have hQ : ∃ m, At2 F (uw X) (uw (X &&& ~~~ spanW p (1 + K))) none i (1 + K : Nat) (p : Nat) (p : Nat) i 0 m ∧ i < I.n1 := ⟨1 + K, ⟨⟨X, T, p, rfl, rfl, by rw [List.range'_zero, List.append_nil]; exact hTk, hS, hl, t1, by omega, by omega, t2, rfl, rfl, rfl⟩, rfl⟩, hlt⟩
      simp only [wd_uw, ocI_uw, ari_add, ari_sub, bne_self, decide_eq_true_eq, decide_eq_false_iff_not, Bool.not_true, ff, Bool.false_eq_true, Bool.true_eq_false, true_implies, false_implies, and_true, true_and, ari_uw_and, and_take, f1, f2, t3, t4, es, hb1]
      repeat' first | exact trivial | exact b1 | exact hQ | apply And.intro | intro _ | exact rfl | omega
  · repeat' first | exact trivial | apply And.intro | exact rfl
theorem l2_tn (X : BitVec 64) (T0 T : List Nat) (hT : T = []) (p m r : Nat) (hL : T = T0 ++ List.range' p r) (hS : Split F X T0) (i : Int) (h0 : 0 ≤ i) (hi : i < I.n1) (hn : I.n1 ≤ 100) (hl : (T0.length : Int) ≤ 8 * i) (hp : p + m ≤ 64) (hm : m ≤ 8) (hr : r ≤ m) (hx : ∀ i, p ≤ i → i < p + m → X.getLsbD i = true)
    (g1 : ∀ x U k, At1 F x U k (i + 1) → Good EO.P okRet 2 [fr1 th1 I true U k] (mem1 I true (uw F) x U))
    (g2 : ∀ x y U k n a b, At2 F x y U k n a b i (r + 1) m → Good EO.P okRet 2 [fr2 th2 I true U k n a b] (mem2 I true (uw F) x y U)) :
    Good EO.P okRet 2 [fr2 th2 I true none i (m : Nat) (p : Nat) ((p + r : Nat) : Int)] (mem2 I true (uw F) (uw X) (uw (X &&& ~~~ spanW p m)) none) := by
  have hTk : (none : Tk) = tkOf T := by rw [hT]; rfl
  refine past_vc EO_ok 1000 (ow2_tn I (uw F) (fun x U k => At1 F x U k (i + 1)) (fun x y U k n a b => At2 F x y U k n a b i (r + 1) m) (fun _ _ _ => False) (fun _ _ => False) (uw X) (uw (X &&& ~~~ spanW p m)) i (m : Nat) (p : Nat) ((p + r : Nat) : Int)) ?_ (fun _ _ h => h)
    (fun fs m hb => nxO_good hb g1 g2 (fun _ _ _ h => h.elim) (fun _ _ h => h.elim))
  have ei : IntKind.i64.wrap (i + 1) = i + 1 := wrap_in (by omega) (by omega)
  have ea : IntKind.i64.wrap ((p : Nat) + (m : Nat)) = ((p + m : Nat) : Int) := wrap_in (by omega) (by omega)
  have ek : IntKind.i64.wrap (((p + r : Nat) : Int) + 1) = ((p + (r + 1) : Nat) : Int) := wrap_in (by omega) (by omega)
  have hlen : T.length ≤ 1000 := by rw [hL, List.length_append, List.length_range']; omega
  have hsz : (T.map vI).toArray.size = T.length := by simp
  have e0 : decide ((0 : Int) ≤ ((p + r : Nat) : Int)) = true := decide_eq_true (by omega)
  rw [ari_add, ea]
  refine ⟨fun hlt => ?_, fun hge => ?_⟩
  · have hlt : ((p + r : Nat) : Int) < ((p + m : Nat) : Int) := by simpa using hlt
    have hbx := hx (p + r) (by omega) (by omega)
    have hby : (X &&& ~~~ spanW p m).getLsbD (p + r) = false := by
      rw [take_bit hp _ (by omega), decide_eq_true (show p ≤ p + r ∧ p + r < p + m by omega)]
      simp
    have hQ : At2 F (uw X) (uw (X &&& ~~~ spanW p m)) (some (1, #[Value.int .i64 ((p + r : Nat) : Int)])) i (m : Nat) (p : Nat) ((p + (r + 1) : Nat) : Int) i (r + 1) m :=
      ⟨⟨X, T0, p, rfl, rfl, by rw [← range_snoc, ← hL]; exact by rw [hT]; rfl, hS, hl, hp, hm, by omega, hx, rfl, rfl, rfl⟩, rfl⟩
    simp only [wd_uw, ocI_uw, ari_add, ari_sub, bne_self, decide_eq_true_eq, decide_eq_false_iff_not, Bool.not_true, ff, Bool.false_eq_true, Bool.true_eq_false, true_implies, false_implies, and_true, true_and, Bool.not_false, e0, Int.toNat_natCast, hbx, hby, ek, hsz, Bool.and_true, Bool.and_false]
    repeat' first | exact trivial | exact hQ | apply And.intro | intro _ | exact rfl | omega
  · have hge : ¬ ((p + r : Nat) : Int) < ((p + m : Nat) : Int) := by simpa using hge
    have hrm : r = m := by omega
    subst hrm
    have hQ : At1 F (uw (X &&& ~~~ spanW p r)) none (i + 1) (i + 1) := ⟨⟨_, T, rfl, hTk, by rw [hL]; exact hS.take hp hx, by rw [hL, List.length_append, List.length_range']; omega⟩, rfl⟩
    simp only [ari_add, ei]
    repeat' first | exact trivial | exact hQ | apply And.intro | exact rfl
theorem l1_ts (hC : BytesOk I.cs I.o1 I.n1) (X : BitVec 64) (T : List Nat) (hT : T ≠ []) (hS : Split F X T) (i : Int) (h0 : 0 ≤ i) (hi : i ≤ I.n1) (hn : I.n1 ≤ 100) (hl : (T.length : Int) ≤ 8 * i)
    (g1 : ∀ x U k, At1 F x U k (i + 1) → i < I.n1 → Good EO.P okRet 2 [fr1 th1 I true U k] (mem1 I true (uw F) x U))
    (g2 : ∀ x y U k n a b m, At2 F x y U k n a b i 0 m → i < I.n1 → Good EO.P okRet 2 [fr2 td2 I true U k n a b] (mem2 I true (uw F) x y U))
    (g3 : Good EO.P okRet 2 [fr3 td3 I true (tkOf T) 0] (mem1 I true (uw F) (uw X) (tkOf T))) :
    Good EO.P okRet 2 [fr1 th1 I true (some (T.length, (T.map vI).toArray)) i] (mem1 I true (uw F) (uw X) (some (T.length, (T.map vI).toArray))) := by
  have hTk : some (T.length, (T.map vI).toArray) = tkOf T := tkOf_eq (List.length_pos_iff.2 hT) rfl (by simp)
  rw [← hTk] at g3
  refine past_vc EO_ok 1000 (ow1_ts I (uw F) (fun x U k => At1 F x U k (i + 1) ∧ i < I.n1) (fun x y U k n a b => ∃ m, At2 F x y U k n a b i 0 m ∧ i < I.n1) (fun x U k => x = uw X ∧ U = (some (T.length, (T.map vI).toArray)) ∧ k = 0) (fun _ _ => False) (uw X) i T.length (T.map vI).toArray) ?_ (fun _ _ h => h)
    (fun fs m hb => nxO_good hb (fun x U k h => g1 x U k h.1 h.2) (fun x y U k n a b ⟨m, h⟩ => g2 x y U k n a b m h.1 h.2) (fun x U k ⟨e1, e2, e3⟩ => by rw [e1, e2, e3]; exact g3) (fun _ _ h => h.elim))
  refine ⟨fun hlt => ?_, fun _ => ⟨⟨rfl, rfl, rfl⟩, ?_⟩⟩
  · have hlt : i < (I.n1 : Int) := by simpa using hlt
    obtain ⟨b1, b2, b3⟩ := hC i.toNat (by omega)
    have ew : IntKind.i64.wrap (intAt I.cs (I.o1 + i.toNat)) = intAt I.cs (I.o1 + i.toNat) := wrap_in b2 (by omega)
    have er := remB b2
    have hb1 : I.o1 + i.toNat * 1 = I.o1 + i.toNat := by omega
    rw [hb1, ew, er]
    have hN : (intAt I.cs (I.o1 + i.toNat)).toNat % 8 < 8 := Nat.mod_lt _ (by decide)
    generalize (intAt I.cs (I.o1 + i.toNat)).toNat % 8 = K at hN
    have eN : ari .add .i64 1 (K : Int) = ((1 + K : Nat) : Int) := by rw [ari_add]; exact wrap_in (by omega) (by omega)
    have ei : IntKind.i64.wrap (i + 1) = i + 1 := wrap_in (by omega) (by omega)
    rw [eN]
    cases hf : findN X (1 + K : Nat) with
    | none =>
      obtain ⟨f1, f2⟩ := find_none hf
      have hQ : At1 F (uw X) (some (T.length, (T.map vI).toArray)) (i + 1) (i + 1) ∧ i < I.n1 := ⟨⟨⟨X, T, rfl, hTk, hS, by omega⟩, rfl⟩, hlt⟩
      simp only [wd_uw, ocI_uw, ari_add, ari_sub, bne_self, decide_eq_true_eq, decide_eq_false_iff_not, Bool.not_true, ff, Bool.false_eq_true, Bool.true_eq_false, true_implies, false_implies, and_true, true_and, Bool.not_false, f1, f2, ei, hb1]
      repeat' first | exact trivial | exact b1 | exact hQ | apply And.intro | intro _ | exact rfl | omega
    | some p =>
      obtain ⟨f1, f2⟩ := find_some hf
      obtain ⟨t1, t2, t3, t4⟩ := find_take hf (by omega)
      have em : ((1 + K : Nat) : Int).toNat = 1 + K := Int.toNat_natCast _
      rw [em] at t1 t2 t4
      have hct := cnt_take t1 t2
      have hcl := cnt_le X
      have es : IntKind.i64.wrap ((cnt X : Nat) - ((1 + K : Nat) : Int)) = (cnt (X &&& ~~~ spanW p (1 + K)) : Nat) := by rw [wrap_in (by omega) (by omega)]; omega
      have hQ : ∃ m, At2 F (uw X) (uw (X &&& ~~~ spanW p (1 + K))) (some (T.length, (T.map vI).toArray)) i (1 + K : Nat) (p : Nat) (p : Nat) i 0 m ∧ i < I.n1 := ⟨1 + K, ⟨⟨X, T, p, rfl, rfl, by rw [List.range'_zero, List.append_nil]; exact hTk, hS, hl, t1, by omega, by omega, t2, rfl, rfl, rfl⟩, rfl⟩, hlt⟩
      simp only [wd_uw, ocI_uw, ari_add, ari_sub, bne_self, decide_eq_true_eq, decide_eq_false_iff_not, Bool.not_true, ff, Bool.false_eq_true, Bool.true_eq_false, true_implies, false_implies, and_true, true_and, ari_uw_and, and_take, f1, f2, t3, t4, es, hb1]
      repeat' first | exact trivial | exact b1 | exact hQ | apply And.intro | intro _ | exact rfl | omega
  · repeat' first | exact trivial | apply And.intro | exact rfl
theorem l2_ts (X : BitVec 64) (T0 T : List Nat) (hT : T ≠ []) (p m r : Nat) (hL : T = T0 ++ List.range' p r) (hS : Split F X T0) (i : Int) (h0 : 0 ≤ i) (hi : i < I.n1) (hn : I.n1 ≤ 100) (hl : (T0.length : Int) ≤ 8 * i) (hp : p + m ≤ 64) (hm : m ≤ 8) (hr : r ≤ m) (hx : ∀ i, p ≤ i → i < p + m → X.getLsbD i = true)
    (g1 : ∀ x U k, At1 F x U k (i + 1) → Good EO.P okRet 2 [fr1 th1 I true U k] (mem1 I true (uw F) x U))
    (g2 : ∀ x y U k n a b, At2 F x y U k n a b i (r + 1) m → Good EO.P okRet 2 [fr2 th2 I true U k n a b] (mem2 I true (uw F) x y U)) :
    Good EO.P okRet 2 [fr2 th2 I true (some (T.length, (T.map vI).toArray)) i (m : Nat) (p : Nat) ((p + r : Nat) : Int)] (mem2 I true (uw F) (uw X) (uw (X &&& ~~~ spanW p m)) (some (T.length, (T.map vI).toArray))) := by
  have hTk : some (T.length, (T.map vI).toArray) = tkOf T := tkOf_eq (List.length_pos_iff.2 hT) rfl (by simp)
  refine past_vc EO_ok 1000 (ow2_ts I (uw F) (fun x U k => At1 F x U k (i + 1)) (fun x y U k n a b => At2 F x y U k n a b i (r + 1) m) (fun _ _ _ => False) (fun _ _ => False) (uw X) (uw (X &&& ~~~ spanW p m)) i (m : Nat) (p : Nat) ((p + r : Nat) : Int) T.length (T.map vI).toArray) ?_ (fun _ _ h => h)
    (fun fs m hb => nxO_good hb g1 g2 (fun _ _ _ h => h.elim) (fun _ _ h => h.elim))
  have ei : IntKind.i64.wrap (i + 1) = i + 1 := wrap_in (by omega) (by omega)
  have ea : IntKind.i64.wrap ((p : Nat) + (m : Nat)) = ((p + m : Nat) : Int) := wrap_in (by omega) (by omega)
  have ek : IntKind.i64.wrap (((p + r : Nat) : Int) + 1) = ((p + (r + 1) : Nat) : Int) := wrap_in (by omega) (by omega)
  have hlen : T.length ≤ 1000 := by rw [hL, List.length_append, List.length_range']; omega
  have hsz : (T.map vI).toArray.size = T.length := by simp
  have e0 : decide ((0 : Int) ≤ ((p + r : Nat) : Int)) = true := decide_eq_true (by omega)
  rw [ari_add, ea]
  refine ⟨fun hlt => ?_, fun hge => ?_⟩
  · have hlt : ((p + r : Nat) : Int) < ((p + m : Nat) : Int) := by simpa using hlt
    have hbx := hx (p + r) (by omega) (by omega)
    have hby : (X &&& ~~~ spanW p m).getLsbD (p + r) = false := by
      rw [take_bit hp _ (by omega), decide_eq_true (show p ≤ p + r ∧ p + r < p + m by omega)]
      simp
    have hQ : At2 F (uw X) (uw (X &&& ~~~ spanW p m)) (some (T.length + 1, (T.map vI).toArray ++ #[Value.int .i64 ((p + r : Nat) : Int)])) i (m : Nat) (p : Nat) ((p + (r + 1) : Nat) : Int) i (r + 1) m :=
      ⟨⟨X, T0, p, rfl, rfl, by rw [← range_snoc, ← hL]; exact tk_snoc T hT (p + r), hS, hl, hp, hm, by omega, hx, rfl, rfl, rfl⟩, rfl⟩
    simp only [wd_uw, ocI_uw, ari_add, ari_sub, bne_self, decide_eq_true_eq, decide_eq_false_iff_not, Bool.not_true, ff, Bool.false_eq_true, Bool.true_eq_false, true_implies, false_implies, and_true, true_and, Bool.not_false, e0, Int.toNat_natCast, hbx, hby, ek, hsz, Bool.and_true, Bool.and_false]
    repeat' first | exact trivial | exact hQ | apply And.intro | intro _ | exact rfl | omega
  · have hge : ¬ ((p + r : Nat) : Int) < ((p + m : Nat) : Int) := by simpa using hge
    have hrm : r = m := by omega
    subst hrm
    have hQ : At1 F (uw (X &&& ~~~ spanW p r)) (some (T.length, (T.map vI).toArray)) (i + 1) (i + 1) := ⟨⟨_, T, rfl, hTk, by rw [hL]; exact hS.take hp hx, by rw [hL, List.length_append, List.length_range']; omega⟩, rfl⟩
    simp only [ari_add, ei]
    repeat' first | exact trivial | exact hQ | apply And.intro | exact rfl
theorem l12_t (hC : BytesOk I.cs I.o1 I.n1) (hn : I.n1 ≤ 100) (hg3 : ∀ (T : List Nat) (X : BitVec 64), T.length ≤ 1000 → Split F X T → Good EO.P okRet 2 [fr3 td3 I true (tkOf T) 0] (mem1 I true (uw F) (uw X) (tkOf T))) : ∀ (μ : Nat),
    (∀ (X : BitVec 64) (T : List Nat) (i : Int), 0 ≤ i → i ≤ I.n1 → (I.n1 - i) * 100 + 99 < μ → Split F X T → (T.length : Int) ≤ 8 * i → Good EO.P okRet 2 [fr1 th1 I true (tkOf T) i] (mem1 I true (uw F) (uw X) (tkOf T))) ∧
    (∀ (X : BitVec 64) (T : List Nat) (p m r : Nat) (i : Int), 0 ≤ i → i < I.n1 → (I.n1 - i) * 100 + (m - r) < μ → Split F X T → (T.length : Int) ≤ 8 * i → p + m ≤ 64 → m ≤ 8 → r ≤ m → (∀ i, p ≤ i → i < p + m → X.getLsbD i = true) →
      Good EO.P okRet 2 [fr2 th2 I true (tkOf (T ++ List.range' p r)) i (m : Nat) (p : Nat) ((p + r : Nat) : Int)] (mem2 I true (uw F) (uw X) (uw (X &&& ~~~ spanW p m)) (tkOf (T ++ List.range' p r)))) := by
  intro μ
  induction μ with
  | zero => exact ⟨fun X T i _ _ h => by omega, fun X T p m r i _ _ h => by omega⟩
  | succ μ ih =>
    refine ⟨fun X T i h0 hi hμ hS hl => ?_, fun X T p m r i h0 hi hμ hS hl hp hm hr hx => ?_⟩
    · have k1 : ∀ x U k, At1 F x U k (i + 1) → i < I.n1 → Good EO.P okRet 2 [fr1 th1 I true U k] (mem1 I true (uw F) x U) := by
        rintro x U k ⟨⟨Y, L, rfl, rfl, e3, e4⟩, rfl⟩ hlt
        exact ih.1 Y L (i + 1) (by omega) (by omega) (by omega) e3 e4
      have k2 : ∀ x y U k n a b m, At2 F x y U k n a b i 0 m → i < I.n1 → Good EO.P okRet 2 [fr2 td2 I true U k n a b] (mem2 I true (uw F) x y U) := by
        rintro x y U k n a b m ⟨⟨Y, L, p, rfl, rfl, rfl, e4, e5, e6, e7, e8, e9, rfl, rfl, rfl⟩, rfl⟩ hlt
        refine Good.head ?_
        exact ih.2 Y L p m 0 _ (by omega) (by omega) (by omega) e4 e5 e6 e7 e8 e9
      have k3 := hg3 T X (by omega) hS
      cases T with
      | nil => exact l1_tn I F hC X [] rfl hS i h0 hi hn hl k1 k2 k3
      | cons a l => exact l1_ts I F hC X (a :: l) (by simp) hS i h0 hi hn hl k1 k2 k3
    · have k1 : ∀ x U k, At1 F x U k (i + 1) → Good EO.P okRet 2 [fr1 th1 I true U k] (mem1 I true (uw F) x U) := by
        rintro x U k ⟨⟨Y, L, rfl, rfl, e3, e4⟩, rfl⟩
        exact ih.1 Y L (i + 1) (by omega) (by omega) (by omega) e3 e4
      have k2 : ∀ x y U k n a b, At2 F x y U k n a b i (r + 1) m → Good EO.P okRet 2 [fr2 th2 I true U k n a b] (mem2 I true (uw F) x y U) := by
        rintro x y U k n a b ⟨⟨Y, L, p', rfl, rfl, rfl, e4, e5, e6, e7, e8, e9, rfl, rfl, rfl⟩, rfl⟩
        exact ih.2 Y L p' m (r + 1) _ (by omega) (by omega) (by omega) e4 e5 e6 e7 e8 e9
      generalize hTe : T ++ List.range' p r = L
      cases L with
      | nil => exact l2_tn I F X T [] rfl p m r hTe.symm hS i h0 hi hn hl hp hm hr hx k1 k2
      | cons a l => exact l2_ts I F X T (a :: l) (by simp) p m r hTe.symm hS i h0 hi hn hl hp hm hr hx k1 k2
theorem l1_fn (hC : BytesOk I.cs I.o1 I.n1) (X : BitVec 64) (T : List Nat) (hT : T = []) (hS : Split F X T) (i : Int) (h0 : 0 ≤ i) (hi : i ≤ I.n1) (hn : I.n1 ≤ 100) (hl : (T.length : Int) ≤ 8 * i)
    (g1 : ∀ x U k, At1 F x U k (i + 1) → i < I.n1 → Good EO.P okRet 2 [fr1 th1 I false U k] (mem1 I false (uw F) x U))
    (g2 : ∀ x y U k n a b m, At2 F x y U k n a b i 0 m → i < I.n1 → Good EO.P okRet 2 [fr2 td2 I false U k n a b] (mem2 I false (uw F) x y U))
    (g3 : Good EO.P okRet 2 [fr3 td3 I false (tkOf T) 0] (mem1 I false (uw F) (uw X) (tkOf T))) :
    Good EO.P okRet 2 [fr1 th1 I false none i] (mem1 I false (uw F) (uw X) none) := by
  have hTk : (none : Tk) = tkOf T := by rw [hT]; rfl
  rw [← hTk] at g3
  refine past_vc EO_ok 1000 (ow1_fn I (uw F) (fun x U k => At1 F x U k (i + 1) ∧ i < I.n1) (fun x y U k n a b => ∃ m, At2 F x y U k n a b i 0 m ∧ i < I.n1) (fun x U k => x = uw X ∧ U = none ∧ k = 0) (fun _ _ => False) (uw X) i) ?_ (fun _ _ h => h)
    (fun fs m hb => nxO_good hb (fun x U k h => g1 x U k h.1 h.2) (fun x y U k n a b ⟨m, h⟩ => g2 x y U k n a b m h.1 h.2) (fun x U k ⟨e1, e2, e3⟩ => by rw [e1, e2, e3]; exact g3) (fun _ _ h => h.elim))
  refine ⟨fun hlt => ?_, fun _ => ⟨⟨rfl, rfl, rfl⟩, ?_⟩⟩
  · have hlt : i < (I.n1 : Int) := by simpa using hlt
    obtain ⟨b1, b2, b3⟩ := hC i.toNat (by omega)
    have ew : IntKind.i64.wrap (intAt I.cs (I.o1 + i.toNat)) = intAt I.cs (I.o1 + i.toNat) := wrap_in b2 (by omega)
    have er := remB b2
    have hb1 : I.o1 + i.toNat * 1 = I.o1 + i.toNat := by omega
    rw [hb1, ew, er]
    have hN : (intAt I.cs (I.o1 + i.toNat)).toNat % 8 < 8 := Nat.mod_lt _ (by decide)
    generalize (intAt I.cs (I.o1 + i.toNat)).toNat % 8 = K at hN
    have eN : ari .add .i64 1 (K : Int) = ((1 + K : Nat) : Int) := by rw [ari_add]; exact wrap_in (by omega) (by omega)
    have ei : IntKind.i64.wrap (i + 1) = i + 1 := wrap_in (by omega) (by omega)
    rw [eN]
    cases hf : findN X (1 + K : Nat) with
    | none =>
      obtain ⟨f1, f2⟩ := find_none hf
      have hQ : At1 F (uw X) none (i + 1) (i + 1) ∧ i < I.n1 := ⟨⟨⟨X, T, rfl, hTk, hS, by omega⟩, rfl⟩, hlt⟩
      simp only [wd_uw, ocI_uw, ari_add, ari_sub, bne_self, decide_eq_true_eq, decide_eq_false_iff_not, Bool.not_true, ff, Bool.false_eq_true, Bool.true_eq_false, true_implies, false_implies, and_true, true_and, Bool.not_false, f1, f2, ei, hb1]
      repeat' first | exact trivial | exact b1 | exact hQ | apply And.intro | intro _ | exact rfl | omega
    | some p =>
      obtain ⟨f1, f2⟩ := find_some hf
      obtain ⟨t1, t2, t3, t4⟩ := find_take hf (by omega)
      have em : ((1 + K : Nat) : Int).toNat = 1 + K := Int.toNat_natCast _
      rw [em] at t1 t2 t4
      have hct := cnt_take t1 t2
      have hcl := cnt_le X
      have es : IntKind.i64.wrap ((cnt X : Nat) - ((1 + K : Nat) : Int)) = (cnt (X &&& ~~~ spanW p (1 + K)) : Nat) := by rw [wrap_in (by omega) (by omega)]; omega
      have hQ : ∃ m, At2 F (uw X) (uw (X &&& ~~~ spanW p (1 + K))) none i (1 + K : Nat) (p : Nat) (p : Nat) i 0 m ∧ i < I.n1 := ⟨1 + K, ⟨⟨X, T, p, rfl, rfl, by rw [List.range'_zero, List.append_nil]; exact hTk, hS, hl, t1, by omega, by omega, t2, rfl, rfl, rfl⟩, rfl⟩, hlt⟩
      simp only [wd_uw, ocI_uw, ari_add, ari_sub, bne_self, decide_eq_true_eq, decide_eq_false_iff_not, Bool.not_true, ff, Bool.false_eq_true, Bool.true_eq_false, true_implies, false_implies, and_true, true_and, ari_uw_and, and_take, f1, f2, t3, t4, es, hb1]
      repeat' first | exact trivial | exact b1 | exact hQ | apply And.intro | intro _ | exact rfl | omega
  · repeat' first | exact trivial | apply And.intro | exact rfl
theorem l2_fn (X : BitVec 64) (T0 T : List Nat) (hT : T = []) (p m r : Nat) (hL : T = T0 ++ List.range' p r) (hS : Split F X T0) (i : Int) (h0 : 0 ≤ i) (hi : i < I.n1) (hn : I.n1 ≤ 100) (hl : (T0.length : Int) ≤ 8 * i) (hp : p + m ≤ 64) (hm : m ≤ 8) (hr : r ≤ m) (hx : ∀ i, p ≤ i → i < p + m → X.getLsbD i = true)
    (g1 : ∀ x U k, At1 F x U k (i + 1) → Good EO.P okRet 2 [fr1 th1 I false U k] (mem1 I false (uw F) x U))
    (g2 : ∀ x y U k n a b, At2 F x y U k n a b i (r + 1) m → Good EO.P okRet 2 [fr2 th2 I false U k n a b] (mem2 I false (uw F) x y U)) :
    Good EO.P okRet 2 [fr2 th2 I false none i (m : Nat) (p : Nat) ((p + r : Nat) : Int)] (mem2 I false (uw F) (uw X) (uw (X &&& ~~~ spanW p m)) none) := by
  have hTk : (none : Tk) = tkOf T := by rw [hT]; rfl
  refine past_vc EO_ok 1000 (ow2_fn I (uw F) (fun x U k => At1 F x U k (i + 1)) (fun x y U k n a b => At2 F x y U k n a b i (r + 1) m) (fun _ _ _ => False) (fun _ _ => False) (uw X) (uw (X &&& ~~~ spanW p m)) i (m : Nat) (p : Nat) ((p + r : Nat) : Int)) ?_ (fun _ _ h => h)
    (fun fs m hb => nxO_good hb g1 g2 (fun _ _ _ h => h.elim) (fun _ _ h => h.elim))
  have ei : IntKind.i64.wrap (i + 1) = i + 1 := wrap_in (by omega) (by omega)
  have ea : IntKind.i64.wrap ((p : Nat) + (m : Nat)) = ((p + m : Nat) : Int) := wrap_in (by omega) (by omega)
  have ek : IntKind.i64.wrap (((p + r : Nat) : Int) + 1) = ((p + (r + 1) : Nat) : Int) := wrap_in (by omega) (by omega)
  have hlen : T.length ≤ 1000 := by rw [hL, List.length_append, List.length_range']; omega
  have hsz : (T.map vI).toArray.size = T.length := by simp
  have e0 : decide ((0 : Int) ≤ ((p + r : Nat) : Int)) = true := decide_eq_true (by omega)
  rw [ari_add, ea]
  refine ⟨fun hlt => ?_, fun hge => ?_⟩
  · have hlt : ((p + r : Nat) : Int) < ((p + m : Nat) : Int) := by simpa using hlt
    have hbx := hx (p + r) (by omega) (by omega)
    have hby : (X &&& ~~~ spanW p m).getLsbD (p + r) = false := by
      rw [take_bit hp _ (by omega), decide_eq_true (show p ≤ p + r ∧ p + r < p + m by omega)]
      simp
    have hQ : At2 F (uw X) (uw (X &&& ~~~ spanW p m)) (some (1, #[Value.int .i64 ((p + r : Nat) : Int)])) i (m : Nat) (p : Nat) ((p + (r + 1) : Nat) : Int) i (r + 1) m :=
      ⟨⟨X, T0, p, rfl, rfl, by rw [← range_snoc, ← hL]; exact by rw [hT]; rfl, hS, hl, hp, hm, by omega, hx, rfl, rfl, rfl⟩, rfl⟩
    simp only [wd_uw, ocI_uw, ari_add, ari_sub, bne_self, decide_eq_true_eq, decide_eq_false_iff_not, Bool.not_true, ff, Bool.false_eq_true, Bool.true_eq_false, true_implies, false_implies, and_true, true_and, Bool.not_false, e0, Int.toNat_natCast, hbx, hby, ek, hsz, Bool.and_true, Bool.and_false]
    repeat' first | exact trivial | exact hQ | apply And.intro | intro _ | exact rfl | omega
  · have hge : ¬ ((p + r : Nat) : Int) < ((p + m : Nat) : Int) := by simpa using hge
    have hrm : r = m := by omega
    subst hrm
    have hQ : At1 F (uw (X &&& ~~~ spanW p r)) none (i + 1) (i + 1) := ⟨⟨_, T, rfl, hTk, by rw [hL]; exact hS.take hp hx, by rw [hL, List.length_append, List.length_range']; omega⟩, rfl⟩
    simp only [ari_add, ei]
    repeat' first | exact trivial | exact hQ | apply And.intro | exact rfl
theorem l1_fs (hC : BytesOk I.cs I.o1 I.n1) (X : BitVec 64) (T : List Nat) (hT : T ≠ []) (hS : Split F X T) (i : Int) (h0 : 0 ≤ i) (hi : i ≤ I.n1) (hn : I.n1 ≤ 100) (hl : (T.length : Int) ≤ 8 * i)
    (g1 : ∀ x U k, At1 F x U k (i + 1) → i < I.n1 → Good EO.P okRet 2 [fr1 th1 I false U k] (mem1 I false (uw F) x U))
    (g2 : ∀ x y U k n a b m, At2 F x y U k n a b i 0 m → i < I.n1 → Good EO.P okRet 2 [fr2 td2 I false U k n a b] (mem2 I false (uw F) x y U))
    (g3 : Good EO.P okRet 2 [fr3 td3 I false (tkOf T) 0] (mem1 I false (uw F) (uw X) (tkOf T))) :
    Good EO.P okRet 2 [fr1 th1 I false (some (T.length, (T.map vI).toArray)) i] (mem1 I false (uw F) (uw X) (some (T.length, (T.map vI).toArray))) := by
  have hTk : some (T.length, (T.map vI).toArray) = tkOf T := tkOf_eq (List.length_pos_iff.2 hT) rfl (by simp)
  rw [← hTk] at g3
  refine past_vc EO_ok 1000 (ow1_fs I (uw F) (fun x U k => At1 F x U k (i + 1) ∧ i < I.n1) (fun x y U k n a b => ∃ m, At2 F x y U k n a b i 0 m ∧ i < I.n1) (fun x U k => x = uw X ∧ U = (some (T.length, (T.map vI).toArray)) ∧ k = 0) (fun _ _ => False) (uw X) i T.length (T.map vI).toArray) ?_ (fun _ _ h => h)
    (fun fs m hb => nxO_good hb (fun x U k h => g1 x U k h.1 h.2) (fun x y U k n a b ⟨m, h⟩ => g2 x y U k n a b m h.1 h.2) (fun x U k ⟨e1, e2, e3⟩ => by rw [e1, e2, e3]; exact g3) (fun _ _ h => h.elim))
  refine ⟨fun hlt => ?_, fun _ => ⟨⟨rfl, rfl, rfl⟩, ?_⟩⟩
  · have hlt : i < (I.n1 : Int) := by simpa using hlt
    obtain ⟨b1, b2, b3⟩ := hC i.toNat (by omega)
    have ew : IntKind.i64.wrap (intAt I.cs (I.o1 + i.toNat)) = intAt I.cs (I.o1 + i.toNat) := wrap_in b2 (by omega)
    have er := remB b2
    have hb1 : I.o1 + i.toNat * 1 = I.o1 + i.toNat := by omega
    rw [hb1, ew, er]
    have hN : (intAt I.cs (I.o1 + i.toNat)).toNat % 8 < 8 := Nat.mod_lt _ (by decide)
    generalize (intAt I.cs (I.o1 + i.toNat)).toNat % 8 = K at hN
    have eN : ari .add .i64 1 (K : Int) = ((1 + K : Nat) : Int) := by rw [ari_add]; exact wrap_in (by omega) (by omega)
    have ei : IntKind.i64.wrap (i + 1) = i + 1 := wrap_in (by omega) (by omega)
    rw [eN]
    cases hf : findN X (1 + K : Nat) with
    | none =>
      obtain ⟨f1, f2⟩ := find_none hf
      have hQ : At1 F (uw X) (some (T.length, (T.map vI).toArray)) (i + 1) (i + 1) ∧ i < I.n1 := ⟨⟨⟨X, T, rfl, hTk, hS, by omega⟩, rfl⟩, hlt⟩
      simp only [wd_uw, ocI_uw, ari_add, ari_sub, bne_self, decide_eq_true_eq, decide_eq_false_iff_not, Bool.not_true, ff, Bool.false_eq_true, Bool.true_eq_false, true_implies, false_implies, and_true, true_and, Bool.not_false, f1, f2, ei, hb1]
      repeat' first | exact trivial | exact b1 | exact hQ | apply And.intro | intro _ | exact rfl | omega
    | some p =>
      obtain ⟨f1, f2⟩ := find_some hf
      obtain ⟨t1, t2, t3, t4⟩ := find_take hf (by omega)
      have em : ((1 + K : Nat) : Int).toNat = 1 + K := Int.toNat_natCast _
      rw [em] at t1 t2 t4
      have hct := cnt_take t1 t2
      have hcl := cnt_le X
      have es : IntKind.i64.wrap ((cnt X : Nat) - ((1 + K : Nat) : Int)) = (cnt (X &&& ~~~ spanW p (1 + K)) : Nat) := by rw [wrap_in (by omega) (by omega)]; omega
      have hQ : ∃ m, At2 F (uw X) (uw (X &&& ~~~ spanW p (1 + K))) (some (T.length, (T.map vI).toArray)) i (1 + K : Nat) (p : Nat) (p : Nat) i 0 m ∧ i < I.n1 := ⟨1 + K, ⟨⟨X, T, p, rfl, rfl, by rw [List.range'_zero, List.append_nil]; exact hTk, hS, hl, t1, by omega, by omega, t2, rfl, rfl, rfl⟩, rfl⟩, hlt⟩
      simp only [wd_uw, ocI_uw, ari_add, ari_sub, bne_self, decide_eq_true_eq, decide_eq_false_iff_not, Bool.not_true, ff, Bool.false_eq_true, Bool.true_eq_false, true_implies, false_implies, and_true, true_and, ari_uw_and, and_take, f1, f2, t3, t4, es, hb1]
      repeat' first | exact trivial | exact b1 | exact hQ | apply And.intro | intro _ | exact rfl | omega
  · repeat' first | exact trivial | apply And.intro | exact rfl
theorem l2_fs (X : BitVec 64) (T0 T : List Nat) (hT : T ≠ []) (p m r : Nat) (hL : T = T0 ++ List.range' p r) (hS : Split F X T0) (i : Int) (h0 : 0 ≤ i) (hi : i < I.n1) (hn : I.n1 ≤ 100) (hl : (T0.length : Int) ≤ 8 * i) (hp : p + m ≤ 64) (hm : m ≤ 8) (hr : r ≤ m) (hx : ∀ i, p ≤ i → i < p + m → X.getLsbD i = true)
    (g1 : ∀ x U k, At1 F x U k (i + 1) → Good EO.P okRet 2 [fr1 th1 I false U k] (mem1 I false (uw F) x U))
    (g2 : ∀ x y U k n a b, At2 F x y U k n a b i (r + 1) m → Good EO.P okRet 2 [fr2 th2 I false U k n a b] (mem2 I false (uw F) x y U)) :
    Good EO.P okRet 2 [fr2 th2 I false (some (T.length, (T.map vI).toArray)) i (m : Nat) (p : Nat) ((p + r : Nat) : Int)] (mem2 I false (uw F) (uw X) (uw (X &&& ~~~ spanW p m)) (some (T.length, (T.map vI).toArray))) := by
  have hTk : some (T.length, (T.map vI).toArray) = tkOf T := tkOf_eq (List.length_pos_iff.2 hT) rfl (by simp)
  refine past_vc EO_ok 1000 (ow2_fs I (uw F) (fun x U k => At1 F x U k (i + 1)) (fun x y U k n a b => At2 F x y U k n a b i (r + 1) m) (fun _ _ _ => False) (fun _ _ => False) (uw X) (uw (X &&& ~~~ spanW p m)) i (m : Nat) (p : Nat) ((p + r : Nat) : Int) T.length (T.map vI).toArray) ?_ (fun _ _ h => h)
    (fun fs m hb => nxO_good hb g1 g2 (fun _ _ _ h => h.elim) (fun _ _ h => h.elim))
  have ei : IntKind.i64.wrap (i + 1) = i + 1 := wrap_in (by omega) (by omega)
  have ea : IntKind.i64.wrap ((p : Nat) + (m : Nat)) = ((p + m : Nat) : Int) := wrap_in (by omega) (by omega)
  have ek : IntKind.i64.wrap (((p + r : Nat) : Int) + 1) = ((p + (r + 1) : Nat) : Int) := wrap_in (by omega) (by omega)
  have hlen : T.length ≤ 1000 := by rw [hL, List.length_append, List.length_range']; omega
  have hsz : (T.map vI).toArray.size = T.length := by simp
  have e0 : decide ((0 : Int) ≤ ((p + r : Nat) : Int)) = true := decide_eq_true (by omega)
  rw [ari_add, ea]
  refine ⟨fun hlt => ?_, fun hge => ?_⟩
  · have hlt : ((p + r : Nat) : Int) < ((p + m : Nat) : Int) := by simpa using hlt
    have hbx := hx (p + r) (by omega) (by omega)
    have hby : (X &&& ~~~ spanW p m).getLsbD (p + r) = false := by
      rw [take_bit hp _ (by omega), decide_eq_true (show p ≤ p + r ∧ p + r < p + m by omega)]
      simp
    have hQ : At2 F (uw X) (uw (X &&& ~~~ spanW p m)) (some (T.length + 1, (T.map vI).toArray ++ #[Value.int .i64 ((p + r : Nat) : Int)])) i (m : Nat) (p : Nat) ((p + (r + 1) : Nat) : Int) i (r + 1) m :=
      ⟨⟨X, T0, p, rfl, rfl, by rw [← range_snoc, ← hL]; exact tk_snoc T hT (p + r), hS, hl, hp, hm, by omega, hx, rfl, rfl, rfl⟩, rfl⟩
    simp only [wd_uw, ocI_uw, ari_add, ari_sub, bne_self, decide_eq_true_eq, decide_eq_false_iff_not, Bool.not_true, ff, Bool.false_eq_true, Bool.true_eq_false, true_implies, false_implies, and_true, true_and, Bool.not_false, e0, Int.toNat_natCast, hbx, hby, ek, hsz, Bool.and_true, Bool.and_false]
    repeat' first | exact trivial | exact hQ | apply And.intro | intro _ | exact rfl | omega
  · have hge : ¬ ((p + r : Nat) : Int) < ((p + m : Nat) : Int) := by simpa using hge
    have hrm : r = m := by omega
    subst hrm
    have hQ : At1 F (uw (X &&& ~~~ spanW p r)) (some (T.length, (T.map vI).toArray)) (i + 1) (i + 1) := ⟨⟨_, T, rfl, hTk, by rw [hL]; exact hS.take hp hx, by rw [hL, List.length_append, List.length_range']; omega⟩, rfl⟩
    simp only [ari_add, ei]
    repeat' first | exact trivial | exact hQ | apply And.intro | exact rfl
theorem l12_f (hC : BytesOk I.cs I.o1 I.n1) (hn : I.n1 ≤ 100) (hg3 : ∀ (T : List Nat) (X : BitVec 64), T.length ≤ 1000 → Split F X T → Good EO.P okRet 2 [fr3 td3 I false (tkOf T) 0] (mem1 I false (uw F) (uw X) (tkOf T))) : ∀ (μ : Nat),
    (∀ (X : BitVec 64) (T : List Nat) (i : Int), 0 ≤ i → i ≤ I.n1 → (I.n1 - i) * 100 + 99 < μ → Split F X T → (T.length : Int) ≤ 8 * i → Good EO.P okRet 2 [fr1 th1 I false (tkOf T) i] (mem1 I false (uw F) (uw X) (tkOf T))) ∧
    (∀ (X : BitVec 64) (T : List Nat) (p m r : Nat) (i : Int), 0 ≤ i → i < I.n1 → (I.n1 - i) * 100 + (m - r) < μ → Split F X T → (T.length : Int) ≤ 8 * i → p + m ≤ 64 → m ≤ 8 → r ≤ m → (∀ i, p ≤ i → i < p + m → X.getLsbD i = true) →
      Good EO.P okRet 2 [fr2 th2 I false (tkOf (T ++ List.range' p r)) i (m : Nat) (p : Nat) ((p + r : Nat) : Int)] (mem2 I false (uw F) (uw X) (uw (X &&& ~~~ spanW p m)) (tkOf (T ++ List.range' p r)))) := by
  intro μ
  induction μ with
  | zero => exact ⟨fun X T i _ _ h => by omega, fun X T p m r i _ _ h => by omega⟩
  | succ μ ih =>
    refine ⟨fun X T i h0 hi hμ hS hl => ?_, fun X T p m r i h0 hi hμ hS hl hp hm hr hx => ?_⟩
    · have k1 : ∀ x U k, At1 F x U k (i + 1) → i < I.n1 → Good EO.P okRet 2 [fr1 th1 I false U k] (mem1 I false (uw F) x U) := by
        rintro x U k ⟨⟨Y, L, rfl, rfl, e3, e4⟩, rfl⟩ hlt
        exact ih.1 Y L (i + 1) (by omega) (by omega) (by omega) e3 e4
      have k2 : ∀ x y U k n a b m, At2 F x y U k n a b i 0 m → i < I.n1 → Good EO.P okRet 2 [fr2 td2 I false U k n a b] (mem2 I false (uw F) x y U) := by
        rintro x y U k n a b m ⟨⟨Y, L, p, rfl, rfl, rfl, e4, e5, e6, e7, e8, e9, rfl, rfl, rfl⟩, rfl⟩ hlt
        refine Good.head ?_
        exact ih.2 Y L p m 0 _ (by omega) (by omega) (by omega) e4 e5 e6 e7 e8 e9
      have k3 := hg3 T X (by omega) hS
      cases T with
      | nil => exact l1_fn I F hC X [] rfl hS i h0 hi hn hl k1 k2 k3
      | cons a l => exact l1_fs I F hC X (a :: l) (by simp) hS i h0 hi hn hl k1 k2 k3
    · have k1 : ∀ x U k, At1 F x U k (i + 1) → Good EO.P okRet 2 [fr1 th1 I false U k] (mem1 I false (uw F) x U) := by
        rintro x U k ⟨⟨Y, L, rfl, rfl, e3, e4⟩, rfl⟩
        exact ih.1 Y L (i + 1) (by omega) (by omega) (by omega) e3 e4
      have k2 : ∀ x y U k n a b, At2 F x y U k n a b i (r + 1) m → Good EO.P okRet 2 [fr2 th2 I false U k n a b] (mem2 I false (uw F) x y U) := by
        rintro x y U k n a b ⟨⟨Y, L, p', rfl, rfl, rfl, e4, e5, e6, e7, e8, e9, rfl, rfl, rfl⟩, rfl⟩
        exact ih.2 Y L p' m (r + 1) _ (by omega) (by omega) (by omega) e4 e5 e6 e7 e8 e9
      generalize hTe : T ++ List.range' p r = L
      cases L with
      | nil => exact l2_fn I F X T [] rfl p m r hTe.symm hS i h0 hi hn hl hp hm hr hx k1 k2
      | cons a l => exact l2_fs I F X T (a :: l) (by simp) p m r hTe.symm hS i h0 hi hn hl hp hm hr hx k1 k2
end
end Go.Proofs.YtebjigahnpjjiaaDoor
/- Of runs: the document's functions: their loops' states. No condition. -/
namespace Go.Proofs.YtebjigahnpjjiaaDoor
noncomputable section
def ER1 : Env := ⟨Tryd.prog, fnOf, conL, fun d f x => Nat.beq d 0 && (Nat.beq f 7 || Nat.beq f 8 || Nat.beq f 11 || Nat.beq f 25) && isLoop x⟩
theorem ER1_ok : EnvOk ER1 := EnvOk.with E0_ok _ _ conL_ok
def setSl (l : List (Nat × SV)) : List SFr → List SFr
  | ⟨fn, tm, td, dfs, md, kind, rnd⟩ :: cs => ⟨fn, l.foldl (fun T p => T.set p.1 (some p.2)) tm, td, dfs, md, kind, rnd⟩ :: cs
  | [] => []
def putAll (l : List (Nat × SA)) (m : SMem) : SMem := ⟨m.next, l.foldl (fun t p => putB t p.1 p.2) m.bl, m.xs⟩
def headTd : List SFr → List SIt
  | f :: _ => f.todo
  | [] => []
def rowA (a : SA) : Option (Array Value) := match a with
  | .pop cs | .op cs => some cs
  | .pre l | .ls l => match plains l with
    | some vs => some vs.toArray
    | none => none
  | _ => none
def rdA (m : SMem) (id : Nat) : Option (Array Value) := match getB m.bl id with
  | some ⟨a, _, _⟩ => rowA a
  | none => none
section
variable (E : Env) (c : List SFr)
def stR : Tree := run E 1000 0 c ⟨0, .nil, []⟩
def stF (sl : List (Nat × SV)) : List SFr := setSl sl ((stR E c).fsE.map SFr.bare)
def stH (sl : List (Nat × SV)) : List SFr := headF (stF E c sl)
def stM (bl : List (Nat × SA)) : SMem := putAll bl (stR E c).memE.bare
def stS (sl : List (Nat × SV)) (bl : List (Nat × SA)) : Tree := stepT E.go (run E 1000) 0 (stH E c sl) (stM E c bl)
def nxF (sl : List (Nat × SV)) (bl : List (Nat × SA)) (fs : List SFr) (m : SMem) : Prop := subOk 0 (idπ (stM E c bl).next) (stF E c sl) (stM E c bl) fs m
def nxH (sl : List (Nat × SV)) (bl : List (Nat × SA)) (fs : List SFr) (m : SMem) : Prop := subOk 0 (idπ (stM E c bl).next) (stH E c sl) (stM E c bl) fs m
end
def boolV (b : Bool) : SV := .s (.c (.f (.bool (.o b))))
def ofC (p : Int) : List SFr := [callFr 7 Tryd.f7.ntmps [i64 (.o p)] (Tryd.f7.body.getD .skip)]
def isC (cs : Array Value) (a n : Int) (b : Bool) : List SFr := [callFr 8 Tryd.f8.ntmps [agg cs, i64 (.o a), i64 (.o n), boolV b] (Tryd.f8.body.getD .skip)]
def withC (cs : Array Value) (a n : Int) (b : Bool) : List SFr := [callFr 11 Tryd.f11.ntmps [agg cs, i64 (.o a), i64 (.o n), boolV b] (Tryd.f11.body.getD .skip)]
def rrC (cs : Array Value) : List SFr := [callFr 25 Tryd.f25.ntmps [agg cs] (Tryd.f25.body.getD .skip)]
def n7 (h : Bool) (p : Int) (Q : Int → Array Value → Prop) (fs : List SFr) (m : SMem) : Prop := match fs with
  | [f] => match rdI f 4, rdA m 1 with
    | some i, some cs => Q i cs ∧ (cond h nxH nxF) ER1 (ofC p) [(4, i64 (.o i))] [(1, .op cs)] fs m
    | _, _ => False
  | _ => False
def n8 (h : Bool) (cs : Array Value) (a n : Int) (b : Bool) (Q : Int → Prop) (fs : List SFr) (m : SMem) : Prop := match fs with
  | [f] => match rdI f 9 with
    | some i => Q i ∧ (cond h nxH nxF) ER1 (isC cs a n b) [(9, i64 (.o i))] [] fs m
    | _ => False
  | _ => False
def n11 (h : Bool) (c0 : Array Value) (a n : Int) (b : Bool) (Q : Int → Array Value → Prop) (fs : List SFr) (m : SMem) : Prop := match fs with
  | [f] => match rdI f 9, rdA m 0 with
    | some i, some cs => Q i cs ∧ (cond h nxH nxF) ER1 (withC c0 a n b) [(9, i64 (.o i))] [(0, .op cs)] fs m
    | _, _ => False
  | _ => False
/-- The rows so far: none, or so many. -/
abbrev Ro := Option (Nat × Array Value)
def rrSl (T : Ro) (i : Int) : List (Nat × SV) := match T with
  | none => [(4, i64 (.o i))]
  | some (k, _) => [(4, i64 (.o i)), (3, .s (.c (.f (.slice 1 (.l 0) (.o k) (.full 2)))))]
def rrM (cs : Array Value) (T : Ro) : SMem := match T with
  | none => stM ER1 (rrC cs) []
  | some (_, ts) => ⟨2, (stM ER1 (rrC cs) []).bl.set 1 (some ⟨.pop ts, 58, true⟩), []⟩
def rrS (cs : Array Value) (T : Ro) (i : Int) : Tree := stepT ER1.go (run ER1 1000) 0 (stH ER1 (rrC cs) (rrSl T i)) (rrM cs T)
def rdS (f : SFr) (d : Nat) (m : SMem) : Option (Option (Nat × Nat × Array Value)) := match f.tm.get d with
  | some (.s (.c (.f (.lit (.slice none 0 0))))) => some none
  | some (.s (.c (.f (.slice sid _ k _)))) => match rdA m sid with
    | some cs => some (some (sid, k.den, cs))
    | none => none
  | _ => none
def n25 (h : Bool) (c0 : Array Value) (Q : Int → Ro → Prop) (fs : List SFr) (m : SMem) : Prop := match fs with
  | [f] => match rdI f 4, rdS f 3 m with
    | some i, some none => Q i none ∧ subOk 0 [(0, 0)] ((cond h stH stF) ER1 (rrC c0) (rrSl none i)) (rrM c0 none) fs m
    | some i, some (some (sid, k, ts)) => Q i (some (k, ts)) ∧ subOk 0 [(0, 0), (1, sid)] ((cond h stH stF) ER1 (rrC c0) (rrSl (some (k, ts)) i)) (rrM c0 (some (k, ts))) fs m
    | _, _ => False
  | _ => False
def aggA (cs : Array Value) : SV → SMem → Prop := retOk 0 [] (agg cs) ⟨0, .nil, []⟩
def boolA (b : Bool) : SV → SMem → Prop := retOk 0 [] (sB (.o b)) ⟨0, .nil, []⟩
def rowM58 (cs : Array Value) : SMem := ⟨1, Tr.nil.set 0 (some ⟨.pop cs, 58, true⟩), []⟩
def rrA (T : Ro) (s : SV) (m : SMem) : Prop :=
  match s, T with
  | .s (.c (.f (.slice sid _ _ _))), some (k, cs) => retOk 0 [(0, sid)] (sliceA 0 k) (rowM58 cs) s m
  | s, none => retOk 0 [] (.s (.c (.f (.lit (.slice none 0 0))))) ⟨0, .nil, []⟩ s m
  | _, _ => False
def T7 : List SIt := headTd (stF ER1 (ofC 0) [])
def H7 : List SIt := headTd (stH ER1 (ofC 0) [])
def T8 : List SIt := headTd (stF ER1 (isC #[] 0 0 true) [])
def H8 : List SIt := headTd (stH ER1 (isC #[] 0 0 true) [])
def T11 : List SIt := headTd (stF ER1 (withC #[] 0 0 true) [])
def H11 : List SIt := headTd (stH ER1 (withC #[] 0 0 true) [])
def T25 : List SIt := headTd (stF ER1 (rrC #[]) [])
def H25 : List SIt := headTd (stH ER1 (rrC #[]) [])
end
end Go.Proofs.YtebjigahnpjjiaaDoor
/- Of runs: the document's functions' rounds, as propositions. No condition. -/
namespace Go.Proofs.YtebjigahnpjjiaaDoor
set_option maxRecDepth 100000
theorem of7_start (p : Int) (Q : Int → Array Value → Prop) : (stR ER1 (ofC p)).vc (fun _ _ => False) (n7 false p Q) =
    (Q (0 : Int) #[Value.bool false, Value.bool false, Value.bool false, Value.bool false, Value.bool false, Value.bool false, Value.bool false, Value.bool false, Value.bool false, Value.bool false, Value.bool false, Value.bool false, Value.bool false, Value.bool false, Value.bool false, Value.bool false, Value.bool false, Value.bool false, Value.bool false, Value.bool false, Value.bool false, Value.bool false, Value.bool false, Value.bool false, Value.bool false, Value.bool false, Value.bool false, Value.bool false, Value.bool false, Value.bool false, Value.bool false, Value.bool false, Value.bool false, Value.bool false, Value.bool false, Value.bool false, Value.bool false, Value.bool false, Value.bool false, Value.bool false, Value.bool false, Value.bool false, Value.bool false, Value.bool false, Value.bool false, Value.bool false, Value.bool false, Value.bool false, Value.bool false, Value.bool false, Value.bool false, Value.bool false, Value.bool false, Value.bool false, Value.bool false, Value.bool false, Value.bool false, Value.bool false, Value.bool false, Value.bool false, Value.bool false, Value.bool false, Value.bool false, Value.bool false] ∧ CallKind.normal = CallKind.normal ∧ TodoOk (ren 0 [(0, 0), (1, 1)]) T7 T7 ∧ p = p ∧ (0 : Int) = (0 : Int) ∧ (29 : Nat) = (29 : Nat) ∧ (29 : Nat) = (29 : Nat) ∧ #[Value.bool false, Value.bool false, Value.bool false, Value.bool false, Value.bool false, Value.bool false, Value.bool false, Value.bool false, Value.bool false, Value.bool false, Value.bool false, Value.bool false, Value.bool false, Value.bool false, Value.bool false, Value.bool false, Value.bool false, Value.bool false, Value.bool false, Value.bool false, Value.bool false, Value.bool false, Value.bool false, Value.bool false, Value.bool false, Value.bool false, Value.bool false, Value.bool false, Value.bool false, Value.bool false, Value.bool false, Value.bool false, Value.bool false, Value.bool false, Value.bool false, Value.bool false, Value.bool false, Value.bool false, Value.bool false, Value.bool false, Value.bool false, Value.bool false, Value.bool false, Value.bool false, Value.bool false, Value.bool false, Value.bool false, Value.bool false, Value.bool false, Value.bool false, Value.bool false, Value.bool false, Value.bool false, Value.bool false, Value.bool false, Value.bool false, Value.bool false, Value.bool false, Value.bool false, Value.bool false, Value.bool false, Value.bool false, Value.bool false, Value.bool false] = #[Value.bool false, Value.bool false, Value.bool false, Value.bool false, Value.bool false, Value.bool false, Value.bool false, Value.bool false, Value.bool false, Value.bool false, Value.bool false, Value.bool false, Value.bool false, Value.bool false, Value.bool false, Value.bool false, Value.bool false, Value.bool false, Value.bool false, Value.bool false, Value.bool false, Value.bool false, Value.bool false, Value.bool false, Value.bool false, Value.bool false, Value.bool false, Value.bool false, Value.bool false, Value.bool false, Value.bool false, Value.bool false, Value.bool false, Value.bool false, Value.bool false, Value.bool false, Value.bool false, Value.bool false, Value.bool false, Value.bool false, Value.bool false, Value.bool false, Value.bool false, Value.bool false, Value.bool false, Value.bool false, Value.bool false, Value.bool false, Value.bool false, Value.bool false, Value.bool false, Value.bool false, Value.bool false, Value.bool false, Value.bool false, Value.bool false, Value.bool false, Value.bool false, Value.bool false, Value.bool false, Value.bool false, Value.bool false, Value.bool false, Value.bool false] ∧ True) := by kernel_rfl
theorem of7_step (p i : Int) (cs cf : Array Value) (Q : Int → Array Value → Prop) : (stS ER1 (ofC p) [(4, i64 (.o i))] [(1, .op cs)]).vc (aggA cf) (n7 true p Q) =
    ((decide (i < (64 : Int)) = true → (((0 : Int) ≤ i ∧ i < (64 : Int)) ∧ True) ∧ ((0 : Nat) + Int.toNat i * 1 < Array.size cs ∧ True) ∧ Q (ari BinOp.add IntKind.i64 i (1 : Int)) (Array.setIfInBounds cs ((0 : Nat) + Int.toNat i * 1) (Value.bool (decide (i < p)))) ∧ CallKind.normal = CallKind.normal ∧ TodoOk (ren 0 [(0, 0), (1, 1)]) H7 H7 ∧ p = p ∧ ari BinOp.add IntKind.i64 i (1 : Int) = ari BinOp.add IntKind.i64 i (1 : Int) ∧ (29 : Nat) = (29 : Nat) ∧ (29 : Nat) = (29 : Nat) ∧ Array.setIfInBounds cs ((0 : Nat) + Int.toNat i * 1) (Value.bool (decide (i < p))) = Array.setIfInBounds cs ((0 : Nat) + Int.toNat i * 1) (Value.bool (decide (i < p))) ∧ True) ∧ (decide (i < (64 : Int)) = false → (Array.size cs = (64 : Nat) ∧ True) ∧ (Array.size cs = (64 : Nat) ∧ Array.size cs = (64 : Nat) ∧ True) ∧ (Array.size cs = (64 : Nat) ∧ True) ∧ cf = cs ∧ True)) := by kernel_rfl
theorem is_start (cs : Array Value) (a n : Int) (b r : Bool) (Q : Int → Prop) : (stR ER1 (isC cs a n b)).vc (boolA r) (n8 false cs a n b Q) =
    (((decide (n < (1 : Int)) == false) = true → ((decide (n > (64 : Int)) == false) = true → ((decide (a < (0 : Int)) == false) = true → ((decide (a > (63 : Int)) == false) = true → (decide (ari BinOp.add IntKind.i64 a n > (64 : Int)) = true → r = false ∧ True) ∧ (decide (ari BinOp.add IntKind.i64 a n > (64 : Int)) = false → Q (0 : Int) ∧ CallKind.normal = CallKind.normal ∧ TodoOk (ren 0 [(0, 0)]) T8 T8 ∧ cs = cs ∧ a = a ∧ b = b ∧ decide (n > (64 : Int)) = decide (n > (64 : Int)) ∧ decide (a > (63 : Int)) = decide (a > (63 : Int)) ∧ decide (n < (1 : Int)) = decide (n < (1 : Int)) ∧ decide (a < (0 : Int)) = decide (a < (0 : Int)) ∧ ari BinOp.add IntKind.i64 a n = ari BinOp.add IntKind.i64 a n ∧ (0 : Int) = (0 : Int) ∧ a = a ∧ a = a ∧ n = n ∧ a = a ∧ n = n ∧ decide (ari BinOp.add IntKind.i64 a n > (64 : Int)) = decide (ari BinOp.add IntKind.i64 a n > (64 : Int)) ∧ n = n ∧ decide (a < (0 : Int)) = decide (a < (0 : Int)) ∧ n = n ∧ decide (n > (64 : Int)) = decide (n > (64 : Int)) ∧ decide (a > (63 : Int)) = decide (a > (63 : Int)) ∧ (29 : Nat) = (29 : Nat) ∧ cs = cs ∧ True)) ∧ ((decide (a > (63 : Int)) == false) = false → r = false ∧ True)) ∧ ((decide (a < (0 : Int)) == false) = false → r = false ∧ True)) ∧ ((decide (n > (64 : Int)) == false) = false → r = false ∧ True)) ∧ ((decide (n < (1 : Int)) == false) = false → r = false ∧ True)) := by kernel_rfl
theorem is_step (cs : Array Value) (a n i : Int) (b r : Bool) (Q : Int → Prop) : (stS ER1 (isC cs a n b) [(9, i64 (.o i))] []).vc (boolA r) (n8 true cs a n b Q) =
    ((decide (i < n) = true → (((0 : Int) ≤ ari BinOp.add IntKind.i64 a i ∧ ari BinOp.add IntKind.i64 a i < (64 : Int)) ∧ True) ∧ (IsBool cs ((0 : Nat) + Int.toNat (ari BinOp.add IntKind.i64 a i) * 1) ∧ True) ∧ ((!boolAt cs ((0 : Nat) + Int.toNat (ari BinOp.add IntKind.i64 a i) * 1) == b) = true → r = false ∧ True) ∧ ((!boolAt cs ((0 : Nat) + Int.toNat (ari BinOp.add IntKind.i64 a i) * 1) == b) = false → Q (ari BinOp.add IntKind.i64 i (1 : Int)) ∧ CallKind.normal = CallKind.normal ∧ TodoOk (ren 0 [(0, 0)]) H8 H8 ∧ cs = cs ∧ a = a ∧ b = b ∧ decide (n > (64 : Int)) = decide (n > (64 : Int)) ∧ decide (a > (63 : Int)) = decide (a > (63 : Int)) ∧ decide (n < (1 : Int)) = decide (n < (1 : Int)) ∧ decide (a < (0 : Int)) = decide (a < (0 : Int)) ∧ ari BinOp.add IntKind.i64 a n = ari BinOp.add IntKind.i64 a n ∧ ari BinOp.add IntKind.i64 i (1 : Int) = ari BinOp.add IntKind.i64 i (1 : Int) ∧ a = a ∧ a = a ∧ n = n ∧ a = a ∧ n = n ∧ decide (ari BinOp.add IntKind.i64 a n > (64 : Int)) = decide (ari BinOp.add IntKind.i64 a n > (64 : Int)) ∧ n = n ∧ decide (a < (0 : Int)) = decide (a < (0 : Int)) ∧ n = n ∧ decide (n > (64 : Int)) = decide (n > (64 : Int)) ∧ decide (a > (63 : Int)) = decide (a > (63 : Int)) ∧ (29 : Nat) = (29 : Nat) ∧ cs = cs ∧ True)) ∧ (decide (i < n) = false → r = true ∧ True)) := by kernel_rfl
theorem with_start (cs : Array Value) (a n : Int) (b : Bool) (Q : Int → Array Value → Prop) : (stR ER1 (withC cs a n b)).vc (fun _ _ => False) (n11 false cs a n b Q) =
    (Q (0 : Int) cs ∧ CallKind.normal = CallKind.normal ∧ TodoOk (ren 0 [(0, 0), (1, 1)]) T11 T11 ∧ cs = cs ∧ a = a ∧ b = b ∧ (0 : Int) = (0 : Int) ∧ n = n ∧ (29 : Nat) = (29 : Nat) ∧ cs = cs ∧ (29 : Nat) = (29 : Nat) ∧ True) := by kernel_rfl
theorem with_step (c0 cs cf : Array Value) (a n i : Int) (b : Bool) (Q : Int → Array Value → Prop) : (stS ER1 (withC c0 a n b) [(9, i64 (.o i))] [(0, .op cs)]).vc (aggA cf) (n11 true c0 a n b Q) =
    ((decide (i < n) = true → (((0 : Int) ≤ ari BinOp.add IntKind.i64 a i ∧ ari BinOp.add IntKind.i64 a i < (64 : Int)) ∧ True) ∧ ((0 : Nat) + Int.toNat (ari BinOp.add IntKind.i64 a i) * 1 < Array.size cs ∧ True) ∧ Q (ari BinOp.add IntKind.i64 i (1 : Int)) (Array.setIfInBounds cs ((0 : Nat) + Int.toNat (ari BinOp.add IntKind.i64 a i) * 1) (Value.bool b)) ∧ CallKind.normal = CallKind.normal ∧ TodoOk (ren 0 [(0, 0), (1, 1)]) H11 H11 ∧ c0 = c0 ∧ a = a ∧ b = b ∧ ari BinOp.add IntKind.i64 i (1 : Int) = ari BinOp.add IntKind.i64 i (1 : Int) ∧ n = n ∧ (29 : Nat) = (29 : Nat) ∧ Array.setIfInBounds cs ((0 : Nat) + Int.toNat (ari BinOp.add IntKind.i64 a i) * 1) (Value.bool b) = Array.setIfInBounds cs ((0 : Nat) + Int.toNat (ari BinOp.add IntKind.i64 a i) * 1) (Value.bool b) ∧ (29 : Nat) = (29 : Nat) ∧ True) ∧ (decide (i < n) = false → (Array.size cs = (64 : Nat) ∧ True) ∧ (Array.size cs = (64 : Nat) ∧ Array.size cs = (64 : Nat) ∧ True) ∧ (Array.size cs = (64 : Nat) ∧ True) ∧ cf = cs ∧ True)) := by kernel_rfl
theorem rr_start (cs : Array Value) (Q : Int → Ro → Prop) : (stR ER1 (rrC cs)).vc (fun _ _ => False) (n25 false cs Q) =
    (Q (0 : Int) none ∧ CallKind.normal = CallKind.normal ∧ TodoOk (ren 0 [(0, 0)]) T25 T25 ∧ cs = cs ∧ Value.slice none (0 : Nat) (0 : Nat) = Value.slice none (0 : Nat) (0 : Nat) ∧ Value.slice none (0 : Nat) (0 : Nat) = Value.slice none (0 : Nat) (0 : Nat) ∧ (0 : Int) = (0 : Int) ∧ (29 : Nat) = (29 : Nat) ∧ cs = cs ∧ True) := by kernel_rfl
theorem rr_noneE (cs : Array Value) (i : Int) (Q : Int → Ro → Prop) : (rrS cs none i).vcE (rrA none) (n25 true cs Q) =
    (decide (i < (64 : Int)) = false ∧ Value.slice none (0 : Nat) (0 : Nat) = Value.slice none (0 : Nat) (0 : Nat) ∧ True) := by kernel_rfl
theorem rr_noneT (cs : Array Value) (i : Int) (A : SV → SMem → Prop) (Q : Int → Ro → Prop) : (rrS cs none i).vcT A (n25 true cs Q) =
    (decide (i < (64 : Int)) = true ∧ (((0 : Int) ≤ i ∧ i < (64 : Int)) ∧ True) ∧ (IsBool cs ((0 : Nat) + Int.toNat i * 1) ∧ True) ∧ ((!boolAt cs ((0 : Nat) + Int.toNat i * 1)) = true → Q (ari BinOp.add IntKind.i64 i (1 : Int)) none ∧ CallKind.normal = CallKind.normal ∧ TodoOk (ren 0 [(0, 0)]) H25 H25 ∧ cs = cs ∧ Value.slice none (0 : Nat) (0 : Nat) = Value.slice none (0 : Nat) (0 : Nat) ∧ Value.slice none (0 : Nat) (0 : Nat) = Value.slice none (0 : Nat) (0 : Nat) ∧ ari BinOp.add IntKind.i64 i (1 : Int) = ari BinOp.add IntKind.i64 i (1 : Int) ∧ (29 : Nat) = (29 : Nat) ∧ cs = cs ∧ True) ∧ ((!boolAt cs ((0 : Nat) + Int.toNat i * 1)) = false → ((decide (i > (0 : Int)) == true) = true → (((0 : Int) ≤ ari BinOp.sub IntKind.i64 i (1 : Int) ∧ ari BinOp.sub IntKind.i64 i (1 : Int) < (64 : Int)) ∧ True) ∧ (IsBool cs ((0 : Nat) + Int.toNat (ari BinOp.sub IntKind.i64 i (1 : Int)) * 1) ∧ True) ∧ (boolAt cs ((0 : Nat) + Int.toNat (ari BinOp.sub IntKind.i64 i (1 : Int)) * 1) = true → False) ∧ (boolAt cs ((0 : Nat) + Int.toNat (ari BinOp.sub IntKind.i64 i (1 : Int)) * 1) = false → Q (ari BinOp.add IntKind.i64 i (1 : Int)) (some ((1 : Nat), #[Value.int IntKind.i64 i, Value.int IntKind.i64 (1 : Int)])) ∧ CallKind.normal = CallKind.normal ∧ TodoOk (ren 0 [(0, 0), (1, 2)]) H25 H25 ∧ cs = cs ∧ (1 : Nat) = (1 : Nat) ∧ Value.slice none (0 : Nat) (0 : Nat) = Value.slice none (0 : Nat) (0 : Nat) ∧ ari BinOp.add IntKind.i64 i (1 : Int) = ari BinOp.add IntKind.i64 i (1 : Int) ∧ (29 : Nat) = (29 : Nat) ∧ cs = cs ∧ (58 : TypeId) = (58 : Nat) ∧ #[Value.int IntKind.i64 i, Value.int IntKind.i64 (1 : Int)] = #[Value.int IntKind.i64 i, Value.int IntKind.i64 (1 : Int)] ∧ True)) ∧ ((decide (i > (0 : Int)) == true) = false → Q (ari BinOp.add IntKind.i64 i (1 : Int)) (some ((1 : Nat), #[Value.int IntKind.i64 i, Value.int IntKind.i64 (1 : Int)])) ∧ CallKind.normal = CallKind.normal ∧ TodoOk (ren 0 [(0, 0), (1, 2)]) H25 H25 ∧ cs = cs ∧ (1 : Nat) = (1 : Nat) ∧ Value.slice none (0 : Nat) (0 : Nat) = Value.slice none (0 : Nat) (0 : Nat) ∧ ari BinOp.add IntKind.i64 i (1 : Int) = ari BinOp.add IntKind.i64 i (1 : Int) ∧ (29 : Nat) = (29 : Nat) ∧ cs = cs ∧ (58 : TypeId) = (58 : Nat) ∧ #[Value.int IntKind.i64 i, Value.int IntKind.i64 (1 : Int)] = #[Value.int IntKind.i64 i, Value.int IntKind.i64 (1 : Int)] ∧ True))) := by kernel_rfl
theorem rr_someE (cs ts tf : Array Value) (k kf : Nat) (i : Int) (Q : Int → Ro → Prop) : (rrS cs (some (k, ts)) i).vcE (rrA (some (kf, tf))) (n25 true cs Q) =
    (decide (i < (64 : Int)) = false ∧ kf = k ∧ (58 : TypeId) = (58 : TypeId) ∧ tf = ts ∧ True) := by kernel_rfl
theorem rr_someT (cs ts : Array Value) (k : Nat) (i : Int) (A : SV → SMem → Prop) (Q : Int → Ro → Prop) : (rrS cs (some (k, ts)) i).vcT A (n25 true cs Q) =
    (decide (i < (64 : Int)) = true ∧ (((0 : Int) ≤ i ∧ i < (64 : Int)) ∧ True) ∧ (IsBool cs ((0 : Nat) + Int.toNat i * 1) ∧ True) ∧ ((!boolAt cs ((0 : Nat) + Int.toNat i * 1)) = true → Q (ari BinOp.add IntKind.i64 i (1 : Int)) (some (k, ts)) ∧ CallKind.normal = CallKind.normal ∧ TodoOk (ren 0 [(0, 0), (1, 1)]) H25 H25 ∧ cs = cs ∧ k = k ∧ Value.slice none (0 : Nat) (0 : Nat) = Value.slice none (0 : Nat) (0 : Nat) ∧ ari BinOp.add IntKind.i64 i (1 : Int) = ari BinOp.add IntKind.i64 i (1 : Int) ∧ (29 : Nat) = (29 : Nat) ∧ cs = cs ∧ (58 : TypeId) = (58 : TypeId) ∧ ts = ts ∧ True) ∧ ((!boolAt cs ((0 : Nat) + Int.toNat i * 1)) = false → ((decide (i > (0 : Int)) == true) = true → (((0 : Int) ≤ ari BinOp.sub IntKind.i64 i (1 : Int) ∧ ari BinOp.sub IntKind.i64 i (1 : Int) < (64 : Int)) ∧ True) ∧ (IsBool cs ((0 : Nat) + Int.toNat (ari BinOp.sub IntKind.i64 i (1 : Int)) * 1) ∧ True) ∧ (boolAt cs ((0 : Nat) + Int.toNat (ari BinOp.sub IntKind.i64 i (1 : Int)) * 1) = true → (((0 : Int) ≤ ari BinOp.sub IntKind.i64 (↑k : Int) (1 : Int) ∧ ari BinOp.sub IntKind.i64 (↑k : Int) (1 : Int) < (↑k : Int)) ∧ True) ∧ (IsInt IntKind.i64 ts ((0 : Nat) + Int.toNat (ari BinOp.sub IntKind.i64 (↑k : Int) (1 : Int)) * 2 + 1) ∧ True) ∧ (((0 : Int) ≤ ari BinOp.sub IntKind.i64 (↑k : Int) (1 : Int) ∧ ari BinOp.sub IntKind.i64 (↑k : Int) (1 : Int) < (↑k : Int)) ∧ True) ∧ ((0 : Nat) + Int.toNat (ari BinOp.sub IntKind.i64 (↑k : Int) (1 : Int)) * 2 + 1 < Array.size ts ∧ True) ∧ Q (ari BinOp.add IntKind.i64 i (1 : Int)) (some (k, Array.setIfInBounds ts ((0 : Nat) + Int.toNat (ari BinOp.sub IntKind.i64 (↑k : Int) (1 : Int)) * 2 + 1) (Value.int IntKind.i64 (ari BinOp.add IntKind.i64 (intAt ts ((0 : Nat) + Int.toNat (ari BinOp.sub IntKind.i64 (↑k : Int) (1 : Int)) * 2 + 1)) (1 : Int))))) ∧ CallKind.normal = CallKind.normal ∧ TodoOk (ren 0 [(0, 0), (1, 1)]) H25 H25 ∧ cs = cs ∧ k = k ∧ Value.slice none (0 : Nat) (0 : Nat) = Value.slice none (0 : Nat) (0 : Nat) ∧ ari BinOp.add IntKind.i64 i (1 : Int) = ari BinOp.add IntKind.i64 i (1 : Int) ∧ (29 : Nat) = (29 : Nat) ∧ cs = cs ∧ (58 : TypeId) = (58 : TypeId) ∧ Array.setIfInBounds ts ((0 : Nat) + Int.toNat (ari BinOp.sub IntKind.i64 (↑k : Int) (1 : Int)) * 2 + 1) (Value.int IntKind.i64 (ari BinOp.add IntKind.i64 (intAt ts ((0 : Nat) + Int.toNat (ari BinOp.sub IntKind.i64 (↑k : Int) (1 : Int)) * 2 + 1)) (1 : Int))) = Array.setIfInBounds ts ((0 : Nat) + Int.toNat (ari BinOp.sub IntKind.i64 (↑k : Int) (1 : Int)) * 2 + 1) (Value.int IntKind.i64 (ari BinOp.add IntKind.i64 (intAt ts ((0 : Nat) + Int.toNat (ari BinOp.sub IntKind.i64 (↑k : Int) (1 : Int)) * 2 + 1)) (1 : Int))) ∧ True) ∧ (boolAt cs ((0 : Nat) + Int.toNat (ari BinOp.sub IntKind.i64 i (1 : Int)) * 1) = false → (((k + 1) * 16 ≤ (140737488355328 : Nat) ∧ k + 1 ≤ (140737488355328 : Nat)) ∧ k * 2 = Array.size ts ∧ True) ∧ Q (ari BinOp.add IntKind.i64 i (1 : Int)) (some (k + 1, ts ++ #[Value.int IntKind.i64 i, Value.int IntKind.i64 (1 : Int)])) ∧ CallKind.normal = CallKind.normal ∧ TodoOk (ren 0 [(0, 0), (1, 3)]) H25 H25 ∧ cs = cs ∧ k + 1 = k + 1 ∧ Value.slice none (0 : Nat) (0 : Nat) = Value.slice none (0 : Nat) (0 : Nat) ∧ ari BinOp.add IntKind.i64 i (1 : Int) = ari BinOp.add IntKind.i64 i (1 : Int) ∧ (29 : Nat) = (29 : Nat) ∧ cs = cs ∧ (58 : TypeId) = (58 : Nat) ∧ ts ++ #[Value.int IntKind.i64 i, Value.int IntKind.i64 (1 : Int)] = ts ++ #[Value.int IntKind.i64 i, Value.int IntKind.i64 (1 : Int)] ∧ True)) ∧ ((decide (i > (0 : Int)) == true) = false → (((k + 1) * 16 ≤ (140737488355328 : Nat) ∧ k + 1 ≤ (140737488355328 : Nat)) ∧ k * 2 = Array.size ts ∧ True) ∧ Q (ari BinOp.add IntKind.i64 i (1 : Int)) (some (k + 1, ts ++ #[Value.int IntKind.i64 i, Value.int IntKind.i64 (1 : Int)])) ∧ CallKind.normal = CallKind.normal ∧ TodoOk (ren 0 [(0, 0), (1, 3)]) H25 H25 ∧ cs = cs ∧ k + 1 = k + 1 ∧ Value.slice none (0 : Nat) (0 : Nat) = Value.slice none (0 : Nat) (0 : Nat) ∧ ari BinOp.add IntKind.i64 i (1 : Int) = ari BinOp.add IntKind.i64 i (1 : Int) ∧ (29 : Nat) = (29 : Nat) ∧ cs = cs ∧ (58 : TypeId) = (58 : Nat) ∧ ts ++ #[Value.int IntKind.i64 i, Value.int IntKind.i64 (1 : Int)] = ts ++ #[Value.int IntKind.i64 i, Value.int IntKind.i64 (1 : Int)] ∧ True))) := by kernel_rfl
end Go.Proofs.YtebjigahnpjjiaaDoor
