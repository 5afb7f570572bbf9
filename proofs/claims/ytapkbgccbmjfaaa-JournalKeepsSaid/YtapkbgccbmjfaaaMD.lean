/- Of journal: law 6: its journals, as propositions. No condition. -/
import Derived.Test.YtapkbgccbmjfaaaMC
namespace Go.Proofs.Ytapkbgccbmjfaaa
set_option maxRecDepth 100000
theorem y6_start_t (P : Int) (o n : Nat) (q : ByteArray) (o' n' : Nat) (e : Int) (cs ds : Array Value) (ty tz : TypeId) (Q : ByteArray → Prop) : (run EK 1000 2 (y6C true P o n q o' n' e) (M2 cs ds ty tz)).vc (boolR true) (y6N0 true P o n q o' n' e cs ds ty tz Q) =
    ((StrI cs o n ∧ True) ∧ ((greatV n q cs o == false) = true → (StrR cs o n ∧ True) ∧ ((!mayS P o n (ByteArray.size q) cs (celA q)) = true → true = true) ∧ ((!mayS P o n (ByteArray.size q) cs (celA q)) = false → (StrOk cs o n ∧ True) ∧ (mayS P o n (0 : Nat) cs #[] = true → ((↑((4 : Nat) + ByteArray.size (strOf [Value.int IntKind.u8 (IntKind.wrap IntKind.u8 (((ByteArray.size (encS P o n (0 : Nat) cs #[])) : Nat) : Int)), Value.int IntKind.u8 (IntKind.wrap IntKind.u8 (ari BinOp.shr IntKind.i64 ((((ByteArray.size (encS P o n (0 : Nat) cs #[])) : Nat) : Int)) (8 : Int)))])) : Int) ≤ (9223372036854775807 : Int) ∧ True) ∧ ((↑(ByteArray.size (ByteArray.mk #[(66 : UInt8), (76 : UInt8), (87 : UInt8), (75 : UInt8)] ++ strOf [Value.int IntKind.u8 (IntKind.wrap IntKind.u8 (((ByteArray.size (encS P o n (0 : Nat) cs #[])) : Nat) : Int)), Value.int IntKind.u8 (IntKind.wrap IntKind.u8 (ari BinOp.shr IntKind.i64 ((((ByteArray.size (encS P o n (0 : Nat) cs #[])) : Nat) : Int)) (8 : Int)))]) + ByteArray.size (encS P o n (0 : Nat) cs #[])) : Int) ≤ (9223372036854775807 : Int) ∧ True) ∧ ((0 : Nat) + ByteArray.size (ByteArray.mk #[(66 : UInt8), (76 : UInt8), (87 : UInt8), (75 : UInt8)] ++ strOf [Value.int IntKind.u8 (IntKind.wrap IntKind.u8 (((ByteArray.size (encS P o n (0 : Nat) cs #[])) : Nat) : Int)), Value.int IntKind.u8 (IntKind.wrap IntKind.u8 (ari BinOp.shr IntKind.i64 ((((ByteArray.size (encS P o n (0 : Nat) cs #[])) : Nat) : Int)) (8 : Int)))] ++ encS P o n (0 : Nat) cs #[]) ≤ (1000000 : Nat) ∧ True) ∧ Q (smA (ByteArray.mk #[]) (ByteArray.mk #[(66 : UInt8), (76 : UInt8), (87 : UInt8), (75 : UInt8)] ++ strOf [Value.int IntKind.u8 (IntKind.wrap IntKind.u8 (((ByteArray.size (encS P o n (0 : Nat) cs #[])) : Nat) : Int)), Value.int IntKind.u8 (IntKind.wrap IntKind.u8 (ari BinOp.shr IntKind.i64 ((((ByteArray.size (encS P o n (0 : Nat) cs #[])) : Nat) : Int)) (8 : Int)))] ++ encS P o n (0 : Nat) cs #[])) ∧ CallKind.normal = CallKind.normal ∧ TodoOk (ren 2 [(2, 2), (4, 4), (10, 10), (11, 11)]) y6T0 y6T0 ∧ P = P ∧ o = o ∧ n = n ∧ Value.string q = Value.string q ∧ o' = o' ∧ n' = n' ∧ Value.slice none (0 : Nat) (0 : Nat) = Value.slice none (0 : Nat) (0 : Nat) ∧ Value.string (ByteArray.mk #[]) = Value.string (ByteArray.mk #[]) ∧ Value.string (smA (ByteArray.mk #[]) (ByteArray.mk #[(66 : UInt8), (76 : UInt8), (87 : UInt8), (75 : UInt8)] ++ strOf [Value.int IntKind.u8 (IntKind.wrap IntKind.u8 (((ByteArray.size (encS P o n (0 : Nat) cs #[])) : Nat) : Int)), Value.int IntKind.u8 (IntKind.wrap IntKind.u8 (ari BinOp.shr IntKind.i64 ((((ByteArray.size (encS P o n (0 : Nat) cs #[])) : Nat) : Int)) (8 : Int)))] ++ encS P o n (0 : Nat) cs #[])) = Value.string (smA (ByteArray.mk #[]) (ByteArray.mk #[(66 : UInt8), (76 : UInt8), (87 : UInt8), (75 : UInt8)] ++ strOf [Value.int IntKind.u8 (IntKind.wrap IntKind.u8 (((ByteArray.size (encS P o n (0 : Nat) cs #[])) : Nat) : Int)), Value.int IntKind.u8 (IntKind.wrap IntKind.u8 (ari BinOp.shr IntKind.i64 ((((ByteArray.size (encS P o n (0 : Nat) cs #[])) : Nat) : Int)) (8 : Int)))] ++ encS P o n (0 : Nat) cs #[])) ∧ Value.slice none (0 : Nat) (0 : Nat) = Value.slice none (0 : Nat) (0 : Nat) ∧ CallKind.normal = CallKind.normal ∧ TodoOk (ren 2 [(2, 2), (4, 4), (10, 10), (11, 11)]) y6T1 y6T1 ∧ P = P ∧ o = o ∧ n = n ∧ Value.string q = Value.string q ∧ o' = o' ∧ n' = n' ∧ e = e ∧ ty = ty ∧ cs = cs ∧ tz = tz ∧ ds = ds ∧ (3 : TypeId) = (3 : Nat) ∧ SBlk.ty (scB P o n q) = (24 : Nat) ∧ P = P ∧ o = o ∧ n = n ∧ Value.string q = Value.string q ∧ SBlk.ty (scB P o n q) = (24 : Nat) ∧ P = P ∧ o = o ∧ n = n ∧ Value.string q = Value.string q ∧ (3 : TypeId) = (3 : Nat) ∧ ((↑(ByteArray.size (smA (ByteArray.mk #[]) (ByteArray.mk #[(66 : UInt8), (76 : UInt8), (87 : UInt8), (75 : UInt8)] ++ strOf [Value.int IntKind.u8 (IntKind.wrap IntKind.u8 (((ByteArray.size (encS P o n (0 : Nat) cs #[])) : Nat) : Int)), Value.int IntKind.u8 (IntKind.wrap IntKind.u8 (ari BinOp.shr IntKind.i64 ((((ByteArray.size (encS P o n (0 : Nat) cs #[])) : Nat) : Int)) (8 : Int)))] ++ encS P o n (0 : Nat) cs #[]))) : Int) = (((ByteArray.size (smA (ByteArray.mk #[]) (ByteArray.mk #[(66 : UInt8), (76 : UInt8), (87 : UInt8), (75 : UInt8)] ++ strOf [Value.int IntKind.u8 (IntKind.wrap IntKind.u8 (((ByteArray.size (encS P o n (0 : Nat) cs #[])) : Nat) : Int)), Value.int IntKind.u8 (IntKind.wrap IntKind.u8 (ari BinOp.shr IntKind.i64 ((((ByteArray.size (encS P o n (0 : Nat) cs #[])) : Nat) : Int)) (8 : Int)))] ++ encS P o n (0 : Nat) cs #[]))) : Nat) : Int)) ∧ True) ∧ (mayS P o n (0 : Nat) cs #[] = false → false = true))) ∧ ((greatV n q cs o == false) = false → true = true)) := by kernel_rfl
theorem y6_first_t (P : Int) (o n : Nat) (q : ByteArray) (o' n' : Nat) (e : Int) (cs ds : Array Value) (ty tz : TypeId) (j : ByteArray) (Q : ByteArray → Nat → Array Value → Nat → Array Value → Int → Int → Prop) : (y6S0 true P o n q o' n' e cs ds ty tz j).vcT (boolR true) (y6N1 true P o n q o' n' e cs ds ty tz Q) =
    (decide ((0 : Int) < (((ByteArray.size q) : Nat) : Int)) = true ∧ (decide ((0 : Int) < (↑n' : Int)) = true → (((0 : Int) ≤ (0 : Int) ∧ (0 : Int) < (↑n' : Int)) ∧ True) ∧ (IsInt IntKind.u8 ds o' ∧ True) ∧ ((0 : Int) ≤ ari BinOp.add IntKind.i64 (0 : Int) (if ari BinOp.sub IntKind.i64 ((((ByteArray.size q) : Nat) : Int)) (0 : Int) < ari BinOp.add IntKind.i64 (1 : Int) (ari BinOp.rem IntKind.i64 (IntKind.wrap IntKind.i64 (intAt ds o')) (200 : Int)) then ari BinOp.sub IntKind.i64 ((((ByteArray.size q) : Nat) : Int)) (0 : Int) else ari BinOp.add IntKind.i64 (1 : Int) (ari BinOp.rem IntKind.i64 (IntKind.wrap IntKind.i64 (intAt ds o')) (200 : Int))) ∧ (Int.toNat (ari BinOp.add IntKind.i64 (0 : Int) (if ari BinOp.sub IntKind.i64 ((((ByteArray.size q) : Nat) : Int)) (0 : Int) < ari BinOp.add IntKind.i64 (1 : Int) (ari BinOp.rem IntKind.i64 (IntKind.wrap IntKind.i64 (intAt ds o')) (200 : Int)) then ari BinOp.sub IntKind.i64 ((((ByteArray.size q) : Nat) : Int)) (0 : Int) else ari BinOp.add IntKind.i64 (1 : Int) (ari BinOp.rem IntKind.i64 (IntKind.wrap IntKind.i64 (intAt ds o')) (200 : Int)))) ≤ (ByteArray.size q)) ∧ (0 : Nat) ≤ Int.toNat (ari BinOp.add IntKind.i64 (0 : Int) (if ari BinOp.sub IntKind.i64 ((((ByteArray.size q) : Nat) : Int)) (0 : Int) < ari BinOp.add IntKind.i64 (1 : Int) (ari BinOp.rem IntKind.i64 (IntKind.wrap IntKind.i64 (intAt ds o')) (200 : Int)) then ari BinOp.sub IntKind.i64 ((((ByteArray.size q) : Nat) : Int)) (0 : Int) else ari BinOp.add IntKind.i64 (1 : Int) (ari BinOp.rem IntKind.i64 (IntKind.wrap IntKind.i64 (intAt ds o')) (200 : Int)))) ∧ True) ∧ (ByteArray.size j ≤ (90000 : Nat) ∧ BytR (Array.map (fun b => Value.int IntKind.u8 (↑(UInt8.toNat b) : Int)) (ByteArray.data (ByteArray.extract q (0 : Nat) (Int.toNat (ari BinOp.add IntKind.i64 (0 : Int) (if ari BinOp.sub IntKind.i64 ((((ByteArray.size q) : Nat) : Int)) (0 : Int) < ari BinOp.add IntKind.i64 (1 : Int) (ari BinOp.rem IntKind.i64 (IntKind.wrap IntKind.i64 (intAt ds o')) (200 : Int)) then ari BinOp.sub IntKind.i64 ((((ByteArray.size q) : Nat) : Int)) (0 : Int) else ari BinOp.add IntKind.i64 (1 : Int) (ari BinOp.rem IntKind.i64 (IntKind.wrap IntKind.i64 (intAt ds o')) (200 : Int)))))))) (0 : Nat) (ByteArray.size (ByteArray.extract q (0 : Nat) (Int.toNat (ari BinOp.add IntKind.i64 (0 : Int) (if ari BinOp.sub IntKind.i64 ((((ByteArray.size q) : Nat) : Int)) (0 : Int) < ari BinOp.add IntKind.i64 (1 : Int) (ari BinOp.rem IntKind.i64 (IntKind.wrap IntKind.i64 (intAt ds o')) (200 : Int)) then ari BinOp.sub IntKind.i64 ((((ByteArray.size q) : Nat) : Int)) (0 : Int) else ari BinOp.add IntKind.i64 (1 : Int) (ari BinOp.rem IntKind.i64 (IntKind.wrap IntKind.i64 (intAt ds o')) (200 : Int))))))) ∧ True) ∧ (adOk j (ByteArray.size (ByteArray.extract q (0 : Nat) (Int.toNat (ari BinOp.add IntKind.i64 (0 : Int) (if ari BinOp.sub IntKind.i64 ((((ByteArray.size q) : Nat) : Int)) (0 : Int) < ari BinOp.add IntKind.i64 (1 : Int) (ari BinOp.rem IntKind.i64 (IntKind.wrap IntKind.i64 (intAt ds o')) (200 : Int)) then ari BinOp.sub IntKind.i64 ((((ByteArray.size q) : Nat) : Int)) (0 : Int) else ari BinOp.add IntKind.i64 (1 : Int) (ari BinOp.rem IntKind.i64 (IntKind.wrap IntKind.i64 (intAt ds o')) (200 : Int))))))) (anyB (Array.map (fun b => Value.int IntKind.u8 (↑(UInt8.toNat b) : Int)) (ByteArray.data (ByteArray.extract q (0 : Nat) (Int.toNat (ari BinOp.add IntKind.i64 (0 : Int) (if ari BinOp.sub IntKind.i64 ((((ByteArray.size q) : Nat) : Int)) (0 : Int) < ari BinOp.add IntKind.i64 (1 : Int) (ari BinOp.rem IntKind.i64 (IntKind.wrap IntKind.i64 (intAt ds o')) (200 : Int)) then ari BinOp.sub IntKind.i64 ((((ByteArray.size q) : Nat) : Int)) (0 : Int) else ari BinOp.add IntKind.i64 (1 : Int) (ari BinOp.rem IntKind.i64 (IntKind.wrap IntKind.i64 (intAt ds o')) (200 : Int)))))))) (0 : Nat) (ByteArray.size (ByteArray.extract q (0 : Nat) (Int.toNat (ari BinOp.add IntKind.i64 (0 : Int) (if ari BinOp.sub IntKind.i64 ((((ByteArray.size q) : Nat) : Int)) (0 : Int) < ari BinOp.add IntKind.i64 (1 : Int) (ari BinOp.rem IntKind.i64 (IntKind.wrap IntKind.i64 (intAt ds o')) (200 : Int)) then ari BinOp.sub IntKind.i64 ((((ByteArray.size q) : Nat) : Int)) (0 : Int) else ari BinOp.add IntKind.i64 (1 : Int) (ari BinOp.rem IntKind.i64 (IntKind.wrap IntKind.i64 (intAt ds o')) (200 : Int)))))))) = true → (adF j (ByteArray.size (ByteArray.extract q (0 : Nat) (Int.toNat (ari BinOp.add IntKind.i64 (0 : Int) (if ari BinOp.sub IntKind.i64 ((((ByteArray.size q) : Nat) : Int)) (0 : Int) < ari BinOp.add IntKind.i64 (1 : Int) (ari BinOp.rem IntKind.i64 (IntKind.wrap IntKind.i64 (intAt ds o')) (200 : Int)) then ari BinOp.sub IntKind.i64 ((((ByteArray.size q) : Nat) : Int)) (0 : Int) else ari BinOp.add IntKind.i64 (1 : Int) (ari BinOp.rem IntKind.i64 (IntKind.wrap IntKind.i64 (intAt ds o')) (200 : Int))))))) = true → Q (adR j (pkQ (Array.map (fun b => Value.int IntKind.u8 (↑(UInt8.toNat b) : Int)) (ByteArray.data (ByteArray.extract q (0 : Nat) (Int.toNat (ari BinOp.add IntKind.i64 (0 : Int) (if ari BinOp.sub IntKind.i64 ((((ByteArray.size q) : Nat) : Int)) (0 : Int) < ari BinOp.add IntKind.i64 (1 : Int) (ari BinOp.rem IntKind.i64 (IntKind.wrap IntKind.i64 (intAt ds o')) (200 : Int)) then ari BinOp.sub IntKind.i64 ((((ByteArray.size q) : Nat) : Int)) (0 : Int) else ari BinOp.add IntKind.i64 (1 : Int) (ari BinOp.rem IntKind.i64 (IntKind.wrap IntKind.i64 (intAt ds o')) (200 : Int)))))))) (0 : Nat) (ByteArray.size (ByteArray.extract q (0 : Nat) (Int.toNat (ari BinOp.add IntKind.i64 (0 : Int) (if ari BinOp.sub IntKind.i64 ((((ByteArray.size q) : Nat) : Int)) (0 : Int) < ari BinOp.add IntKind.i64 (1 : Int) (ari BinOp.rem IntKind.i64 (IntKind.wrap IntKind.i64 (intAt ds o')) (200 : Int)) then ari BinOp.sub IntKind.i64 ((((ByteArray.size q) : Nat) : Int)) (0 : Int) else ari BinOp.add IntKind.i64 (1 : Int) (ari BinOp.rem IntKind.i64 (IntKind.wrap IntKind.i64 (intAt ds o')) (200 : Int))))))))) (2 : Nat) #[Value.int IntKind.i64 (↑(ByteArray.size j) : Int), Value.int IntKind.i64 ((((ByteArray.size (adR j (pkQ (Array.map (fun b => Value.int IntKind.u8 (↑(UInt8.toNat b) : Int)) (ByteArray.data (ByteArray.extract q (0 : Nat) (Int.toNat (ari BinOp.add IntKind.i64 (0 : Int) (if ari BinOp.sub IntKind.i64 ((((ByteArray.size q) : Nat) : Int)) (0 : Int) < ari BinOp.add IntKind.i64 (1 : Int) (ari BinOp.rem IntKind.i64 (IntKind.wrap IntKind.i64 (intAt ds o')) (200 : Int)) then ari BinOp.sub IntKind.i64 ((((ByteArray.size q) : Nat) : Int)) (0 : Int) else ari BinOp.add IntKind.i64 (1 : Int) (ari BinOp.rem IntKind.i64 (IntKind.wrap IntKind.i64 (intAt ds o')) (200 : Int)))))))) (0 : Nat) (ByteArray.size (ByteArray.extract q (0 : Nat) (Int.toNat (ari BinOp.add IntKind.i64 (0 : Int) (if ari BinOp.sub IntKind.i64 ((((ByteArray.size q) : Nat) : Int)) (0 : Int) < ari BinOp.add IntKind.i64 (1 : Int) (ari BinOp.rem IntKind.i64 (IntKind.wrap IntKind.i64 (intAt ds o')) (200 : Int)) then ari BinOp.sub IntKind.i64 ((((ByteArray.size q) : Nat) : Int)) (0 : Int) else ari BinOp.add IntKind.i64 (1 : Int) (ari BinOp.rem IntKind.i64 (IntKind.wrap IntKind.i64 (intAt ds o')) (200 : Int)))))))))) : Nat) : Int))] (2 : Nat) #[Value.int IntKind.i64 (0 : Int), Value.int IntKind.i64 (ari BinOp.add IntKind.i64 (0 : Int) (if ari BinOp.sub IntKind.i64 ((((ByteArray.size q) : Nat) : Int)) (0 : Int) < ari BinOp.add IntKind.i64 (1 : Int) (ari BinOp.rem IntKind.i64 (IntKind.wrap IntKind.i64 (intAt ds o')) (200 : Int)) then ari BinOp.sub IntKind.i64 ((((ByteArray.size q) : Nat) : Int)) (0 : Int) else ari BinOp.add IntKind.i64 (1 : Int) (ari BinOp.rem IntKind.i64 (IntKind.wrap IntKind.i64 (intAt ds o')) (200 : Int))))] (ari BinOp.add IntKind.i64 (0 : Int) (if ari BinOp.sub IntKind.i64 ((((ByteArray.size q) : Nat) : Int)) (0 : Int) < ari BinOp.add IntKind.i64 (1 : Int) (ari BinOp.rem IntKind.i64 (IntKind.wrap IntKind.i64 (intAt ds o')) (200 : Int)) then ari BinOp.sub IntKind.i64 ((((ByteArray.size q) : Nat) : Int)) (0 : Int) else ari BinOp.add IntKind.i64 (1 : Int) (ari BinOp.rem IntKind.i64 (IntKind.wrap IntKind.i64 (intAt ds o')) (200 : Int)))) (1 : Int) ∧ CallKind.normal = CallKind.normal ∧ TodoOk (ren 2 [(2, 2), (4, 4), (5, 14), (6, 16)]) y6H0 y6H0 ∧ P = P ∧ o = o ∧ n = n ∧ Value.string q = Value.string q ∧ o' = o' ∧ n' = n' ∧ (2 : Nat) = (2 : Nat) ∧ Value.slice none (0 : Nat) (0 : Nat) = Value.slice none (0 : Nat) (0 : Nat) ∧ (1 : Int) = (1 : Int) ∧ Value.string (ByteArray.mk #[]) = Value.string (ByteArray.mk #[]) ∧ Value.string (adR j (pkQ (Array.map (fun b => Value.int IntKind.u8 (↑(UInt8.toNat b) : Int)) (ByteArray.data (ByteArray.extract q (0 : Nat) (Int.toNat (ari BinOp.add IntKind.i64 (0 : Int) (if ari BinOp.sub IntKind.i64 ((((ByteArray.size q) : Nat) : Int)) (0 : Int) < ari BinOp.add IntKind.i64 (1 : Int) (ari BinOp.rem IntKind.i64 (IntKind.wrap IntKind.i64 (intAt ds o')) (200 : Int)) then ari BinOp.sub IntKind.i64 ((((ByteArray.size q) : Nat) : Int)) (0 : Int) else ari BinOp.add IntKind.i64 (1 : Int) (ari BinOp.rem IntKind.i64 (IntKind.wrap IntKind.i64 (intAt ds o')) (200 : Int)))))))) (0 : Nat) (ByteArray.size (ByteArray.extract q (0 : Nat) (Int.toNat (ari BinOp.add IntKind.i64 (0 : Int) (if ari BinOp.sub IntKind.i64 ((((ByteArray.size q) : Nat) : Int)) (0 : Int) < ari BinOp.add IntKind.i64 (1 : Int) (ari BinOp.rem IntKind.i64 (IntKind.wrap IntKind.i64 (intAt ds o')) (200 : Int)) then ari BinOp.sub IntKind.i64 ((((ByteArray.size q) : Nat) : Int)) (0 : Int) else ari BinOp.add IntKind.i64 (1 : Int) (ari BinOp.rem IntKind.i64 (IntKind.wrap IntKind.i64 (intAt ds o')) (200 : Int))))))))) = Value.string (adR j (pkQ (Array.map (fun b => Value.int IntKind.u8 (↑(UInt8.toNat b) : Int)) (ByteArray.data (ByteArray.extract q (0 : Nat) (Int.toNat (ari BinOp.add IntKind.i64 (0 : Int) (if ari BinOp.sub IntKind.i64 ((((ByteArray.size q) : Nat) : Int)) (0 : Int) < ari BinOp.add IntKind.i64 (1 : Int) (ari BinOp.rem IntKind.i64 (IntKind.wrap IntKind.i64 (intAt ds o')) (200 : Int)) then ari BinOp.sub IntKind.i64 ((((ByteArray.size q) : Nat) : Int)) (0 : Int) else ari BinOp.add IntKind.i64 (1 : Int) (ari BinOp.rem IntKind.i64 (IntKind.wrap IntKind.i64 (intAt ds o')) (200 : Int)))))))) (0 : Nat) (ByteArray.size (ByteArray.extract q (0 : Nat) (Int.toNat (ari BinOp.add IntKind.i64 (0 : Int) (if ari BinOp.sub IntKind.i64 ((((ByteArray.size q) : Nat) : Int)) (0 : Int) < ari BinOp.add IntKind.i64 (1 : Int) (ari BinOp.rem IntKind.i64 (IntKind.wrap IntKind.i64 (intAt ds o')) (200 : Int)) then ari BinOp.sub IntKind.i64 ((((ByteArray.size q) : Nat) : Int)) (0 : Int) else ari BinOp.add IntKind.i64 (1 : Int) (ari BinOp.rem IntKind.i64 (IntKind.wrap IntKind.i64 (intAt ds o')) (200 : Int))))))))) ∧ ari BinOp.add IntKind.i64 (0 : Int) (if ari BinOp.sub IntKind.i64 ((((ByteArray.size q) : Nat) : Int)) (0 : Int) < ari BinOp.add IntKind.i64 (1 : Int) (ari BinOp.rem IntKind.i64 (IntKind.wrap IntKind.i64 (intAt ds o')) (200 : Int)) then ari BinOp.sub IntKind.i64 ((((ByteArray.size q) : Nat) : Int)) (0 : Int) else ari BinOp.add IntKind.i64 (1 : Int) (ari BinOp.rem IntKind.i64 (IntKind.wrap IntKind.i64 (intAt ds o')) (200 : Int))) = ari BinOp.add IntKind.i64 (0 : Int) (if ari BinOp.sub IntKind.i64 ((((ByteArray.size q) : Nat) : Int)) (0 : Int) < ari BinOp.add IntKind.i64 (1 : Int) (ari BinOp.rem IntKind.i64 (IntKind.wrap IntKind.i64 (intAt ds o')) (200 : Int)) then ari BinOp.sub IntKind.i64 ((((ByteArray.size q) : Nat) : Int)) (0 : Int) else ari BinOp.add IntKind.i64 (1 : Int) (ari BinOp.rem IntKind.i64 (IntKind.wrap IntKind.i64 (intAt ds o')) (200 : Int))) ∧ Value.slice none (0 : Nat) (0 : Nat) = Value.slice none (0 : Nat) (0 : Nat) ∧ (2 : Nat) = (2 : Nat) ∧ CallKind.normal = CallKind.normal ∧ TodoOk (ren 2 [(2, 2), (4, 4), (5, 14), (6, 16)]) y6T1 y6T1 ∧ P = P ∧ o = o ∧ n = n ∧ Value.string q = Value.string q ∧ o' = o' ∧ n' = n' ∧ e = e ∧ ty = ty ∧ cs = cs ∧ tz = tz ∧ ds = ds ∧ (3 : TypeId) = (3 : Nat) ∧ #[Value.int IntKind.i64 (↑(ByteArray.size j) : Int), Value.int IntKind.i64 ((((ByteArray.size (adR j (pkQ (Array.map (fun b => Value.int IntKind.u8 (↑(UInt8.toNat b) : Int)) (ByteArray.data (ByteArray.extract q (0 : Nat) (Int.toNat (ari BinOp.add IntKind.i64 (0 : Int) (if ari BinOp.sub IntKind.i64 ((((ByteArray.size q) : Nat) : Int)) (0 : Int) < ari BinOp.add IntKind.i64 (1 : Int) (ari BinOp.rem IntKind.i64 (IntKind.wrap IntKind.i64 (intAt ds o')) (200 : Int)) then ari BinOp.sub IntKind.i64 ((((ByteArray.size q) : Nat) : Int)) (0 : Int) else ari BinOp.add IntKind.i64 (1 : Int) (ari BinOp.rem IntKind.i64 (IntKind.wrap IntKind.i64 (intAt ds o')) (200 : Int)))))))) (0 : Nat) (ByteArray.size (ByteArray.extract q (0 : Nat) (Int.toNat (ari BinOp.add IntKind.i64 (0 : Int) (if ari BinOp.sub IntKind.i64 ((((ByteArray.size q) : Nat) : Int)) (0 : Int) < ari BinOp.add IntKind.i64 (1 : Int) (ari BinOp.rem IntKind.i64 (IntKind.wrap IntKind.i64 (intAt ds o')) (200 : Int)) then ari BinOp.sub IntKind.i64 ((((ByteArray.size q) : Nat) : Int)) (0 : Int) else ari BinOp.add IntKind.i64 (1 : Int) (ari BinOp.rem IntKind.i64 (IntKind.wrap IntKind.i64 (intAt ds o')) (200 : Int)))))))))) : Nat) : Int))] = #[Value.int IntKind.i64 (↑(ByteArray.size j) : Int), Value.int IntKind.i64 ((((ByteArray.size (adR j (pkQ (Array.map (fun b => Value.int IntKind.u8 (↑(UInt8.toNat b) : Int)) (ByteArray.data (ByteArray.extract q (0 : Nat) (Int.toNat (ari BinOp.add IntKind.i64 (0 : Int) (if ari BinOp.sub IntKind.i64 ((((ByteArray.size q) : Nat) : Int)) (0 : Int) < ari BinOp.add IntKind.i64 (1 : Int) (ari BinOp.rem IntKind.i64 (IntKind.wrap IntKind.i64 (intAt ds o')) (200 : Int)) then ari BinOp.sub IntKind.i64 ((((ByteArray.size q) : Nat) : Int)) (0 : Int) else ari BinOp.add IntKind.i64 (1 : Int) (ari BinOp.rem IntKind.i64 (IntKind.wrap IntKind.i64 (intAt ds o')) (200 : Int)))))))) (0 : Nat) (ByteArray.size (ByteArray.extract q (0 : Nat) (Int.toNat (ari BinOp.add IntKind.i64 (0 : Int) (if ari BinOp.sub IntKind.i64 ((((ByteArray.size q) : Nat) : Int)) (0 : Int) < ari BinOp.add IntKind.i64 (1 : Int) (ari BinOp.rem IntKind.i64 (IntKind.wrap IntKind.i64 (intAt ds o')) (200 : Int)) then ari BinOp.sub IntKind.i64 ((((ByteArray.size q) : Nat) : Int)) (0 : Int) else ari BinOp.add IntKind.i64 (1 : Int) (ari BinOp.rem IntKind.i64 (IntKind.wrap IntKind.i64 (intAt ds o')) (200 : Int)))))))))) : Nat) : Int))] ∧ SBlk.ty (scB P o n q) = SBlk.ty (scB P o n q) ∧ P = P ∧ o = o ∧ n = n ∧ Value.string q = Value.string q ∧ SBlk.ty (scB P o n q) = SBlk.ty (scB P o n q) ∧ P = P ∧ o = o ∧ n = n ∧ Value.string q = Value.string q ∧ (3 : TypeId) = (3 : Nat) ∧ #[Value.int IntKind.i64 (0 : Int), Value.int IntKind.i64 (ari BinOp.add IntKind.i64 (0 : Int) (if ari BinOp.sub IntKind.i64 ((((ByteArray.size q) : Nat) : Int)) (0 : Int) < ari BinOp.add IntKind.i64 (1 : Int) (ari BinOp.rem IntKind.i64 (IntKind.wrap IntKind.i64 (intAt ds o')) (200 : Int)) then ari BinOp.sub IntKind.i64 ((((ByteArray.size q) : Nat) : Int)) (0 : Int) else ari BinOp.add IntKind.i64 (1 : Int) (ari BinOp.rem IntKind.i64 (IntKind.wrap IntKind.i64 (intAt ds o')) (200 : Int))))] = #[Value.int IntKind.i64 (0 : Int), Value.int IntKind.i64 (ari BinOp.add IntKind.i64 (0 : Int) (if ari BinOp.sub IntKind.i64 ((((ByteArray.size q) : Nat) : Int)) (0 : Int) < ari BinOp.add IntKind.i64 (1 : Int) (ari BinOp.rem IntKind.i64 (IntKind.wrap IntKind.i64 (intAt ds o')) (200 : Int)) then ari BinOp.sub IntKind.i64 ((((ByteArray.size q) : Nat) : Int)) (0 : Int) else ari BinOp.add IntKind.i64 (1 : Int) (ari BinOp.rem IntKind.i64 (IntKind.wrap IntKind.i64 (intAt ds o')) (200 : Int))))] ∧ True) ∧ (adF j (ByteArray.size (ByteArray.extract q (0 : Nat) (Int.toNat (ari BinOp.add IntKind.i64 (0 : Int) (if ari BinOp.sub IntKind.i64 ((((ByteArray.size q) : Nat) : Int)) (0 : Int) < ari BinOp.add IntKind.i64 (1 : Int) (ari BinOp.rem IntKind.i64 (IntKind.wrap IntKind.i64 (intAt ds o')) (200 : Int)) then ari BinOp.sub IntKind.i64 ((((ByteArray.size q) : Nat) : Int)) (0 : Int) else ari BinOp.add IntKind.i64 (1 : Int) (ari BinOp.rem IntKind.i64 (IntKind.wrap IntKind.i64 (intAt ds o')) (200 : Int))))))) = false → false = true)) ∧ (adOk j (ByteArray.size (ByteArray.extract q (0 : Nat) (Int.toNat (ari BinOp.add IntKind.i64 (0 : Int) (if ari BinOp.sub IntKind.i64 ((((ByteArray.size q) : Nat) : Int)) (0 : Int) < ari BinOp.add IntKind.i64 (1 : Int) (ari BinOp.rem IntKind.i64 (IntKind.wrap IntKind.i64 (intAt ds o')) (200 : Int)) then ari BinOp.sub IntKind.i64 ((((ByteArray.size q) : Nat) : Int)) (0 : Int) else ari BinOp.add IntKind.i64 (1 : Int) (ari BinOp.rem IntKind.i64 (IntKind.wrap IntKind.i64 (intAt ds o')) (200 : Int))))))) (anyB (Array.map (fun b => Value.int IntKind.u8 (↑(UInt8.toNat b) : Int)) (ByteArray.data (ByteArray.extract q (0 : Nat) (Int.toNat (ari BinOp.add IntKind.i64 (0 : Int) (if ari BinOp.sub IntKind.i64 ((((ByteArray.size q) : Nat) : Int)) (0 : Int) < ari BinOp.add IntKind.i64 (1 : Int) (ari BinOp.rem IntKind.i64 (IntKind.wrap IntKind.i64 (intAt ds o')) (200 : Int)) then ari BinOp.sub IntKind.i64 ((((ByteArray.size q) : Nat) : Int)) (0 : Int) else ari BinOp.add IntKind.i64 (1 : Int) (ari BinOp.rem IntKind.i64 (IntKind.wrap IntKind.i64 (intAt ds o')) (200 : Int)))))))) (0 : Nat) (ByteArray.size (ByteArray.extract q (0 : Nat) (Int.toNat (ari BinOp.add IntKind.i64 (0 : Int) (if ari BinOp.sub IntKind.i64 ((((ByteArray.size q) : Nat) : Int)) (0 : Int) < ari BinOp.add IntKind.i64 (1 : Int) (ari BinOp.rem IntKind.i64 (IntKind.wrap IntKind.i64 (intAt ds o')) (200 : Int)) then ari BinOp.sub IntKind.i64 ((((ByteArray.size q) : Nat) : Int)) (0 : Int) else ari BinOp.add IntKind.i64 (1 : Int) (ari BinOp.rem IntKind.i64 (IntKind.wrap IntKind.i64 (intAt ds o')) (200 : Int)))))))) = false → false = true)) ∧ (decide ((0 : Int) < (↑n' : Int)) = false → ((0 : Int) ≤ ari BinOp.add IntKind.i64 (0 : Int) (if ari BinOp.sub IntKind.i64 ((((ByteArray.size q) : Nat) : Int)) (0 : Int) < (200 : Int) then ari BinOp.sub IntKind.i64 ((((ByteArray.size q) : Nat) : Int)) (0 : Int) else (200 : Int)) ∧ (Int.toNat (ari BinOp.add IntKind.i64 (0 : Int) (if ari BinOp.sub IntKind.i64 ((((ByteArray.size q) : Nat) : Int)) (0 : Int) < (200 : Int) then ari BinOp.sub IntKind.i64 ((((ByteArray.size q) : Nat) : Int)) (0 : Int) else (200 : Int))) ≤ (ByteArray.size q)) ∧ (0 : Nat) ≤ Int.toNat (ari BinOp.add IntKind.i64 (0 : Int) (if ari BinOp.sub IntKind.i64 ((((ByteArray.size q) : Nat) : Int)) (0 : Int) < (200 : Int) then ari BinOp.sub IntKind.i64 ((((ByteArray.size q) : Nat) : Int)) (0 : Int) else (200 : Int))) ∧ True) ∧ (ByteArray.size j ≤ (90000 : Nat) ∧ BytR (Array.map (fun b => Value.int IntKind.u8 (↑(UInt8.toNat b) : Int)) (ByteArray.data (ByteArray.extract q (0 : Nat) (Int.toNat (ari BinOp.add IntKind.i64 (0 : Int) (if ari BinOp.sub IntKind.i64 ((((ByteArray.size q) : Nat) : Int)) (0 : Int) < (200 : Int) then ari BinOp.sub IntKind.i64 ((((ByteArray.size q) : Nat) : Int)) (0 : Int) else (200 : Int))))))) (0 : Nat) (ByteArray.size (ByteArray.extract q (0 : Nat) (Int.toNat (ari BinOp.add IntKind.i64 (0 : Int) (if ari BinOp.sub IntKind.i64 ((((ByteArray.size q) : Nat) : Int)) (0 : Int) < (200 : Int) then ari BinOp.sub IntKind.i64 ((((ByteArray.size q) : Nat) : Int)) (0 : Int) else (200 : Int)))))) ∧ True) ∧ (adOk j (ByteArray.size (ByteArray.extract q (0 : Nat) (Int.toNat (ari BinOp.add IntKind.i64 (0 : Int) (if ari BinOp.sub IntKind.i64 ((((ByteArray.size q) : Nat) : Int)) (0 : Int) < (200 : Int) then ari BinOp.sub IntKind.i64 ((((ByteArray.size q) : Nat) : Int)) (0 : Int) else (200 : Int)))))) (anyB (Array.map (fun b => Value.int IntKind.u8 (↑(UInt8.toNat b) : Int)) (ByteArray.data (ByteArray.extract q (0 : Nat) (Int.toNat (ari BinOp.add IntKind.i64 (0 : Int) (if ari BinOp.sub IntKind.i64 ((((ByteArray.size q) : Nat) : Int)) (0 : Int) < (200 : Int) then ari BinOp.sub IntKind.i64 ((((ByteArray.size q) : Nat) : Int)) (0 : Int) else (200 : Int))))))) (0 : Nat) (ByteArray.size (ByteArray.extract q (0 : Nat) (Int.toNat (ari BinOp.add IntKind.i64 (0 : Int) (if ari BinOp.sub IntKind.i64 ((((ByteArray.size q) : Nat) : Int)) (0 : Int) < (200 : Int) then ari BinOp.sub IntKind.i64 ((((ByteArray.size q) : Nat) : Int)) (0 : Int) else (200 : Int))))))) = true → (adF j (ByteArray.size (ByteArray.extract q (0 : Nat) (Int.toNat (ari BinOp.add IntKind.i64 (0 : Int) (if ari BinOp.sub IntKind.i64 ((((ByteArray.size q) : Nat) : Int)) (0 : Int) < (200 : Int) then ari BinOp.sub IntKind.i64 ((((ByteArray.size q) : Nat) : Int)) (0 : Int) else (200 : Int)))))) = true → Q (adR j (pkQ (Array.map (fun b => Value.int IntKind.u8 (↑(UInt8.toNat b) : Int)) (ByteArray.data (ByteArray.extract q (0 : Nat) (Int.toNat (ari BinOp.add IntKind.i64 (0 : Int) (if ari BinOp.sub IntKind.i64 ((((ByteArray.size q) : Nat) : Int)) (0 : Int) < (200 : Int) then ari BinOp.sub IntKind.i64 ((((ByteArray.size q) : Nat) : Int)) (0 : Int) else (200 : Int))))))) (0 : Nat) (ByteArray.size (ByteArray.extract q (0 : Nat) (Int.toNat (ari BinOp.add IntKind.i64 (0 : Int) (if ari BinOp.sub IntKind.i64 ((((ByteArray.size q) : Nat) : Int)) (0 : Int) < (200 : Int) then ari BinOp.sub IntKind.i64 ((((ByteArray.size q) : Nat) : Int)) (0 : Int) else (200 : Int)))))))) (2 : Nat) #[Value.int IntKind.i64 (↑(ByteArray.size j) : Int), Value.int IntKind.i64 ((((ByteArray.size (adR j (pkQ (Array.map (fun b => Value.int IntKind.u8 (↑(UInt8.toNat b) : Int)) (ByteArray.data (ByteArray.extract q (0 : Nat) (Int.toNat (ari BinOp.add IntKind.i64 (0 : Int) (if ari BinOp.sub IntKind.i64 ((((ByteArray.size q) : Nat) : Int)) (0 : Int) < (200 : Int) then ari BinOp.sub IntKind.i64 ((((ByteArray.size q) : Nat) : Int)) (0 : Int) else (200 : Int))))))) (0 : Nat) (ByteArray.size (ByteArray.extract q (0 : Nat) (Int.toNat (ari BinOp.add IntKind.i64 (0 : Int) (if ari BinOp.sub IntKind.i64 ((((ByteArray.size q) : Nat) : Int)) (0 : Int) < (200 : Int) then ari BinOp.sub IntKind.i64 ((((ByteArray.size q) : Nat) : Int)) (0 : Int) else (200 : Int))))))))) : Nat) : Int))] (2 : Nat) #[Value.int IntKind.i64 (0 : Int), Value.int IntKind.i64 (ari BinOp.add IntKind.i64 (0 : Int) (if ari BinOp.sub IntKind.i64 ((((ByteArray.size q) : Nat) : Int)) (0 : Int) < (200 : Int) then ari BinOp.sub IntKind.i64 ((((ByteArray.size q) : Nat) : Int)) (0 : Int) else (200 : Int)))] (ari BinOp.add IntKind.i64 (0 : Int) (if ari BinOp.sub IntKind.i64 ((((ByteArray.size q) : Nat) : Int)) (0 : Int) < (200 : Int) then ari BinOp.sub IntKind.i64 ((((ByteArray.size q) : Nat) : Int)) (0 : Int) else (200 : Int))) (1 : Int) ∧ CallKind.normal = CallKind.normal ∧ TodoOk (ren 2 [(2, 2), (4, 4), (5, 14), (6, 16)]) y6H0 y6H0 ∧ P = P ∧ o = o ∧ n = n ∧ Value.string q = Value.string q ∧ o' = o' ∧ n' = n' ∧ (2 : Nat) = (2 : Nat) ∧ Value.slice none (0 : Nat) (0 : Nat) = Value.slice none (0 : Nat) (0 : Nat) ∧ (1 : Int) = (1 : Int) ∧ Value.string (ByteArray.mk #[]) = Value.string (ByteArray.mk #[]) ∧ Value.string (adR j (pkQ (Array.map (fun b => Value.int IntKind.u8 (↑(UInt8.toNat b) : Int)) (ByteArray.data (ByteArray.extract q (0 : Nat) (Int.toNat (ari BinOp.add IntKind.i64 (0 : Int) (if ari BinOp.sub IntKind.i64 ((((ByteArray.size q) : Nat) : Int)) (0 : Int) < (200 : Int) then ari BinOp.sub IntKind.i64 ((((ByteArray.size q) : Nat) : Int)) (0 : Int) else (200 : Int))))))) (0 : Nat) (ByteArray.size (ByteArray.extract q (0 : Nat) (Int.toNat (ari BinOp.add IntKind.i64 (0 : Int) (if ari BinOp.sub IntKind.i64 ((((ByteArray.size q) : Nat) : Int)) (0 : Int) < (200 : Int) then ari BinOp.sub IntKind.i64 ((((ByteArray.size q) : Nat) : Int)) (0 : Int) else (200 : Int)))))))) = Value.string (adR j (pkQ (Array.map (fun b => Value.int IntKind.u8 (↑(UInt8.toNat b) : Int)) (ByteArray.data (ByteArray.extract q (0 : Nat) (Int.toNat (ari BinOp.add IntKind.i64 (0 : Int) (if ari BinOp.sub IntKind.i64 ((((ByteArray.size q) : Nat) : Int)) (0 : Int) < (200 : Int) then ari BinOp.sub IntKind.i64 ((((ByteArray.size q) : Nat) : Int)) (0 : Int) else (200 : Int))))))) (0 : Nat) (ByteArray.size (ByteArray.extract q (0 : Nat) (Int.toNat (ari BinOp.add IntKind.i64 (0 : Int) (if ari BinOp.sub IntKind.i64 ((((ByteArray.size q) : Nat) : Int)) (0 : Int) < (200 : Int) then ari BinOp.sub IntKind.i64 ((((ByteArray.size q) : Nat) : Int)) (0 : Int) else (200 : Int)))))))) ∧ ari BinOp.add IntKind.i64 (0 : Int) (if ari BinOp.sub IntKind.i64 ((((ByteArray.size q) : Nat) : Int)) (0 : Int) < (200 : Int) then ari BinOp.sub IntKind.i64 ((((ByteArray.size q) : Nat) : Int)) (0 : Int) else (200 : Int)) = ari BinOp.add IntKind.i64 (0 : Int) (if ari BinOp.sub IntKind.i64 ((((ByteArray.size q) : Nat) : Int)) (0 : Int) < (200 : Int) then ari BinOp.sub IntKind.i64 ((((ByteArray.size q) : Nat) : Int)) (0 : Int) else (200 : Int)) ∧ Value.slice none (0 : Nat) (0 : Nat) = Value.slice none (0 : Nat) (0 : Nat) ∧ (2 : Nat) = (2 : Nat) ∧ CallKind.normal = CallKind.normal ∧ TodoOk (ren 2 [(2, 2), (4, 4), (5, 14), (6, 16)]) y6T1 y6T1 ∧ P = P ∧ o = o ∧ n = n ∧ Value.string q = Value.string q ∧ o' = o' ∧ n' = n' ∧ e = e ∧ ty = ty ∧ cs = cs ∧ tz = tz ∧ ds = ds ∧ (3 : TypeId) = (3 : Nat) ∧ #[Value.int IntKind.i64 (↑(ByteArray.size j) : Int), Value.int IntKind.i64 ((((ByteArray.size (adR j (pkQ (Array.map (fun b => Value.int IntKind.u8 (↑(UInt8.toNat b) : Int)) (ByteArray.data (ByteArray.extract q (0 : Nat) (Int.toNat (ari BinOp.add IntKind.i64 (0 : Int) (if ari BinOp.sub IntKind.i64 ((((ByteArray.size q) : Nat) : Int)) (0 : Int) < (200 : Int) then ari BinOp.sub IntKind.i64 ((((ByteArray.size q) : Nat) : Int)) (0 : Int) else (200 : Int))))))) (0 : Nat) (ByteArray.size (ByteArray.extract q (0 : Nat) (Int.toNat (ari BinOp.add IntKind.i64 (0 : Int) (if ari BinOp.sub IntKind.i64 ((((ByteArray.size q) : Nat) : Int)) (0 : Int) < (200 : Int) then ari BinOp.sub IntKind.i64 ((((ByteArray.size q) : Nat) : Int)) (0 : Int) else (200 : Int))))))))) : Nat) : Int))] = #[Value.int IntKind.i64 (↑(ByteArray.size j) : Int), Value.int IntKind.i64 ((((ByteArray.size (adR j (pkQ (Array.map (fun b => Value.int IntKind.u8 (↑(UInt8.toNat b) : Int)) (ByteArray.data (ByteArray.extract q (0 : Nat) (Int.toNat (ari BinOp.add IntKind.i64 (0 : Int) (if ari BinOp.sub IntKind.i64 ((((ByteArray.size q) : Nat) : Int)) (0 : Int) < (200 : Int) then ari BinOp.sub IntKind.i64 ((((ByteArray.size q) : Nat) : Int)) (0 : Int) else (200 : Int))))))) (0 : Nat) (ByteArray.size (ByteArray.extract q (0 : Nat) (Int.toNat (ari BinOp.add IntKind.i64 (0 : Int) (if ari BinOp.sub IntKind.i64 ((((ByteArray.size q) : Nat) : Int)) (0 : Int) < (200 : Int) then ari BinOp.sub IntKind.i64 ((((ByteArray.size q) : Nat) : Int)) (0 : Int) else (200 : Int))))))))) : Nat) : Int))] ∧ SBlk.ty (scB P o n q) = SBlk.ty (scB P o n q) ∧ P = P ∧ o = o ∧ n = n ∧ Value.string q = Value.string q ∧ SBlk.ty (scB P o n q) = SBlk.ty (scB P o n q) ∧ P = P ∧ o = o ∧ n = n ∧ Value.string q = Value.string q ∧ (3 : TypeId) = (3 : Nat) ∧ #[Value.int IntKind.i64 (0 : Int), Value.int IntKind.i64 (ari BinOp.add IntKind.i64 (0 : Int) (if ari BinOp.sub IntKind.i64 ((((ByteArray.size q) : Nat) : Int)) (0 : Int) < (200 : Int) then ari BinOp.sub IntKind.i64 ((((ByteArray.size q) : Nat) : Int)) (0 : Int) else (200 : Int)))] = #[Value.int IntKind.i64 (0 : Int), Value.int IntKind.i64 (ari BinOp.add IntKind.i64 (0 : Int) (if ari BinOp.sub IntKind.i64 ((((ByteArray.size q) : Nat) : Int)) (0 : Int) < (200 : Int) then ari BinOp.sub IntKind.i64 ((((ByteArray.size q) : Nat) : Int)) (0 : Int) else (200 : Int)))] ∧ True) ∧ (adF j (ByteArray.size (ByteArray.extract q (0 : Nat) (Int.toNat (ari BinOp.add IntKind.i64 (0 : Int) (if ari BinOp.sub IntKind.i64 ((((ByteArray.size q) : Nat) : Int)) (0 : Int) < (200 : Int) then ari BinOp.sub IntKind.i64 ((((ByteArray.size q) : Nat) : Int)) (0 : Int) else (200 : Int)))))) = false → false = true)) ∧ (adOk j (ByteArray.size (ByteArray.extract q (0 : Nat) (Int.toNat (ari BinOp.add IntKind.i64 (0 : Int) (if ari BinOp.sub IntKind.i64 ((((ByteArray.size q) : Nat) : Int)) (0 : Int) < (200 : Int) then ari BinOp.sub IntKind.i64 ((((ByteArray.size q) : Nat) : Int)) (0 : Int) else (200 : Int)))))) (anyB (Array.map (fun b => Value.int IntKind.u8 (↑(UInt8.toNat b) : Int)) (ByteArray.data (ByteArray.extract q (0 : Nat) (Int.toNat (ari BinOp.add IntKind.i64 (0 : Int) (if ari BinOp.sub IntKind.i64 ((((ByteArray.size q) : Nat) : Int)) (0 : Int) < (200 : Int) then ari BinOp.sub IntKind.i64 ((((ByteArray.size q) : Nat) : Int)) (0 : Int) else (200 : Int))))))) (0 : Nat) (ByteArray.size (ByteArray.extract q (0 : Nat) (Int.toNat (ari BinOp.add IntKind.i64 (0 : Int) (if ari BinOp.sub IntKind.i64 ((((ByteArray.size q) : Nat) : Int)) (0 : Int) < (200 : Int) then ari BinOp.sub IntKind.i64 ((((ByteArray.size q) : Nat) : Int)) (0 : Int) else (200 : Int))))))) = false → false = true))) := by kernel_rfl
theorem y6_step_t (P : Int) (o n : Nat) (q : ByteArray) (o' n' : Nat) (e : Int) (cs ds : Array Value) (ty tz : TypeId) (j : ByteArray) (k k' : Nat) (at' i : Int) (es ts : Array Value) (Q : ByteArray → Nat → Array Value → Nat → Array Value → Int → Int → Prop) : (y6S1 true P o n q o' n' e cs ds ty tz j k k' at' i es ts).vcT (boolR true) (y6N1 true P o n q o' n' e cs ds ty tz Q) =
    (decide (at' < (((ByteArray.size q) : Nat) : Int)) = true ∧ (decide (i < (↑n' : Int)) = true → (((0 : Int) ≤ i ∧ i < (↑n' : Int)) ∧ True) ∧ (IsInt IntKind.u8 ds (o' + Int.toNat i * 1) ∧ True) ∧ ((0 : Int) ≤ ari BinOp.add IntKind.i64 at' (if ari BinOp.sub IntKind.i64 ((((ByteArray.size q) : Nat) : Int)) at' < ari BinOp.add IntKind.i64 (1 : Int) (ari BinOp.rem IntKind.i64 (IntKind.wrap IntKind.i64 (intAt ds (o' + Int.toNat i * 1))) (200 : Int)) then ari BinOp.sub IntKind.i64 ((((ByteArray.size q) : Nat) : Int)) at' else ari BinOp.add IntKind.i64 (1 : Int) (ari BinOp.rem IntKind.i64 (IntKind.wrap IntKind.i64 (intAt ds (o' + Int.toNat i * 1))) (200 : Int))) ∧ (Int.toNat (ari BinOp.add IntKind.i64 at' (if ari BinOp.sub IntKind.i64 ((((ByteArray.size q) : Nat) : Int)) at' < ari BinOp.add IntKind.i64 (1 : Int) (ari BinOp.rem IntKind.i64 (IntKind.wrap IntKind.i64 (intAt ds (o' + Int.toNat i * 1))) (200 : Int)) then ari BinOp.sub IntKind.i64 ((((ByteArray.size q) : Nat) : Int)) at' else ari BinOp.add IntKind.i64 (1 : Int) (ari BinOp.rem IntKind.i64 (IntKind.wrap IntKind.i64 (intAt ds (o' + Int.toNat i * 1))) (200 : Int)))) ≤ (ByteArray.size q)) ∧ (0 : Int) ≤ at' ∧ Int.toNat at' ≤ Int.toNat (ari BinOp.add IntKind.i64 at' (if ari BinOp.sub IntKind.i64 ((((ByteArray.size q) : Nat) : Int)) at' < ari BinOp.add IntKind.i64 (1 : Int) (ari BinOp.rem IntKind.i64 (IntKind.wrap IntKind.i64 (intAt ds (o' + Int.toNat i * 1))) (200 : Int)) then ari BinOp.sub IntKind.i64 ((((ByteArray.size q) : Nat) : Int)) at' else ari BinOp.add IntKind.i64 (1 : Int) (ari BinOp.rem IntKind.i64 (IntKind.wrap IntKind.i64 (intAt ds (o' + Int.toNat i * 1))) (200 : Int)))) ∧ True) ∧ (ByteArray.size j ≤ (90000 : Nat) ∧ BytR (Array.map (fun b => Value.int IntKind.u8 (↑(UInt8.toNat b) : Int)) (ByteArray.data (ByteArray.extract q (Int.toNat at') (Int.toNat (ari BinOp.add IntKind.i64 at' (if ari BinOp.sub IntKind.i64 ((((ByteArray.size q) : Nat) : Int)) at' < ari BinOp.add IntKind.i64 (1 : Int) (ari BinOp.rem IntKind.i64 (IntKind.wrap IntKind.i64 (intAt ds (o' + Int.toNat i * 1))) (200 : Int)) then ari BinOp.sub IntKind.i64 ((((ByteArray.size q) : Nat) : Int)) at' else ari BinOp.add IntKind.i64 (1 : Int) (ari BinOp.rem IntKind.i64 (IntKind.wrap IntKind.i64 (intAt ds (o' + Int.toNat i * 1))) (200 : Int)))))))) (0 : Nat) (ByteArray.size (ByteArray.extract q (Int.toNat at') (Int.toNat (ari BinOp.add IntKind.i64 at' (if ari BinOp.sub IntKind.i64 ((((ByteArray.size q) : Nat) : Int)) at' < ari BinOp.add IntKind.i64 (1 : Int) (ari BinOp.rem IntKind.i64 (IntKind.wrap IntKind.i64 (intAt ds (o' + Int.toNat i * 1))) (200 : Int)) then ari BinOp.sub IntKind.i64 ((((ByteArray.size q) : Nat) : Int)) at' else ari BinOp.add IntKind.i64 (1 : Int) (ari BinOp.rem IntKind.i64 (IntKind.wrap IntKind.i64 (intAt ds (o' + Int.toNat i * 1))) (200 : Int))))))) ∧ True) ∧ (adOk j (ByteArray.size (ByteArray.extract q (Int.toNat at') (Int.toNat (ari BinOp.add IntKind.i64 at' (if ari BinOp.sub IntKind.i64 ((((ByteArray.size q) : Nat) : Int)) at' < ari BinOp.add IntKind.i64 (1 : Int) (ari BinOp.rem IntKind.i64 (IntKind.wrap IntKind.i64 (intAt ds (o' + Int.toNat i * 1))) (200 : Int)) then ari BinOp.sub IntKind.i64 ((((ByteArray.size q) : Nat) : Int)) at' else ari BinOp.add IntKind.i64 (1 : Int) (ari BinOp.rem IntKind.i64 (IntKind.wrap IntKind.i64 (intAt ds (o' + Int.toNat i * 1))) (200 : Int))))))) (anyB (Array.map (fun b => Value.int IntKind.u8 (↑(UInt8.toNat b) : Int)) (ByteArray.data (ByteArray.extract q (Int.toNat at') (Int.toNat (ari BinOp.add IntKind.i64 at' (if ari BinOp.sub IntKind.i64 ((((ByteArray.size q) : Nat) : Int)) at' < ari BinOp.add IntKind.i64 (1 : Int) (ari BinOp.rem IntKind.i64 (IntKind.wrap IntKind.i64 (intAt ds (o' + Int.toNat i * 1))) (200 : Int)) then ari BinOp.sub IntKind.i64 ((((ByteArray.size q) : Nat) : Int)) at' else ari BinOp.add IntKind.i64 (1 : Int) (ari BinOp.rem IntKind.i64 (IntKind.wrap IntKind.i64 (intAt ds (o' + Int.toNat i * 1))) (200 : Int)))))))) (0 : Nat) (ByteArray.size (ByteArray.extract q (Int.toNat at') (Int.toNat (ari BinOp.add IntKind.i64 at' (if ari BinOp.sub IntKind.i64 ((((ByteArray.size q) : Nat) : Int)) at' < ari BinOp.add IntKind.i64 (1 : Int) (ari BinOp.rem IntKind.i64 (IntKind.wrap IntKind.i64 (intAt ds (o' + Int.toNat i * 1))) (200 : Int)) then ari BinOp.sub IntKind.i64 ((((ByteArray.size q) : Nat) : Int)) at' else ari BinOp.add IntKind.i64 (1 : Int) (ari BinOp.rem IntKind.i64 (IntKind.wrap IntKind.i64 (intAt ds (o' + Int.toNat i * 1))) (200 : Int)))))))) = true → (adF j (ByteArray.size (ByteArray.extract q (Int.toNat at') (Int.toNat (ari BinOp.add IntKind.i64 at' (if ari BinOp.sub IntKind.i64 ((((ByteArray.size q) : Nat) : Int)) at' < ari BinOp.add IntKind.i64 (1 : Int) (ari BinOp.rem IntKind.i64 (IntKind.wrap IntKind.i64 (intAt ds (o' + Int.toNat i * 1))) (200 : Int)) then ari BinOp.sub IntKind.i64 ((((ByteArray.size q) : Nat) : Int)) at' else ari BinOp.add IntKind.i64 (1 : Int) (ari BinOp.rem IntKind.i64 (IntKind.wrap IntKind.i64 (intAt ds (o' + Int.toNat i * 1))) (200 : Int))))))) = true → (((k + 1) * 8 ≤ (140737488355328 : Nat) ∧ k + 1 ≤ (140737488355328 : Nat)) ∧ k * 1 = Array.size es ∧ True) ∧ (((k' + 1) * 8 ≤ (140737488355328 : Nat) ∧ k' + 1 ≤ (140737488355328 : Nat)) ∧ k' * 1 = Array.size ts ∧ True) ∧ Q (adR j (pkQ (Array.map (fun b => Value.int IntKind.u8 (↑(UInt8.toNat b) : Int)) (ByteArray.data (ByteArray.extract q (Int.toNat at') (Int.toNat (ari BinOp.add IntKind.i64 at' (if ari BinOp.sub IntKind.i64 ((((ByteArray.size q) : Nat) : Int)) at' < ari BinOp.add IntKind.i64 (1 : Int) (ari BinOp.rem IntKind.i64 (IntKind.wrap IntKind.i64 (intAt ds (o' + Int.toNat i * 1))) (200 : Int)) then ari BinOp.sub IntKind.i64 ((((ByteArray.size q) : Nat) : Int)) at' else ari BinOp.add IntKind.i64 (1 : Int) (ari BinOp.rem IntKind.i64 (IntKind.wrap IntKind.i64 (intAt ds (o' + Int.toNat i * 1))) (200 : Int)))))))) (0 : Nat) (ByteArray.size (ByteArray.extract q (Int.toNat at') (Int.toNat (ari BinOp.add IntKind.i64 at' (if ari BinOp.sub IntKind.i64 ((((ByteArray.size q) : Nat) : Int)) at' < ari BinOp.add IntKind.i64 (1 : Int) (ari BinOp.rem IntKind.i64 (IntKind.wrap IntKind.i64 (intAt ds (o' + Int.toNat i * 1))) (200 : Int)) then ari BinOp.sub IntKind.i64 ((((ByteArray.size q) : Nat) : Int)) at' else ari BinOp.add IntKind.i64 (1 : Int) (ari BinOp.rem IntKind.i64 (IntKind.wrap IntKind.i64 (intAt ds (o' + Int.toNat i * 1))) (200 : Int))))))))) (k + 1) (es ++ #[Value.int IntKind.i64 ((((ByteArray.size (adR j (pkQ (Array.map (fun b => Value.int IntKind.u8 (↑(UInt8.toNat b) : Int)) (ByteArray.data (ByteArray.extract q (Int.toNat at') (Int.toNat (ari BinOp.add IntKind.i64 at' (if ari BinOp.sub IntKind.i64 ((((ByteArray.size q) : Nat) : Int)) at' < ari BinOp.add IntKind.i64 (1 : Int) (ari BinOp.rem IntKind.i64 (IntKind.wrap IntKind.i64 (intAt ds (o' + Int.toNat i * 1))) (200 : Int)) then ari BinOp.sub IntKind.i64 ((((ByteArray.size q) : Nat) : Int)) at' else ari BinOp.add IntKind.i64 (1 : Int) (ari BinOp.rem IntKind.i64 (IntKind.wrap IntKind.i64 (intAt ds (o' + Int.toNat i * 1))) (200 : Int)))))))) (0 : Nat) (ByteArray.size (ByteArray.extract q (Int.toNat at') (Int.toNat (ari BinOp.add IntKind.i64 at' (if ari BinOp.sub IntKind.i64 ((((ByteArray.size q) : Nat) : Int)) at' < ari BinOp.add IntKind.i64 (1 : Int) (ari BinOp.rem IntKind.i64 (IntKind.wrap IntKind.i64 (intAt ds (o' + Int.toNat i * 1))) (200 : Int)) then ari BinOp.sub IntKind.i64 ((((ByteArray.size q) : Nat) : Int)) at' else ari BinOp.add IntKind.i64 (1 : Int) (ari BinOp.rem IntKind.i64 (IntKind.wrap IntKind.i64 (intAt ds (o' + Int.toNat i * 1))) (200 : Int)))))))))) : Nat) : Int))]) (k' + 1) (ts ++ #[Value.int IntKind.i64 (ari BinOp.add IntKind.i64 at' (if ari BinOp.sub IntKind.i64 ((((ByteArray.size q) : Nat) : Int)) at' < ari BinOp.add IntKind.i64 (1 : Int) (ari BinOp.rem IntKind.i64 (IntKind.wrap IntKind.i64 (intAt ds (o' + Int.toNat i * 1))) (200 : Int)) then ari BinOp.sub IntKind.i64 ((((ByteArray.size q) : Nat) : Int)) at' else ari BinOp.add IntKind.i64 (1 : Int) (ari BinOp.rem IntKind.i64 (IntKind.wrap IntKind.i64 (intAt ds (o' + Int.toNat i * 1))) (200 : Int))))]) (ari BinOp.add IntKind.i64 at' (if ari BinOp.sub IntKind.i64 ((((ByteArray.size q) : Nat) : Int)) at' < ari BinOp.add IntKind.i64 (1 : Int) (ari BinOp.rem IntKind.i64 (IntKind.wrap IntKind.i64 (intAt ds (o' + Int.toNat i * 1))) (200 : Int)) then ari BinOp.sub IntKind.i64 ((((ByteArray.size q) : Nat) : Int)) at' else ari BinOp.add IntKind.i64 (1 : Int) (ari BinOp.rem IntKind.i64 (IntKind.wrap IntKind.i64 (intAt ds (o' + Int.toNat i * 1))) (200 : Int)))) (ari BinOp.add IntKind.i64 i (1 : Int)) ∧ CallKind.normal = CallKind.normal ∧ TodoOk (ren 2 [(2, 2), (4, 4), (5, 9), (6, 11)]) y6H0 y6H0 ∧ P = P ∧ o = o ∧ n = n ∧ Value.string q = Value.string q ∧ o' = o' ∧ n' = n' ∧ k' + 1 = k' + 1 ∧ Value.slice none (0 : Nat) (0 : Nat) = Value.slice none (0 : Nat) (0 : Nat) ∧ ari BinOp.add IntKind.i64 i (1 : Int) = ari BinOp.add IntKind.i64 i (1 : Int) ∧ Value.string (ByteArray.mk #[]) = Value.string (ByteArray.mk #[]) ∧ Value.string (adR j (pkQ (Array.map (fun b => Value.int IntKind.u8 (↑(UInt8.toNat b) : Int)) (ByteArray.data (ByteArray.extract q (Int.toNat at') (Int.toNat (ari BinOp.add IntKind.i64 at' (if ari BinOp.sub IntKind.i64 ((((ByteArray.size q) : Nat) : Int)) at' < ari BinOp.add IntKind.i64 (1 : Int) (ari BinOp.rem IntKind.i64 (IntKind.wrap IntKind.i64 (intAt ds (o' + Int.toNat i * 1))) (200 : Int)) then ari BinOp.sub IntKind.i64 ((((ByteArray.size q) : Nat) : Int)) at' else ari BinOp.add IntKind.i64 (1 : Int) (ari BinOp.rem IntKind.i64 (IntKind.wrap IntKind.i64 (intAt ds (o' + Int.toNat i * 1))) (200 : Int)))))))) (0 : Nat) (ByteArray.size (ByteArray.extract q (Int.toNat at') (Int.toNat (ari BinOp.add IntKind.i64 at' (if ari BinOp.sub IntKind.i64 ((((ByteArray.size q) : Nat) : Int)) at' < ari BinOp.add IntKind.i64 (1 : Int) (ari BinOp.rem IntKind.i64 (IntKind.wrap IntKind.i64 (intAt ds (o' + Int.toNat i * 1))) (200 : Int)) then ari BinOp.sub IntKind.i64 ((((ByteArray.size q) : Nat) : Int)) at' else ari BinOp.add IntKind.i64 (1 : Int) (ari BinOp.rem IntKind.i64 (IntKind.wrap IntKind.i64 (intAt ds (o' + Int.toNat i * 1))) (200 : Int))))))))) = Value.string (adR j (pkQ (Array.map (fun b => Value.int IntKind.u8 (↑(UInt8.toNat b) : Int)) (ByteArray.data (ByteArray.extract q (Int.toNat at') (Int.toNat (ari BinOp.add IntKind.i64 at' (if ari BinOp.sub IntKind.i64 ((((ByteArray.size q) : Nat) : Int)) at' < ari BinOp.add IntKind.i64 (1 : Int) (ari BinOp.rem IntKind.i64 (IntKind.wrap IntKind.i64 (intAt ds (o' + Int.toNat i * 1))) (200 : Int)) then ari BinOp.sub IntKind.i64 ((((ByteArray.size q) : Nat) : Int)) at' else ari BinOp.add IntKind.i64 (1 : Int) (ari BinOp.rem IntKind.i64 (IntKind.wrap IntKind.i64 (intAt ds (o' + Int.toNat i * 1))) (200 : Int)))))))) (0 : Nat) (ByteArray.size (ByteArray.extract q (Int.toNat at') (Int.toNat (ari BinOp.add IntKind.i64 at' (if ari BinOp.sub IntKind.i64 ((((ByteArray.size q) : Nat) : Int)) at' < ari BinOp.add IntKind.i64 (1 : Int) (ari BinOp.rem IntKind.i64 (IntKind.wrap IntKind.i64 (intAt ds (o' + Int.toNat i * 1))) (200 : Int)) then ari BinOp.sub IntKind.i64 ((((ByteArray.size q) : Nat) : Int)) at' else ari BinOp.add IntKind.i64 (1 : Int) (ari BinOp.rem IntKind.i64 (IntKind.wrap IntKind.i64 (intAt ds (o' + Int.toNat i * 1))) (200 : Int))))))))) ∧ ari BinOp.add IntKind.i64 at' (if ari BinOp.sub IntKind.i64 ((((ByteArray.size q) : Nat) : Int)) at' < ari BinOp.add IntKind.i64 (1 : Int) (ari BinOp.rem IntKind.i64 (IntKind.wrap IntKind.i64 (intAt ds (o' + Int.toNat i * 1))) (200 : Int)) then ari BinOp.sub IntKind.i64 ((((ByteArray.size q) : Nat) : Int)) at' else ari BinOp.add IntKind.i64 (1 : Int) (ari BinOp.rem IntKind.i64 (IntKind.wrap IntKind.i64 (intAt ds (o' + Int.toNat i * 1))) (200 : Int))) = ari BinOp.add IntKind.i64 at' (if ari BinOp.sub IntKind.i64 ((((ByteArray.size q) : Nat) : Int)) at' < ari BinOp.add IntKind.i64 (1 : Int) (ari BinOp.rem IntKind.i64 (IntKind.wrap IntKind.i64 (intAt ds (o' + Int.toNat i * 1))) (200 : Int)) then ari BinOp.sub IntKind.i64 ((((ByteArray.size q) : Nat) : Int)) at' else ari BinOp.add IntKind.i64 (1 : Int) (ari BinOp.rem IntKind.i64 (IntKind.wrap IntKind.i64 (intAt ds (o' + Int.toNat i * 1))) (200 : Int))) ∧ Value.slice none (0 : Nat) (0 : Nat) = Value.slice none (0 : Nat) (0 : Nat) ∧ k + 1 = k + 1 ∧ CallKind.normal = CallKind.normal ∧ TodoOk (ren 2 [(2, 2), (4, 4), (5, 9), (6, 11)]) y6T1 y6T1 ∧ P = P ∧ o = o ∧ n = n ∧ Value.string q = Value.string q ∧ o' = o' ∧ n' = n' ∧ e = e ∧ ty = ty ∧ cs = cs ∧ tz = tz ∧ ds = ds ∧ (3 : TypeId) = (3 : Nat) ∧ es ++ #[Value.int IntKind.i64 ((((ByteArray.size (adR j (pkQ (Array.map (fun b => Value.int IntKind.u8 (↑(UInt8.toNat b) : Int)) (ByteArray.data (ByteArray.extract q (Int.toNat at') (Int.toNat (ari BinOp.add IntKind.i64 at' (if ari BinOp.sub IntKind.i64 ((((ByteArray.size q) : Nat) : Int)) at' < ari BinOp.add IntKind.i64 (1 : Int) (ari BinOp.rem IntKind.i64 (IntKind.wrap IntKind.i64 (intAt ds (o' + Int.toNat i * 1))) (200 : Int)) then ari BinOp.sub IntKind.i64 ((((ByteArray.size q) : Nat) : Int)) at' else ari BinOp.add IntKind.i64 (1 : Int) (ari BinOp.rem IntKind.i64 (IntKind.wrap IntKind.i64 (intAt ds (o' + Int.toNat i * 1))) (200 : Int)))))))) (0 : Nat) (ByteArray.size (ByteArray.extract q (Int.toNat at') (Int.toNat (ari BinOp.add IntKind.i64 at' (if ari BinOp.sub IntKind.i64 ((((ByteArray.size q) : Nat) : Int)) at' < ari BinOp.add IntKind.i64 (1 : Int) (ari BinOp.rem IntKind.i64 (IntKind.wrap IntKind.i64 (intAt ds (o' + Int.toNat i * 1))) (200 : Int)) then ari BinOp.sub IntKind.i64 ((((ByteArray.size q) : Nat) : Int)) at' else ari BinOp.add IntKind.i64 (1 : Int) (ari BinOp.rem IntKind.i64 (IntKind.wrap IntKind.i64 (intAt ds (o' + Int.toNat i * 1))) (200 : Int)))))))))) : Nat) : Int))] = es ++ #[Value.int IntKind.i64 ((((ByteArray.size (adR j (pkQ (Array.map (fun b => Value.int IntKind.u8 (↑(UInt8.toNat b) : Int)) (ByteArray.data (ByteArray.extract q (Int.toNat at') (Int.toNat (ari BinOp.add IntKind.i64 at' (if ari BinOp.sub IntKind.i64 ((((ByteArray.size q) : Nat) : Int)) at' < ari BinOp.add IntKind.i64 (1 : Int) (ari BinOp.rem IntKind.i64 (IntKind.wrap IntKind.i64 (intAt ds (o' + Int.toNat i * 1))) (200 : Int)) then ari BinOp.sub IntKind.i64 ((((ByteArray.size q) : Nat) : Int)) at' else ari BinOp.add IntKind.i64 (1 : Int) (ari BinOp.rem IntKind.i64 (IntKind.wrap IntKind.i64 (intAt ds (o' + Int.toNat i * 1))) (200 : Int)))))))) (0 : Nat) (ByteArray.size (ByteArray.extract q (Int.toNat at') (Int.toNat (ari BinOp.add IntKind.i64 at' (if ari BinOp.sub IntKind.i64 ((((ByteArray.size q) : Nat) : Int)) at' < ari BinOp.add IntKind.i64 (1 : Int) (ari BinOp.rem IntKind.i64 (IntKind.wrap IntKind.i64 (intAt ds (o' + Int.toNat i * 1))) (200 : Int)) then ari BinOp.sub IntKind.i64 ((((ByteArray.size q) : Nat) : Int)) at' else ari BinOp.add IntKind.i64 (1 : Int) (ari BinOp.rem IntKind.i64 (IntKind.wrap IntKind.i64 (intAt ds (o' + Int.toNat i * 1))) (200 : Int)))))))))) : Nat) : Int))] ∧ SBlk.ty (scB P o n q) = SBlk.ty (scB P o n q) ∧ P = P ∧ o = o ∧ n = n ∧ Value.string q = Value.string q ∧ SBlk.ty (scB P o n q) = SBlk.ty (scB P o n q) ∧ P = P ∧ o = o ∧ n = n ∧ Value.string q = Value.string q ∧ (3 : TypeId) = (3 : Nat) ∧ ts ++ #[Value.int IntKind.i64 (ari BinOp.add IntKind.i64 at' (if ari BinOp.sub IntKind.i64 ((((ByteArray.size q) : Nat) : Int)) at' < ari BinOp.add IntKind.i64 (1 : Int) (ari BinOp.rem IntKind.i64 (IntKind.wrap IntKind.i64 (intAt ds (o' + Int.toNat i * 1))) (200 : Int)) then ari BinOp.sub IntKind.i64 ((((ByteArray.size q) : Nat) : Int)) at' else ari BinOp.add IntKind.i64 (1 : Int) (ari BinOp.rem IntKind.i64 (IntKind.wrap IntKind.i64 (intAt ds (o' + Int.toNat i * 1))) (200 : Int))))] = ts ++ #[Value.int IntKind.i64 (ari BinOp.add IntKind.i64 at' (if ari BinOp.sub IntKind.i64 ((((ByteArray.size q) : Nat) : Int)) at' < ari BinOp.add IntKind.i64 (1 : Int) (ari BinOp.rem IntKind.i64 (IntKind.wrap IntKind.i64 (intAt ds (o' + Int.toNat i * 1))) (200 : Int)) then ari BinOp.sub IntKind.i64 ((((ByteArray.size q) : Nat) : Int)) at' else ari BinOp.add IntKind.i64 (1 : Int) (ari BinOp.rem IntKind.i64 (IntKind.wrap IntKind.i64 (intAt ds (o' + Int.toNat i * 1))) (200 : Int))))] ∧ True) ∧ (adF j (ByteArray.size (ByteArray.extract q (Int.toNat at') (Int.toNat (ari BinOp.add IntKind.i64 at' (if ari BinOp.sub IntKind.i64 ((((ByteArray.size q) : Nat) : Int)) at' < ari BinOp.add IntKind.i64 (1 : Int) (ari BinOp.rem IntKind.i64 (IntKind.wrap IntKind.i64 (intAt ds (o' + Int.toNat i * 1))) (200 : Int)) then ari BinOp.sub IntKind.i64 ((((ByteArray.size q) : Nat) : Int)) at' else ari BinOp.add IntKind.i64 (1 : Int) (ari BinOp.rem IntKind.i64 (IntKind.wrap IntKind.i64 (intAt ds (o' + Int.toNat i * 1))) (200 : Int))))))) = false → false = true)) ∧ (adOk j (ByteArray.size (ByteArray.extract q (Int.toNat at') (Int.toNat (ari BinOp.add IntKind.i64 at' (if ari BinOp.sub IntKind.i64 ((((ByteArray.size q) : Nat) : Int)) at' < ari BinOp.add IntKind.i64 (1 : Int) (ari BinOp.rem IntKind.i64 (IntKind.wrap IntKind.i64 (intAt ds (o' + Int.toNat i * 1))) (200 : Int)) then ari BinOp.sub IntKind.i64 ((((ByteArray.size q) : Nat) : Int)) at' else ari BinOp.add IntKind.i64 (1 : Int) (ari BinOp.rem IntKind.i64 (IntKind.wrap IntKind.i64 (intAt ds (o' + Int.toNat i * 1))) (200 : Int))))))) (anyB (Array.map (fun b => Value.int IntKind.u8 (↑(UInt8.toNat b) : Int)) (ByteArray.data (ByteArray.extract q (Int.toNat at') (Int.toNat (ari BinOp.add IntKind.i64 at' (if ari BinOp.sub IntKind.i64 ((((ByteArray.size q) : Nat) : Int)) at' < ari BinOp.add IntKind.i64 (1 : Int) (ari BinOp.rem IntKind.i64 (IntKind.wrap IntKind.i64 (intAt ds (o' + Int.toNat i * 1))) (200 : Int)) then ari BinOp.sub IntKind.i64 ((((ByteArray.size q) : Nat) : Int)) at' else ari BinOp.add IntKind.i64 (1 : Int) (ari BinOp.rem IntKind.i64 (IntKind.wrap IntKind.i64 (intAt ds (o' + Int.toNat i * 1))) (200 : Int)))))))) (0 : Nat) (ByteArray.size (ByteArray.extract q (Int.toNat at') (Int.toNat (ari BinOp.add IntKind.i64 at' (if ari BinOp.sub IntKind.i64 ((((ByteArray.size q) : Nat) : Int)) at' < ari BinOp.add IntKind.i64 (1 : Int) (ari BinOp.rem IntKind.i64 (IntKind.wrap IntKind.i64 (intAt ds (o' + Int.toNat i * 1))) (200 : Int)) then ari BinOp.sub IntKind.i64 ((((ByteArray.size q) : Nat) : Int)) at' else ari BinOp.add IntKind.i64 (1 : Int) (ari BinOp.rem IntKind.i64 (IntKind.wrap IntKind.i64 (intAt ds (o' + Int.toNat i * 1))) (200 : Int)))))))) = false → false = true)) ∧ (decide (i < (↑n' : Int)) = false → ((0 : Int) ≤ ari BinOp.add IntKind.i64 at' (if ari BinOp.sub IntKind.i64 ((((ByteArray.size q) : Nat) : Int)) at' < (200 : Int) then ari BinOp.sub IntKind.i64 ((((ByteArray.size q) : Nat) : Int)) at' else (200 : Int)) ∧ (Int.toNat (ari BinOp.add IntKind.i64 at' (if ari BinOp.sub IntKind.i64 ((((ByteArray.size q) : Nat) : Int)) at' < (200 : Int) then ari BinOp.sub IntKind.i64 ((((ByteArray.size q) : Nat) : Int)) at' else (200 : Int))) ≤ (ByteArray.size q)) ∧ (0 : Int) ≤ at' ∧ Int.toNat at' ≤ Int.toNat (ari BinOp.add IntKind.i64 at' (if ari BinOp.sub IntKind.i64 ((((ByteArray.size q) : Nat) : Int)) at' < (200 : Int) then ari BinOp.sub IntKind.i64 ((((ByteArray.size q) : Nat) : Int)) at' else (200 : Int))) ∧ True) ∧ (ByteArray.size j ≤ (90000 : Nat) ∧ BytR (Array.map (fun b => Value.int IntKind.u8 (↑(UInt8.toNat b) : Int)) (ByteArray.data (ByteArray.extract q (Int.toNat at') (Int.toNat (ari BinOp.add IntKind.i64 at' (if ari BinOp.sub IntKind.i64 ((((ByteArray.size q) : Nat) : Int)) at' < (200 : Int) then ari BinOp.sub IntKind.i64 ((((ByteArray.size q) : Nat) : Int)) at' else (200 : Int))))))) (0 : Nat) (ByteArray.size (ByteArray.extract q (Int.toNat at') (Int.toNat (ari BinOp.add IntKind.i64 at' (if ari BinOp.sub IntKind.i64 ((((ByteArray.size q) : Nat) : Int)) at' < (200 : Int) then ari BinOp.sub IntKind.i64 ((((ByteArray.size q) : Nat) : Int)) at' else (200 : Int)))))) ∧ True) ∧ (adOk j (ByteArray.size (ByteArray.extract q (Int.toNat at') (Int.toNat (ari BinOp.add IntKind.i64 at' (if ari BinOp.sub IntKind.i64 ((((ByteArray.size q) : Nat) : Int)) at' < (200 : Int) then ari BinOp.sub IntKind.i64 ((((ByteArray.size q) : Nat) : Int)) at' else (200 : Int)))))) (anyB (Array.map (fun b => Value.int IntKind.u8 (↑(UInt8.toNat b) : Int)) (ByteArray.data (ByteArray.extract q (Int.toNat at') (Int.toNat (ari BinOp.add IntKind.i64 at' (if ari BinOp.sub IntKind.i64 ((((ByteArray.size q) : Nat) : Int)) at' < (200 : Int) then ari BinOp.sub IntKind.i64 ((((ByteArray.size q) : Nat) : Int)) at' else (200 : Int))))))) (0 : Nat) (ByteArray.size (ByteArray.extract q (Int.toNat at') (Int.toNat (ari BinOp.add IntKind.i64 at' (if ari BinOp.sub IntKind.i64 ((((ByteArray.size q) : Nat) : Int)) at' < (200 : Int) then ari BinOp.sub IntKind.i64 ((((ByteArray.size q) : Nat) : Int)) at' else (200 : Int))))))) = true → (adF j (ByteArray.size (ByteArray.extract q (Int.toNat at') (Int.toNat (ari BinOp.add IntKind.i64 at' (if ari BinOp.sub IntKind.i64 ((((ByteArray.size q) : Nat) : Int)) at' < (200 : Int) then ari BinOp.sub IntKind.i64 ((((ByteArray.size q) : Nat) : Int)) at' else (200 : Int)))))) = true → (((k + 1) * 8 ≤ (140737488355328 : Nat) ∧ k + 1 ≤ (140737488355328 : Nat)) ∧ k * 1 = Array.size es ∧ True) ∧ (((k' + 1) * 8 ≤ (140737488355328 : Nat) ∧ k' + 1 ≤ (140737488355328 : Nat)) ∧ k' * 1 = Array.size ts ∧ True) ∧ Q (adR j (pkQ (Array.map (fun b => Value.int IntKind.u8 (↑(UInt8.toNat b) : Int)) (ByteArray.data (ByteArray.extract q (Int.toNat at') (Int.toNat (ari BinOp.add IntKind.i64 at' (if ari BinOp.sub IntKind.i64 ((((ByteArray.size q) : Nat) : Int)) at' < (200 : Int) then ari BinOp.sub IntKind.i64 ((((ByteArray.size q) : Nat) : Int)) at' else (200 : Int))))))) (0 : Nat) (ByteArray.size (ByteArray.extract q (Int.toNat at') (Int.toNat (ari BinOp.add IntKind.i64 at' (if ari BinOp.sub IntKind.i64 ((((ByteArray.size q) : Nat) : Int)) at' < (200 : Int) then ari BinOp.sub IntKind.i64 ((((ByteArray.size q) : Nat) : Int)) at' else (200 : Int)))))))) (k + 1) (es ++ #[Value.int IntKind.i64 ((((ByteArray.size (adR j (pkQ (Array.map (fun b => Value.int IntKind.u8 (↑(UInt8.toNat b) : Int)) (ByteArray.data (ByteArray.extract q (Int.toNat at') (Int.toNat (ari BinOp.add IntKind.i64 at' (if ari BinOp.sub IntKind.i64 ((((ByteArray.size q) : Nat) : Int)) at' < (200 : Int) then ari BinOp.sub IntKind.i64 ((((ByteArray.size q) : Nat) : Int)) at' else (200 : Int))))))) (0 : Nat) (ByteArray.size (ByteArray.extract q (Int.toNat at') (Int.toNat (ari BinOp.add IntKind.i64 at' (if ari BinOp.sub IntKind.i64 ((((ByteArray.size q) : Nat) : Int)) at' < (200 : Int) then ari BinOp.sub IntKind.i64 ((((ByteArray.size q) : Nat) : Int)) at' else (200 : Int))))))))) : Nat) : Int))]) (k' + 1) (ts ++ #[Value.int IntKind.i64 (ari BinOp.add IntKind.i64 at' (if ari BinOp.sub IntKind.i64 ((((ByteArray.size q) : Nat) : Int)) at' < (200 : Int) then ari BinOp.sub IntKind.i64 ((((ByteArray.size q) : Nat) : Int)) at' else (200 : Int)))]) (ari BinOp.add IntKind.i64 at' (if ari BinOp.sub IntKind.i64 ((((ByteArray.size q) : Nat) : Int)) at' < (200 : Int) then ari BinOp.sub IntKind.i64 ((((ByteArray.size q) : Nat) : Int)) at' else (200 : Int))) (ari BinOp.add IntKind.i64 i (1 : Int)) ∧ CallKind.normal = CallKind.normal ∧ TodoOk (ren 2 [(2, 2), (4, 4), (5, 9), (6, 11)]) y6H0 y6H0 ∧ P = P ∧ o = o ∧ n = n ∧ Value.string q = Value.string q ∧ o' = o' ∧ n' = n' ∧ k' + 1 = k' + 1 ∧ Value.slice none (0 : Nat) (0 : Nat) = Value.slice none (0 : Nat) (0 : Nat) ∧ ari BinOp.add IntKind.i64 i (1 : Int) = ari BinOp.add IntKind.i64 i (1 : Int) ∧ Value.string (ByteArray.mk #[]) = Value.string (ByteArray.mk #[]) ∧ Value.string (adR j (pkQ (Array.map (fun b => Value.int IntKind.u8 (↑(UInt8.toNat b) : Int)) (ByteArray.data (ByteArray.extract q (Int.toNat at') (Int.toNat (ari BinOp.add IntKind.i64 at' (if ari BinOp.sub IntKind.i64 ((((ByteArray.size q) : Nat) : Int)) at' < (200 : Int) then ari BinOp.sub IntKind.i64 ((((ByteArray.size q) : Nat) : Int)) at' else (200 : Int))))))) (0 : Nat) (ByteArray.size (ByteArray.extract q (Int.toNat at') (Int.toNat (ari BinOp.add IntKind.i64 at' (if ari BinOp.sub IntKind.i64 ((((ByteArray.size q) : Nat) : Int)) at' < (200 : Int) then ari BinOp.sub IntKind.i64 ((((ByteArray.size q) : Nat) : Int)) at' else (200 : Int)))))))) = Value.string (adR j (pkQ (Array.map (fun b => Value.int IntKind.u8 (↑(UInt8.toNat b) : Int)) (ByteArray.data (ByteArray.extract q (Int.toNat at') (Int.toNat (ari BinOp.add IntKind.i64 at' (if ari BinOp.sub IntKind.i64 ((((ByteArray.size q) : Nat) : Int)) at' < (200 : Int) then ari BinOp.sub IntKind.i64 ((((ByteArray.size q) : Nat) : Int)) at' else (200 : Int))))))) (0 : Nat) (ByteArray.size (ByteArray.extract q (Int.toNat at') (Int.toNat (ari BinOp.add IntKind.i64 at' (if ari BinOp.sub IntKind.i64 ((((ByteArray.size q) : Nat) : Int)) at' < (200 : Int) then ari BinOp.sub IntKind.i64 ((((ByteArray.size q) : Nat) : Int)) at' else (200 : Int)))))))) ∧ ari BinOp.add IntKind.i64 at' (if ari BinOp.sub IntKind.i64 ((((ByteArray.size q) : Nat) : Int)) at' < (200 : Int) then ari BinOp.sub IntKind.i64 ((((ByteArray.size q) : Nat) : Int)) at' else (200 : Int)) = ari BinOp.add IntKind.i64 at' (if ari BinOp.sub IntKind.i64 ((((ByteArray.size q) : Nat) : Int)) at' < (200 : Int) then ari BinOp.sub IntKind.i64 ((((ByteArray.size q) : Nat) : Int)) at' else (200 : Int)) ∧ Value.slice none (0 : Nat) (0 : Nat) = Value.slice none (0 : Nat) (0 : Nat) ∧ k + 1 = k + 1 ∧ CallKind.normal = CallKind.normal ∧ TodoOk (ren 2 [(2, 2), (4, 4), (5, 9), (6, 11)]) y6T1 y6T1 ∧ P = P ∧ o = o ∧ n = n ∧ Value.string q = Value.string q ∧ o' = o' ∧ n' = n' ∧ e = e ∧ ty = ty ∧ cs = cs ∧ tz = tz ∧ ds = ds ∧ (3 : TypeId) = (3 : Nat) ∧ es ++ #[Value.int IntKind.i64 ((((ByteArray.size (adR j (pkQ (Array.map (fun b => Value.int IntKind.u8 (↑(UInt8.toNat b) : Int)) (ByteArray.data (ByteArray.extract q (Int.toNat at') (Int.toNat (ari BinOp.add IntKind.i64 at' (if ari BinOp.sub IntKind.i64 ((((ByteArray.size q) : Nat) : Int)) at' < (200 : Int) then ari BinOp.sub IntKind.i64 ((((ByteArray.size q) : Nat) : Int)) at' else (200 : Int))))))) (0 : Nat) (ByteArray.size (ByteArray.extract q (Int.toNat at') (Int.toNat (ari BinOp.add IntKind.i64 at' (if ari BinOp.sub IntKind.i64 ((((ByteArray.size q) : Nat) : Int)) at' < (200 : Int) then ari BinOp.sub IntKind.i64 ((((ByteArray.size q) : Nat) : Int)) at' else (200 : Int))))))))) : Nat) : Int))] = es ++ #[Value.int IntKind.i64 ((((ByteArray.size (adR j (pkQ (Array.map (fun b => Value.int IntKind.u8 (↑(UInt8.toNat b) : Int)) (ByteArray.data (ByteArray.extract q (Int.toNat at') (Int.toNat (ari BinOp.add IntKind.i64 at' (if ari BinOp.sub IntKind.i64 ((((ByteArray.size q) : Nat) : Int)) at' < (200 : Int) then ari BinOp.sub IntKind.i64 ((((ByteArray.size q) : Nat) : Int)) at' else (200 : Int))))))) (0 : Nat) (ByteArray.size (ByteArray.extract q (Int.toNat at') (Int.toNat (ari BinOp.add IntKind.i64 at' (if ari BinOp.sub IntKind.i64 ((((ByteArray.size q) : Nat) : Int)) at' < (200 : Int) then ari BinOp.sub IntKind.i64 ((((ByteArray.size q) : Nat) : Int)) at' else (200 : Int))))))))) : Nat) : Int))] ∧ SBlk.ty (scB P o n q) = SBlk.ty (scB P o n q) ∧ P = P ∧ o = o ∧ n = n ∧ Value.string q = Value.string q ∧ SBlk.ty (scB P o n q) = SBlk.ty (scB P o n q) ∧ P = P ∧ o = o ∧ n = n ∧ Value.string q = Value.string q ∧ (3 : TypeId) = (3 : Nat) ∧ ts ++ #[Value.int IntKind.i64 (ari BinOp.add IntKind.i64 at' (if ari BinOp.sub IntKind.i64 ((((ByteArray.size q) : Nat) : Int)) at' < (200 : Int) then ari BinOp.sub IntKind.i64 ((((ByteArray.size q) : Nat) : Int)) at' else (200 : Int)))] = ts ++ #[Value.int IntKind.i64 (ari BinOp.add IntKind.i64 at' (if ari BinOp.sub IntKind.i64 ((((ByteArray.size q) : Nat) : Int)) at' < (200 : Int) then ari BinOp.sub IntKind.i64 ((((ByteArray.size q) : Nat) : Int)) at' else (200 : Int)))] ∧ True) ∧ (adF j (ByteArray.size (ByteArray.extract q (Int.toNat at') (Int.toNat (ari BinOp.add IntKind.i64 at' (if ari BinOp.sub IntKind.i64 ((((ByteArray.size q) : Nat) : Int)) at' < (200 : Int) then ari BinOp.sub IntKind.i64 ((((ByteArray.size q) : Nat) : Int)) at' else (200 : Int)))))) = false → false = true)) ∧ (adOk j (ByteArray.size (ByteArray.extract q (Int.toNat at') (Int.toNat (ari BinOp.add IntKind.i64 at' (if ari BinOp.sub IntKind.i64 ((((ByteArray.size q) : Nat) : Int)) at' < (200 : Int) then ari BinOp.sub IntKind.i64 ((((ByteArray.size q) : Nat) : Int)) at' else (200 : Int)))))) (anyB (Array.map (fun b => Value.int IntKind.u8 (↑(UInt8.toNat b) : Int)) (ByteArray.data (ByteArray.extract q (Int.toNat at') (Int.toNat (ari BinOp.add IntKind.i64 at' (if ari BinOp.sub IntKind.i64 ((((ByteArray.size q) : Nat) : Int)) at' < (200 : Int) then ari BinOp.sub IntKind.i64 ((((ByteArray.size q) : Nat) : Int)) at' else (200 : Int))))))) (0 : Nat) (ByteArray.size (ByteArray.extract q (Int.toNat at') (Int.toNat (ari BinOp.add IntKind.i64 at' (if ari BinOp.sub IntKind.i64 ((((ByteArray.size q) : Nat) : Int)) at' < (200 : Int) then ari BinOp.sub IntKind.i64 ((((ByteArray.size q) : Nat) : Int)) at' else (200 : Int))))))) = false → false = true))) := by kernel_rfl
theorem y6_start_f (P : Int) (o n : Nat) (q : ByteArray) (o' n' : Nat) (e : Int) (cs ds : Array Value) (ty tz : TypeId) (Q : ByteArray → Prop) : (run EK 1000 2 (y6C false P o n q o' n' e) (M2 cs ds ty tz)).vc (boolR true) (y6N0 false P o n q o' n' e cs ds ty tz Q) =
    ((StrI cs o n ∧ True) ∧ ((greatV n q cs o == false) = true → (StrR cs o n ∧ True) ∧ ((!mayS P o n (ByteArray.size q) cs (celA q)) = true → true = true) ∧ ((!mayS P o n (ByteArray.size q) cs (celA q)) = false → (StrOk cs o n ∧ True) ∧ (mayS P o n (0 : Nat) cs #[] = true → ((↑((4 : Nat) + ByteArray.size (strOf [Value.int IntKind.u8 (IntKind.wrap IntKind.u8 (((ByteArray.size (encS P o n (0 : Nat) cs #[])) : Nat) : Int)), Value.int IntKind.u8 (IntKind.wrap IntKind.u8 (ari BinOp.shr IntKind.i64 ((((ByteArray.size (encS P o n (0 : Nat) cs #[])) : Nat) : Int)) (8 : Int)))])) : Int) ≤ (9223372036854775807 : Int) ∧ True) ∧ ((↑(ByteArray.size (ByteArray.mk #[(66 : UInt8), (76 : UInt8), (87 : UInt8), (75 : UInt8)] ++ strOf [Value.int IntKind.u8 (IntKind.wrap IntKind.u8 (((ByteArray.size (encS P o n (0 : Nat) cs #[])) : Nat) : Int)), Value.int IntKind.u8 (IntKind.wrap IntKind.u8 (ari BinOp.shr IntKind.i64 ((((ByteArray.size (encS P o n (0 : Nat) cs #[])) : Nat) : Int)) (8 : Int)))]) + ByteArray.size (encS P o n (0 : Nat) cs #[])) : Int) ≤ (9223372036854775807 : Int) ∧ True) ∧ ((0 : Nat) + ByteArray.size (ByteArray.mk #[(66 : UInt8), (76 : UInt8), (87 : UInt8), (75 : UInt8)] ++ strOf [Value.int IntKind.u8 (IntKind.wrap IntKind.u8 (((ByteArray.size (encS P o n (0 : Nat) cs #[])) : Nat) : Int)), Value.int IntKind.u8 (IntKind.wrap IntKind.u8 (ari BinOp.shr IntKind.i64 ((((ByteArray.size (encS P o n (0 : Nat) cs #[])) : Nat) : Int)) (8 : Int)))] ++ encS P o n (0 : Nat) cs #[]) ≤ (1000000 : Nat) ∧ True) ∧ Q (smA (ByteArray.mk #[]) (ByteArray.mk #[(66 : UInt8), (76 : UInt8), (87 : UInt8), (75 : UInt8)] ++ strOf [Value.int IntKind.u8 (IntKind.wrap IntKind.u8 (((ByteArray.size (encS P o n (0 : Nat) cs #[])) : Nat) : Int)), Value.int IntKind.u8 (IntKind.wrap IntKind.u8 (ari BinOp.shr IntKind.i64 ((((ByteArray.size (encS P o n (0 : Nat) cs #[])) : Nat) : Int)) (8 : Int)))] ++ encS P o n (0 : Nat) cs #[])) ∧ CallKind.normal = CallKind.normal ∧ TodoOk (ren 2 [(2, 2), (4, 4), (10, 10), (11, 11)]) y6T0 y6T0 ∧ P = P ∧ o = o ∧ n = n ∧ Value.string q = Value.string q ∧ Value.slice none (0 : Nat) (0 : Nat) = Value.slice none (0 : Nat) (0 : Nat) ∧ Value.string (ByteArray.mk #[]) = Value.string (ByteArray.mk #[]) ∧ Value.string (smA (ByteArray.mk #[]) (ByteArray.mk #[(66 : UInt8), (76 : UInt8), (87 : UInt8), (75 : UInt8)] ++ strOf [Value.int IntKind.u8 (IntKind.wrap IntKind.u8 (((ByteArray.size (encS P o n (0 : Nat) cs #[])) : Nat) : Int)), Value.int IntKind.u8 (IntKind.wrap IntKind.u8 (ari BinOp.shr IntKind.i64 ((((ByteArray.size (encS P o n (0 : Nat) cs #[])) : Nat) : Int)) (8 : Int)))] ++ encS P o n (0 : Nat) cs #[])) = Value.string (smA (ByteArray.mk #[]) (ByteArray.mk #[(66 : UInt8), (76 : UInt8), (87 : UInt8), (75 : UInt8)] ++ strOf [Value.int IntKind.u8 (IntKind.wrap IntKind.u8 (((ByteArray.size (encS P o n (0 : Nat) cs #[])) : Nat) : Int)), Value.int IntKind.u8 (IntKind.wrap IntKind.u8 (ari BinOp.shr IntKind.i64 ((((ByteArray.size (encS P o n (0 : Nat) cs #[])) : Nat) : Int)) (8 : Int)))] ++ encS P o n (0 : Nat) cs #[])) ∧ Value.slice none (0 : Nat) (0 : Nat) = Value.slice none (0 : Nat) (0 : Nat) ∧ CallKind.normal = CallKind.normal ∧ TodoOk (ren 2 [(2, 2), (4, 4), (10, 10), (11, 11)]) y6T1 y6T1 ∧ P = P ∧ o = o ∧ n = n ∧ Value.string q = Value.string q ∧ e = e ∧ ty = ty ∧ cs = cs ∧ tz = tz ∧ ds = ds ∧ (3 : TypeId) = (3 : Nat) ∧ SBlk.ty (scB P o n q) = (24 : Nat) ∧ P = P ∧ o = o ∧ n = n ∧ Value.string q = Value.string q ∧ SBlk.ty (scB P o n q) = (24 : Nat) ∧ P = P ∧ o = o ∧ n = n ∧ Value.string q = Value.string q ∧ (3 : TypeId) = (3 : Nat) ∧ ((↑(ByteArray.size (smA (ByteArray.mk #[]) (ByteArray.mk #[(66 : UInt8), (76 : UInt8), (87 : UInt8), (75 : UInt8)] ++ strOf [Value.int IntKind.u8 (IntKind.wrap IntKind.u8 (((ByteArray.size (encS P o n (0 : Nat) cs #[])) : Nat) : Int)), Value.int IntKind.u8 (IntKind.wrap IntKind.u8 (ari BinOp.shr IntKind.i64 ((((ByteArray.size (encS P o n (0 : Nat) cs #[])) : Nat) : Int)) (8 : Int)))] ++ encS P o n (0 : Nat) cs #[]))) : Int) = (((ByteArray.size (smA (ByteArray.mk #[]) (ByteArray.mk #[(66 : UInt8), (76 : UInt8), (87 : UInt8), (75 : UInt8)] ++ strOf [Value.int IntKind.u8 (IntKind.wrap IntKind.u8 (((ByteArray.size (encS P o n (0 : Nat) cs #[])) : Nat) : Int)), Value.int IntKind.u8 (IntKind.wrap IntKind.u8 (ari BinOp.shr IntKind.i64 ((((ByteArray.size (encS P o n (0 : Nat) cs #[])) : Nat) : Int)) (8 : Int)))] ++ encS P o n (0 : Nat) cs #[]))) : Nat) : Int)) ∧ True) ∧ (mayS P o n (0 : Nat) cs #[] = false → false = true))) ∧ ((greatV n q cs o == false) = false → true = true)) := by kernel_rfl
theorem y6_first_f (P : Int) (o n : Nat) (q : ByteArray) (o' n' : Nat) (e : Int) (cs ds : Array Value) (ty tz : TypeId) (j : ByteArray) (Q : ByteArray → Nat → Array Value → Nat → Array Value → Int → Int → Prop) : (y6S0 false P o n q o' n' e cs ds ty tz j).vcT (boolR true) (y6N1 false P o n q o' n' e cs ds ty tz Q) =
    (decide ((0 : Int) < (((ByteArray.size q) : Nat) : Int)) = true ∧ ((0 : Int) ≤ ari BinOp.add IntKind.i64 (0 : Int) (if ari BinOp.sub IntKind.i64 ((((ByteArray.size q) : Nat) : Int)) (0 : Int) < (200 : Int) then ari BinOp.sub IntKind.i64 ((((ByteArray.size q) : Nat) : Int)) (0 : Int) else (200 : Int)) ∧ (Int.toNat (ari BinOp.add IntKind.i64 (0 : Int) (if ari BinOp.sub IntKind.i64 ((((ByteArray.size q) : Nat) : Int)) (0 : Int) < (200 : Int) then ari BinOp.sub IntKind.i64 ((((ByteArray.size q) : Nat) : Int)) (0 : Int) else (200 : Int))) ≤ (ByteArray.size q)) ∧ (0 : Nat) ≤ Int.toNat (ari BinOp.add IntKind.i64 (0 : Int) (if ari BinOp.sub IntKind.i64 ((((ByteArray.size q) : Nat) : Int)) (0 : Int) < (200 : Int) then ari BinOp.sub IntKind.i64 ((((ByteArray.size q) : Nat) : Int)) (0 : Int) else (200 : Int))) ∧ True) ∧ (ByteArray.size j ≤ (90000 : Nat) ∧ BytR (Array.map (fun b => Value.int IntKind.u8 (↑(UInt8.toNat b) : Int)) (ByteArray.data (ByteArray.extract q (0 : Nat) (Int.toNat (ari BinOp.add IntKind.i64 (0 : Int) (if ari BinOp.sub IntKind.i64 ((((ByteArray.size q) : Nat) : Int)) (0 : Int) < (200 : Int) then ari BinOp.sub IntKind.i64 ((((ByteArray.size q) : Nat) : Int)) (0 : Int) else (200 : Int))))))) (0 : Nat) (ByteArray.size (ByteArray.extract q (0 : Nat) (Int.toNat (ari BinOp.add IntKind.i64 (0 : Int) (if ari BinOp.sub IntKind.i64 ((((ByteArray.size q) : Nat) : Int)) (0 : Int) < (200 : Int) then ari BinOp.sub IntKind.i64 ((((ByteArray.size q) : Nat) : Int)) (0 : Int) else (200 : Int)))))) ∧ True) ∧ (adOk j (ByteArray.size (ByteArray.extract q (0 : Nat) (Int.toNat (ari BinOp.add IntKind.i64 (0 : Int) (if ari BinOp.sub IntKind.i64 ((((ByteArray.size q) : Nat) : Int)) (0 : Int) < (200 : Int) then ari BinOp.sub IntKind.i64 ((((ByteArray.size q) : Nat) : Int)) (0 : Int) else (200 : Int)))))) (anyB (Array.map (fun b => Value.int IntKind.u8 (↑(UInt8.toNat b) : Int)) (ByteArray.data (ByteArray.extract q (0 : Nat) (Int.toNat (ari BinOp.add IntKind.i64 (0 : Int) (if ari BinOp.sub IntKind.i64 ((((ByteArray.size q) : Nat) : Int)) (0 : Int) < (200 : Int) then ari BinOp.sub IntKind.i64 ((((ByteArray.size q) : Nat) : Int)) (0 : Int) else (200 : Int))))))) (0 : Nat) (ByteArray.size (ByteArray.extract q (0 : Nat) (Int.toNat (ari BinOp.add IntKind.i64 (0 : Int) (if ari BinOp.sub IntKind.i64 ((((ByteArray.size q) : Nat) : Int)) (0 : Int) < (200 : Int) then ari BinOp.sub IntKind.i64 ((((ByteArray.size q) : Nat) : Int)) (0 : Int) else (200 : Int))))))) = true → (adF j (ByteArray.size (ByteArray.extract q (0 : Nat) (Int.toNat (ari BinOp.add IntKind.i64 (0 : Int) (if ari BinOp.sub IntKind.i64 ((((ByteArray.size q) : Nat) : Int)) (0 : Int) < (200 : Int) then ari BinOp.sub IntKind.i64 ((((ByteArray.size q) : Nat) : Int)) (0 : Int) else (200 : Int)))))) = true → Q (adR j (pkQ (Array.map (fun b => Value.int IntKind.u8 (↑(UInt8.toNat b) : Int)) (ByteArray.data (ByteArray.extract q (0 : Nat) (Int.toNat (ari BinOp.add IntKind.i64 (0 : Int) (if ari BinOp.sub IntKind.i64 ((((ByteArray.size q) : Nat) : Int)) (0 : Int) < (200 : Int) then ari BinOp.sub IntKind.i64 ((((ByteArray.size q) : Nat) : Int)) (0 : Int) else (200 : Int))))))) (0 : Nat) (ByteArray.size (ByteArray.extract q (0 : Nat) (Int.toNat (ari BinOp.add IntKind.i64 (0 : Int) (if ari BinOp.sub IntKind.i64 ((((ByteArray.size q) : Nat) : Int)) (0 : Int) < (200 : Int) then ari BinOp.sub IntKind.i64 ((((ByteArray.size q) : Nat) : Int)) (0 : Int) else (200 : Int)))))))) (2 : Nat) #[Value.int IntKind.i64 (↑(ByteArray.size j) : Int), Value.int IntKind.i64 ((((ByteArray.size (adR j (pkQ (Array.map (fun b => Value.int IntKind.u8 (↑(UInt8.toNat b) : Int)) (ByteArray.data (ByteArray.extract q (0 : Nat) (Int.toNat (ari BinOp.add IntKind.i64 (0 : Int) (if ari BinOp.sub IntKind.i64 ((((ByteArray.size q) : Nat) : Int)) (0 : Int) < (200 : Int) then ari BinOp.sub IntKind.i64 ((((ByteArray.size q) : Nat) : Int)) (0 : Int) else (200 : Int))))))) (0 : Nat) (ByteArray.size (ByteArray.extract q (0 : Nat) (Int.toNat (ari BinOp.add IntKind.i64 (0 : Int) (if ari BinOp.sub IntKind.i64 ((((ByteArray.size q) : Nat) : Int)) (0 : Int) < (200 : Int) then ari BinOp.sub IntKind.i64 ((((ByteArray.size q) : Nat) : Int)) (0 : Int) else (200 : Int))))))))) : Nat) : Int))] (2 : Nat) #[Value.int IntKind.i64 (0 : Int), Value.int IntKind.i64 (ari BinOp.add IntKind.i64 (0 : Int) (if ari BinOp.sub IntKind.i64 ((((ByteArray.size q) : Nat) : Int)) (0 : Int) < (200 : Int) then ari BinOp.sub IntKind.i64 ((((ByteArray.size q) : Nat) : Int)) (0 : Int) else (200 : Int)))] (ari BinOp.add IntKind.i64 (0 : Int) (if ari BinOp.sub IntKind.i64 ((((ByteArray.size q) : Nat) : Int)) (0 : Int) < (200 : Int) then ari BinOp.sub IntKind.i64 ((((ByteArray.size q) : Nat) : Int)) (0 : Int) else (200 : Int))) (1 : Int) ∧ CallKind.normal = CallKind.normal ∧ TodoOk (ren 2 [(2, 2), (4, 4), (5, 14), (6, 16)]) y6H0 y6H0 ∧ P = P ∧ o = o ∧ n = n ∧ Value.string q = Value.string q ∧ (2 : Nat) = (2 : Nat) ∧ Value.slice none (0 : Nat) (0 : Nat) = Value.slice none (0 : Nat) (0 : Nat) ∧ (1 : Int) = (1 : Int) ∧ Value.string (ByteArray.mk #[]) = Value.string (ByteArray.mk #[]) ∧ Value.string (adR j (pkQ (Array.map (fun b => Value.int IntKind.u8 (↑(UInt8.toNat b) : Int)) (ByteArray.data (ByteArray.extract q (0 : Nat) (Int.toNat (ari BinOp.add IntKind.i64 (0 : Int) (if ari BinOp.sub IntKind.i64 ((((ByteArray.size q) : Nat) : Int)) (0 : Int) < (200 : Int) then ari BinOp.sub IntKind.i64 ((((ByteArray.size q) : Nat) : Int)) (0 : Int) else (200 : Int))))))) (0 : Nat) (ByteArray.size (ByteArray.extract q (0 : Nat) (Int.toNat (ari BinOp.add IntKind.i64 (0 : Int) (if ari BinOp.sub IntKind.i64 ((((ByteArray.size q) : Nat) : Int)) (0 : Int) < (200 : Int) then ari BinOp.sub IntKind.i64 ((((ByteArray.size q) : Nat) : Int)) (0 : Int) else (200 : Int)))))))) = Value.string (adR j (pkQ (Array.map (fun b => Value.int IntKind.u8 (↑(UInt8.toNat b) : Int)) (ByteArray.data (ByteArray.extract q (0 : Nat) (Int.toNat (ari BinOp.add IntKind.i64 (0 : Int) (if ari BinOp.sub IntKind.i64 ((((ByteArray.size q) : Nat) : Int)) (0 : Int) < (200 : Int) then ari BinOp.sub IntKind.i64 ((((ByteArray.size q) : Nat) : Int)) (0 : Int) else (200 : Int))))))) (0 : Nat) (ByteArray.size (ByteArray.extract q (0 : Nat) (Int.toNat (ari BinOp.add IntKind.i64 (0 : Int) (if ari BinOp.sub IntKind.i64 ((((ByteArray.size q) : Nat) : Int)) (0 : Int) < (200 : Int) then ari BinOp.sub IntKind.i64 ((((ByteArray.size q) : Nat) : Int)) (0 : Int) else (200 : Int)))))))) ∧ ari BinOp.add IntKind.i64 (0 : Int) (if ari BinOp.sub IntKind.i64 ((((ByteArray.size q) : Nat) : Int)) (0 : Int) < (200 : Int) then ari BinOp.sub IntKind.i64 ((((ByteArray.size q) : Nat) : Int)) (0 : Int) else (200 : Int)) = ari BinOp.add IntKind.i64 (0 : Int) (if ari BinOp.sub IntKind.i64 ((((ByteArray.size q) : Nat) : Int)) (0 : Int) < (200 : Int) then ari BinOp.sub IntKind.i64 ((((ByteArray.size q) : Nat) : Int)) (0 : Int) else (200 : Int)) ∧ Value.slice none (0 : Nat) (0 : Nat) = Value.slice none (0 : Nat) (0 : Nat) ∧ (2 : Nat) = (2 : Nat) ∧ CallKind.normal = CallKind.normal ∧ TodoOk (ren 2 [(2, 2), (4, 4), (5, 14), (6, 16)]) y6T1 y6T1 ∧ P = P ∧ o = o ∧ n = n ∧ Value.string q = Value.string q ∧ e = e ∧ ty = ty ∧ cs = cs ∧ tz = tz ∧ ds = ds ∧ (3 : TypeId) = (3 : Nat) ∧ #[Value.int IntKind.i64 (↑(ByteArray.size j) : Int), Value.int IntKind.i64 ((((ByteArray.size (adR j (pkQ (Array.map (fun b => Value.int IntKind.u8 (↑(UInt8.toNat b) : Int)) (ByteArray.data (ByteArray.extract q (0 : Nat) (Int.toNat (ari BinOp.add IntKind.i64 (0 : Int) (if ari BinOp.sub IntKind.i64 ((((ByteArray.size q) : Nat) : Int)) (0 : Int) < (200 : Int) then ari BinOp.sub IntKind.i64 ((((ByteArray.size q) : Nat) : Int)) (0 : Int) else (200 : Int))))))) (0 : Nat) (ByteArray.size (ByteArray.extract q (0 : Nat) (Int.toNat (ari BinOp.add IntKind.i64 (0 : Int) (if ari BinOp.sub IntKind.i64 ((((ByteArray.size q) : Nat) : Int)) (0 : Int) < (200 : Int) then ari BinOp.sub IntKind.i64 ((((ByteArray.size q) : Nat) : Int)) (0 : Int) else (200 : Int))))))))) : Nat) : Int))] = #[Value.int IntKind.i64 (↑(ByteArray.size j) : Int), Value.int IntKind.i64 ((((ByteArray.size (adR j (pkQ (Array.map (fun b => Value.int IntKind.u8 (↑(UInt8.toNat b) : Int)) (ByteArray.data (ByteArray.extract q (0 : Nat) (Int.toNat (ari BinOp.add IntKind.i64 (0 : Int) (if ari BinOp.sub IntKind.i64 ((((ByteArray.size q) : Nat) : Int)) (0 : Int) < (200 : Int) then ari BinOp.sub IntKind.i64 ((((ByteArray.size q) : Nat) : Int)) (0 : Int) else (200 : Int))))))) (0 : Nat) (ByteArray.size (ByteArray.extract q (0 : Nat) (Int.toNat (ari BinOp.add IntKind.i64 (0 : Int) (if ari BinOp.sub IntKind.i64 ((((ByteArray.size q) : Nat) : Int)) (0 : Int) < (200 : Int) then ari BinOp.sub IntKind.i64 ((((ByteArray.size q) : Nat) : Int)) (0 : Int) else (200 : Int))))))))) : Nat) : Int))] ∧ SBlk.ty (scB P o n q) = SBlk.ty (scB P o n q) ∧ P = P ∧ o = o ∧ n = n ∧ Value.string q = Value.string q ∧ SBlk.ty (scB P o n q) = SBlk.ty (scB P o n q) ∧ P = P ∧ o = o ∧ n = n ∧ Value.string q = Value.string q ∧ (3 : TypeId) = (3 : Nat) ∧ #[Value.int IntKind.i64 (0 : Int), Value.int IntKind.i64 (ari BinOp.add IntKind.i64 (0 : Int) (if ari BinOp.sub IntKind.i64 ((((ByteArray.size q) : Nat) : Int)) (0 : Int) < (200 : Int) then ari BinOp.sub IntKind.i64 ((((ByteArray.size q) : Nat) : Int)) (0 : Int) else (200 : Int)))] = #[Value.int IntKind.i64 (0 : Int), Value.int IntKind.i64 (ari BinOp.add IntKind.i64 (0 : Int) (if ari BinOp.sub IntKind.i64 ((((ByteArray.size q) : Nat) : Int)) (0 : Int) < (200 : Int) then ari BinOp.sub IntKind.i64 ((((ByteArray.size q) : Nat) : Int)) (0 : Int) else (200 : Int)))] ∧ True) ∧ (adF j (ByteArray.size (ByteArray.extract q (0 : Nat) (Int.toNat (ari BinOp.add IntKind.i64 (0 : Int) (if ari BinOp.sub IntKind.i64 ((((ByteArray.size q) : Nat) : Int)) (0 : Int) < (200 : Int) then ari BinOp.sub IntKind.i64 ((((ByteArray.size q) : Nat) : Int)) (0 : Int) else (200 : Int)))))) = false → false = true)) ∧ (adOk j (ByteArray.size (ByteArray.extract q (0 : Nat) (Int.toNat (ari BinOp.add IntKind.i64 (0 : Int) (if ari BinOp.sub IntKind.i64 ((((ByteArray.size q) : Nat) : Int)) (0 : Int) < (200 : Int) then ari BinOp.sub IntKind.i64 ((((ByteArray.size q) : Nat) : Int)) (0 : Int) else (200 : Int)))))) (anyB (Array.map (fun b => Value.int IntKind.u8 (↑(UInt8.toNat b) : Int)) (ByteArray.data (ByteArray.extract q (0 : Nat) (Int.toNat (ari BinOp.add IntKind.i64 (0 : Int) (if ari BinOp.sub IntKind.i64 ((((ByteArray.size q) : Nat) : Int)) (0 : Int) < (200 : Int) then ari BinOp.sub IntKind.i64 ((((ByteArray.size q) : Nat) : Int)) (0 : Int) else (200 : Int))))))) (0 : Nat) (ByteArray.size (ByteArray.extract q (0 : Nat) (Int.toNat (ari BinOp.add IntKind.i64 (0 : Int) (if ari BinOp.sub IntKind.i64 ((((ByteArray.size q) : Nat) : Int)) (0 : Int) < (200 : Int) then ari BinOp.sub IntKind.i64 ((((ByteArray.size q) : Nat) : Int)) (0 : Int) else (200 : Int))))))) = false → false = true)) := by kernel_rfl
theorem y6_step_f (P : Int) (o n : Nat) (q : ByteArray) (o' n' : Nat) (e : Int) (cs ds : Array Value) (ty tz : TypeId) (j : ByteArray) (k k' : Nat) (at' i : Int) (es ts : Array Value) (Q : ByteArray → Nat → Array Value → Nat → Array Value → Int → Int → Prop) : (y6S1 false P o n q o' n' e cs ds ty tz j k k' at' i es ts).vcT (boolR true) (y6N1 false P o n q o' n' e cs ds ty tz Q) =
    (decide (at' < (((ByteArray.size q) : Nat) : Int)) = true ∧ (decide (i < (0 : Int)) = true → False) ∧ (decide (i < (0 : Int)) = false → ((0 : Int) ≤ ari BinOp.add IntKind.i64 at' (if ari BinOp.sub IntKind.i64 ((((ByteArray.size q) : Nat) : Int)) at' < (200 : Int) then ari BinOp.sub IntKind.i64 ((((ByteArray.size q) : Nat) : Int)) at' else (200 : Int)) ∧ (Int.toNat (ari BinOp.add IntKind.i64 at' (if ari BinOp.sub IntKind.i64 ((((ByteArray.size q) : Nat) : Int)) at' < (200 : Int) then ari BinOp.sub IntKind.i64 ((((ByteArray.size q) : Nat) : Int)) at' else (200 : Int))) ≤ (ByteArray.size q)) ∧ (0 : Int) ≤ at' ∧ Int.toNat at' ≤ Int.toNat (ari BinOp.add IntKind.i64 at' (if ari BinOp.sub IntKind.i64 ((((ByteArray.size q) : Nat) : Int)) at' < (200 : Int) then ari BinOp.sub IntKind.i64 ((((ByteArray.size q) : Nat) : Int)) at' else (200 : Int))) ∧ True) ∧ (ByteArray.size j ≤ (90000 : Nat) ∧ BytR (Array.map (fun b => Value.int IntKind.u8 (↑(UInt8.toNat b) : Int)) (ByteArray.data (ByteArray.extract q (Int.toNat at') (Int.toNat (ari BinOp.add IntKind.i64 at' (if ari BinOp.sub IntKind.i64 ((((ByteArray.size q) : Nat) : Int)) at' < (200 : Int) then ari BinOp.sub IntKind.i64 ((((ByteArray.size q) : Nat) : Int)) at' else (200 : Int))))))) (0 : Nat) (ByteArray.size (ByteArray.extract q (Int.toNat at') (Int.toNat (ari BinOp.add IntKind.i64 at' (if ari BinOp.sub IntKind.i64 ((((ByteArray.size q) : Nat) : Int)) at' < (200 : Int) then ari BinOp.sub IntKind.i64 ((((ByteArray.size q) : Nat) : Int)) at' else (200 : Int)))))) ∧ True) ∧ (adOk j (ByteArray.size (ByteArray.extract q (Int.toNat at') (Int.toNat (ari BinOp.add IntKind.i64 at' (if ari BinOp.sub IntKind.i64 ((((ByteArray.size q) : Nat) : Int)) at' < (200 : Int) then ari BinOp.sub IntKind.i64 ((((ByteArray.size q) : Nat) : Int)) at' else (200 : Int)))))) (anyB (Array.map (fun b => Value.int IntKind.u8 (↑(UInt8.toNat b) : Int)) (ByteArray.data (ByteArray.extract q (Int.toNat at') (Int.toNat (ari BinOp.add IntKind.i64 at' (if ari BinOp.sub IntKind.i64 ((((ByteArray.size q) : Nat) : Int)) at' < (200 : Int) then ari BinOp.sub IntKind.i64 ((((ByteArray.size q) : Nat) : Int)) at' else (200 : Int))))))) (0 : Nat) (ByteArray.size (ByteArray.extract q (Int.toNat at') (Int.toNat (ari BinOp.add IntKind.i64 at' (if ari BinOp.sub IntKind.i64 ((((ByteArray.size q) : Nat) : Int)) at' < (200 : Int) then ari BinOp.sub IntKind.i64 ((((ByteArray.size q) : Nat) : Int)) at' else (200 : Int))))))) = true → (adF j (ByteArray.size (ByteArray.extract q (Int.toNat at') (Int.toNat (ari BinOp.add IntKind.i64 at' (if ari BinOp.sub IntKind.i64 ((((ByteArray.size q) : Nat) : Int)) at' < (200 : Int) then ari BinOp.sub IntKind.i64 ((((ByteArray.size q) : Nat) : Int)) at' else (200 : Int)))))) = true → (((k + 1) * 8 ≤ (140737488355328 : Nat) ∧ k + 1 ≤ (140737488355328 : Nat)) ∧ k * 1 = Array.size es ∧ True) ∧ (((k' + 1) * 8 ≤ (140737488355328 : Nat) ∧ k' + 1 ≤ (140737488355328 : Nat)) ∧ k' * 1 = Array.size ts ∧ True) ∧ Q (adR j (pkQ (Array.map (fun b => Value.int IntKind.u8 (↑(UInt8.toNat b) : Int)) (ByteArray.data (ByteArray.extract q (Int.toNat at') (Int.toNat (ari BinOp.add IntKind.i64 at' (if ari BinOp.sub IntKind.i64 ((((ByteArray.size q) : Nat) : Int)) at' < (200 : Int) then ari BinOp.sub IntKind.i64 ((((ByteArray.size q) : Nat) : Int)) at' else (200 : Int))))))) (0 : Nat) (ByteArray.size (ByteArray.extract q (Int.toNat at') (Int.toNat (ari BinOp.add IntKind.i64 at' (if ari BinOp.sub IntKind.i64 ((((ByteArray.size q) : Nat) : Int)) at' < (200 : Int) then ari BinOp.sub IntKind.i64 ((((ByteArray.size q) : Nat) : Int)) at' else (200 : Int)))))))) (k + 1) (es ++ #[Value.int IntKind.i64 ((((ByteArray.size (adR j (pkQ (Array.map (fun b => Value.int IntKind.u8 (↑(UInt8.toNat b) : Int)) (ByteArray.data (ByteArray.extract q (Int.toNat at') (Int.toNat (ari BinOp.add IntKind.i64 at' (if ari BinOp.sub IntKind.i64 ((((ByteArray.size q) : Nat) : Int)) at' < (200 : Int) then ari BinOp.sub IntKind.i64 ((((ByteArray.size q) : Nat) : Int)) at' else (200 : Int))))))) (0 : Nat) (ByteArray.size (ByteArray.extract q (Int.toNat at') (Int.toNat (ari BinOp.add IntKind.i64 at' (if ari BinOp.sub IntKind.i64 ((((ByteArray.size q) : Nat) : Int)) at' < (200 : Int) then ari BinOp.sub IntKind.i64 ((((ByteArray.size q) : Nat) : Int)) at' else (200 : Int))))))))) : Nat) : Int))]) (k' + 1) (ts ++ #[Value.int IntKind.i64 (ari BinOp.add IntKind.i64 at' (if ari BinOp.sub IntKind.i64 ((((ByteArray.size q) : Nat) : Int)) at' < (200 : Int) then ari BinOp.sub IntKind.i64 ((((ByteArray.size q) : Nat) : Int)) at' else (200 : Int)))]) (ari BinOp.add IntKind.i64 at' (if ari BinOp.sub IntKind.i64 ((((ByteArray.size q) : Nat) : Int)) at' < (200 : Int) then ari BinOp.sub IntKind.i64 ((((ByteArray.size q) : Nat) : Int)) at' else (200 : Int))) (ari BinOp.add IntKind.i64 i (1 : Int)) ∧ CallKind.normal = CallKind.normal ∧ TodoOk (ren 2 [(2, 2), (4, 4), (5, 9), (6, 11)]) y6H0 y6H0 ∧ P = P ∧ o = o ∧ n = n ∧ Value.string q = Value.string q ∧ k' + 1 = k' + 1 ∧ Value.slice none (0 : Nat) (0 : Nat) = Value.slice none (0 : Nat) (0 : Nat) ∧ ari BinOp.add IntKind.i64 i (1 : Int) = ari BinOp.add IntKind.i64 i (1 : Int) ∧ Value.string (ByteArray.mk #[]) = Value.string (ByteArray.mk #[]) ∧ Value.string (adR j (pkQ (Array.map (fun b => Value.int IntKind.u8 (↑(UInt8.toNat b) : Int)) (ByteArray.data (ByteArray.extract q (Int.toNat at') (Int.toNat (ari BinOp.add IntKind.i64 at' (if ari BinOp.sub IntKind.i64 ((((ByteArray.size q) : Nat) : Int)) at' < (200 : Int) then ari BinOp.sub IntKind.i64 ((((ByteArray.size q) : Nat) : Int)) at' else (200 : Int))))))) (0 : Nat) (ByteArray.size (ByteArray.extract q (Int.toNat at') (Int.toNat (ari BinOp.add IntKind.i64 at' (if ari BinOp.sub IntKind.i64 ((((ByteArray.size q) : Nat) : Int)) at' < (200 : Int) then ari BinOp.sub IntKind.i64 ((((ByteArray.size q) : Nat) : Int)) at' else (200 : Int)))))))) = Value.string (adR j (pkQ (Array.map (fun b => Value.int IntKind.u8 (↑(UInt8.toNat b) : Int)) (ByteArray.data (ByteArray.extract q (Int.toNat at') (Int.toNat (ari BinOp.add IntKind.i64 at' (if ari BinOp.sub IntKind.i64 ((((ByteArray.size q) : Nat) : Int)) at' < (200 : Int) then ari BinOp.sub IntKind.i64 ((((ByteArray.size q) : Nat) : Int)) at' else (200 : Int))))))) (0 : Nat) (ByteArray.size (ByteArray.extract q (Int.toNat at') (Int.toNat (ari BinOp.add IntKind.i64 at' (if ari BinOp.sub IntKind.i64 ((((ByteArray.size q) : Nat) : Int)) at' < (200 : Int) then ari BinOp.sub IntKind.i64 ((((ByteArray.size q) : Nat) : Int)) at' else (200 : Int)))))))) ∧ ari BinOp.add IntKind.i64 at' (if ari BinOp.sub IntKind.i64 ((((ByteArray.size q) : Nat) : Int)) at' < (200 : Int) then ari BinOp.sub IntKind.i64 ((((ByteArray.size q) : Nat) : Int)) at' else (200 : Int)) = ari BinOp.add IntKind.i64 at' (if ari BinOp.sub IntKind.i64 ((((ByteArray.size q) : Nat) : Int)) at' < (200 : Int) then ari BinOp.sub IntKind.i64 ((((ByteArray.size q) : Nat) : Int)) at' else (200 : Int)) ∧ Value.slice none (0 : Nat) (0 : Nat) = Value.slice none (0 : Nat) (0 : Nat) ∧ k + 1 = k + 1 ∧ CallKind.normal = CallKind.normal ∧ TodoOk (ren 2 [(2, 2), (4, 4), (5, 9), (6, 11)]) y6T1 y6T1 ∧ P = P ∧ o = o ∧ n = n ∧ Value.string q = Value.string q ∧ e = e ∧ ty = ty ∧ cs = cs ∧ tz = tz ∧ ds = ds ∧ (3 : TypeId) = (3 : Nat) ∧ es ++ #[Value.int IntKind.i64 ((((ByteArray.size (adR j (pkQ (Array.map (fun b => Value.int IntKind.u8 (↑(UInt8.toNat b) : Int)) (ByteArray.data (ByteArray.extract q (Int.toNat at') (Int.toNat (ari BinOp.add IntKind.i64 at' (if ari BinOp.sub IntKind.i64 ((((ByteArray.size q) : Nat) : Int)) at' < (200 : Int) then ari BinOp.sub IntKind.i64 ((((ByteArray.size q) : Nat) : Int)) at' else (200 : Int))))))) (0 : Nat) (ByteArray.size (ByteArray.extract q (Int.toNat at') (Int.toNat (ari BinOp.add IntKind.i64 at' (if ari BinOp.sub IntKind.i64 ((((ByteArray.size q) : Nat) : Int)) at' < (200 : Int) then ari BinOp.sub IntKind.i64 ((((ByteArray.size q) : Nat) : Int)) at' else (200 : Int))))))))) : Nat) : Int))] = es ++ #[Value.int IntKind.i64 ((((ByteArray.size (adR j (pkQ (Array.map (fun b => Value.int IntKind.u8 (↑(UInt8.toNat b) : Int)) (ByteArray.data (ByteArray.extract q (Int.toNat at') (Int.toNat (ari BinOp.add IntKind.i64 at' (if ari BinOp.sub IntKind.i64 ((((ByteArray.size q) : Nat) : Int)) at' < (200 : Int) then ari BinOp.sub IntKind.i64 ((((ByteArray.size q) : Nat) : Int)) at' else (200 : Int))))))) (0 : Nat) (ByteArray.size (ByteArray.extract q (Int.toNat at') (Int.toNat (ari BinOp.add IntKind.i64 at' (if ari BinOp.sub IntKind.i64 ((((ByteArray.size q) : Nat) : Int)) at' < (200 : Int) then ari BinOp.sub IntKind.i64 ((((ByteArray.size q) : Nat) : Int)) at' else (200 : Int))))))))) : Nat) : Int))] ∧ SBlk.ty (scB P o n q) = SBlk.ty (scB P o n q) ∧ P = P ∧ o = o ∧ n = n ∧ Value.string q = Value.string q ∧ SBlk.ty (scB P o n q) = SBlk.ty (scB P o n q) ∧ P = P ∧ o = o ∧ n = n ∧ Value.string q = Value.string q ∧ (3 : TypeId) = (3 : Nat) ∧ ts ++ #[Value.int IntKind.i64 (ari BinOp.add IntKind.i64 at' (if ari BinOp.sub IntKind.i64 ((((ByteArray.size q) : Nat) : Int)) at' < (200 : Int) then ari BinOp.sub IntKind.i64 ((((ByteArray.size q) : Nat) : Int)) at' else (200 : Int)))] = ts ++ #[Value.int IntKind.i64 (ari BinOp.add IntKind.i64 at' (if ari BinOp.sub IntKind.i64 ((((ByteArray.size q) : Nat) : Int)) at' < (200 : Int) then ari BinOp.sub IntKind.i64 ((((ByteArray.size q) : Nat) : Int)) at' else (200 : Int)))] ∧ True) ∧ (adF j (ByteArray.size (ByteArray.extract q (Int.toNat at') (Int.toNat (ari BinOp.add IntKind.i64 at' (if ari BinOp.sub IntKind.i64 ((((ByteArray.size q) : Nat) : Int)) at' < (200 : Int) then ari BinOp.sub IntKind.i64 ((((ByteArray.size q) : Nat) : Int)) at' else (200 : Int)))))) = false → false = true)) ∧ (adOk j (ByteArray.size (ByteArray.extract q (Int.toNat at') (Int.toNat (ari BinOp.add IntKind.i64 at' (if ari BinOp.sub IntKind.i64 ((((ByteArray.size q) : Nat) : Int)) at' < (200 : Int) then ari BinOp.sub IntKind.i64 ((((ByteArray.size q) : Nat) : Int)) at' else (200 : Int)))))) (anyB (Array.map (fun b => Value.int IntKind.u8 (↑(UInt8.toNat b) : Int)) (ByteArray.data (ByteArray.extract q (Int.toNat at') (Int.toNat (ari BinOp.add IntKind.i64 at' (if ari BinOp.sub IntKind.i64 ((((ByteArray.size q) : Nat) : Int)) at' < (200 : Int) then ari BinOp.sub IntKind.i64 ((((ByteArray.size q) : Nat) : Int)) at' else (200 : Int))))))) (0 : Nat) (ByteArray.size (ByteArray.extract q (Int.toNat at') (Int.toNat (ari BinOp.add IntKind.i64 at' (if ari BinOp.sub IntKind.i64 ((((ByteArray.size q) : Nat) : Int)) at' < (200 : Int) then ari BinOp.sub IntKind.i64 ((((ByteArray.size q) : Nat) : Int)) at' else (200 : Int))))))) = false → false = true))) := by kernel_rfl
end Go.Proofs.Ytapkbgccbmjfaaa
/- Of journal: what is read of bytes that begin with a journal. No condition. -/
namespace Go.Proofs.Ytapkbgccbmjfaaa
set_option linter.unusedSectionVars false
set_option linter.unusedVariables false
set_option maxRecDepth 100000
def Pre (X J : ByteArray) : Prop := X.size ≤ J.size ∧ J.extract 0 X.size = X
theorem Pre.ext {X J : ByteArray} (h : Pre X J) {s t : Nat} (ht : t ≤ X.size) : J.extract s t = X.extract s t := by
  have e := ext_ext2 J 0 X.size s t
  rw [h.2, Nat.zero_add, Nat.zero_add, Nat.min_eq_left ht] at e
  exact e.symm
theorem Pre.at {X J : ByteArray} (h : Pre X J) {i : Nat} (hi : i < X.size) : byteAt J i = byteAt X i := by
  have h1 := h.1
  have e := byteAt_ext (b := J) (s := 0) (e := X.size) (i := i) (by omega)
  rw [h.2, Nat.zero_add] at e
  exact e.symm
theorem Pre.refl (X : ByteArray) : Pre X X := ⟨Nat.le_refl _, by
  apply ByteArray.ext
  rw [ByteArray.data_extract]
  exact Array.extract_size⟩
theorem Pre.hEnd {X J : ByteArray} (h : Pre X J) (h6 : 6 ≤ X.size) : endN J = endN X := by
  unfold endN
  rw [h.at (by omega), h.at (by omega)]
theorem Pre.hHead {X J : ByteArray} (h : Pre X J) (hp : preH X = true) : preH J = true ∧ endN J = endN X := by
  obtain ⟨s1, s2⟩ := pre_size hp
  have he := h.hEnd (by omega)
  have h1 := h.1
  refine ⟨?_, he⟩
  unfold preH at hp ⊢
  rw [he, h.ext (show 4 ≤ X.size by omega), h.ext (show endN X ≤ X.size by omega), h.ext s2]
  simp only [Bool.and_eq_true, decide_eq_true_eq] at hp ⊢
  exact ⟨⟨by omega, hp.1.2⟩, by omega, hp.2.2⟩
theorem Pre.hBody {X J : ByteArray} (h : Pre X J) (hp : preH X = true) : cB J = cB X := by
  obtain ⟨s1, s2⟩ := pre_size hp
  unfold cB
  rw [h.hEnd (by omega)]
  exact h.ext (by omega)
theorem Pre.hOk {X J : ByteArray} (h : Pre X J) (hX : okJ X = true) : okJ J = true := by
  obtain ⟨h1, h2, h3⟩ := okJ_iff hX
  unfold okJ
  rw [(h.hHead h1).1, h.hBody h1, h2, decide_eq_false (p := (leftB (cB X)).size ≠ 0) (by omega)]
  rfl
theorem recOk_iff {b : ByteArray} {a k : Nat} : recOk b a k = true ↔ a < b.size ∧ (1 ≤ recN b a ∧ recN b a ≤ 200 ∧ recE b a + 4 ≤ b.size) ∧ recS b a = true ∧ anyB (celA (recP b a)) 0 (recP b a).size = false ∧ k + recN b a ≤ 4000 := by
  unfold recOk recW
  simp only [Bool.and_eq_true, decide_eq_true_eq, Bool.not_eq_true']
  constructor
  · rintro ⟨⟨⟨⟨h1, h2⟩, h3⟩, h4⟩, h5⟩; exact ⟨h1, h2, h3, h4, h5⟩
  · rintro ⟨h1, h2, h3, h4, h5⟩; exact ⟨⟨⟨⟨h1, h2⟩, h3⟩, h4⟩, h5⟩
theorem Pre.hN {X J : ByteArray} (h : Pre X J) {a : Nat} (ha : a < X.size) : recN J a = recN X a := by
  unfold recN
  rw [h.at ha]
theorem Pre.hE {X J : ByteArray} (h : Pre X J) {a : Nat} (ha : a < X.size) : recE J a = recE X a := by
  unfold recE
  rw [h.hN ha]
theorem Pre.hRec {X J : ByteArray} (h : Pre X J) {a k : Nat} (hr : recOk X a k = true) : recOk J a k = true ∧ recE J a = recE X a ∧ recP J a = recP X a := by
  have h1 := h.1
  obtain ⟨r1, ⟨r2, r3, r4⟩, r5, r6, r7⟩ := recOk_iff.1 hr
  have eN := h.hN r1
  have eE := h.hE r1
  have eP : recP J a = recP X a := by
    unfold recP
    rw [eE]
    exact h.ext (by omega)
  refine ⟨recOk_iff.2 ⟨by omega, ⟨by omega, by omega, by omega⟩, ?_, by rw [eP]; exact r6, by omega⟩, eE, eP⟩
  unfold recS at r5 ⊢
  rw [eE, h.ext (show a ≤ X.size by omega), h.ext (show recE X a ≤ X.size by omega), h.ext r4]
  exact r5
theorem app_r (A B : ByteArray) (s t : Nat) : (A ++ B).extract (A.size + s) (A.size + t) = B.extract s t := by
  apply bl_ext
  rw [bl_extract, bl_extract, bl_append, List.drop_append, bl_len, Nat.add_sub_cancel_left, List.drop_eq_nil_of_le (by rw [bl_len]; omega), List.nil_append]
  congr 1
  omega
theorem app_l (A B : ByteArray) {s t : Nat} (h : t ≤ A.size) : (A ++ B).extract s t = A.extract s t := by
  apply bl_ext
  rw [bl_extract, bl_extract, bl_append, List.drop_append]
  have e : (bl A).length = A.size := bl_len A
  by_cases hs : s ≤ t
  · rw [show s - (bl A).length = 0 by omega, List.drop_zero, List.take_append_of_le_length (by rw [List.length_drop]; omega)]
  · rw [show t - s = 0 by omega, List.take_zero, List.take_zero]
theorem app_at (A B : ByteArray) (i : Nat) : byteAt (A ++ B) (A.size + i) = byteAt B i := by
  rw [byteAt_bl, byteAt_bl, bl_append, List.getElem?_append_right (by rw [bl_len]; omega), bl_len, Nat.add_sub_cancel_left]
theorem app_pre (A B : ByteArray) : Pre A (A ++ B) := ⟨by rw [ByteArray.size_append]; omega, by
  rw [app_l A B (Nat.le_refl _)]
  exact (Pre.refl A).2⟩
theorem rcoB_size (j q : ByteArray) : (rcoB j q).size = 1 + q.size := by unfold rcoB; rw [ByteArray.size_append, strOf_size]; rfl
theorem rcoR_size (j q : ByteArray) : (rcoR j q).size = 5 + q.size := by unfold rcoR smA; rw [ByteArray.size_append, fourB_size, rcoB_size]; omega
theorem adR_size (j q : ByteArray) : (adR j q).size = j.size + 5 + q.size := by unfold adR; rw [ByteArray.size_append, rcoR_size]; omega
theorem rec_new {A q : ByteArray} (h4 : 4 ≤ A.size) (h1 : 1 ≤ q.size) (h2 : q.size ≤ 200) (hq : anyB (celA q) 0 q.size = false) {k : Nat} (hk : k + q.size ≤ 4000) :
    recOk (adR A q) A.size k = true ∧ recE (adR A q) A.size + 4 = (adR A q).size ∧ recP (adR A q) A.size = q := by
  have hz := adR_size A q
  have hN : recN (adR A q) A.size = q.size := by
    unfold recN adR
    have e := app_at A (rcoR A q) 0
    rw [Nat.add_zero] at e
    rw [e]
    have e2 : byteAt (rcoR A q) 0 = byteAt (strOf [.int .u8 (IntKind.wrap .u8 ((q.size : Nat) : Int))]) 0 := by
      unfold rcoR smA rcoB
      rw [ByteArray.append_assoc]
      rw [byteAt_bl, byteAt_bl, bl_append, List.getElem?_append_left (by rw [bl_len, strOf_size]; exact Nat.zero_lt_one)]
    rw [e2, byteAt_bl, bl_strOf, IntKind.wrap_u8]
    show ((UInt8.ofNat (((q.size : Nat) : Int) % 256).toNat).toNat : Int).toNat = _
    rw [UInt8.toNat_ofNat']
    omega
  have hE : recE (adR A q) A.size = A.size + (1 + q.size) := by unfold recE; rw [hN]; omega
  have hP : recP (adR A q) A.size = q := by
    unfold recP
    rw [hE]
    unfold adR
    rw [app_r]
    unfold rcoR smA
    rw [app_l _ _ (by rw [rcoB_size]; omega)]
    unfold rcoB
    have := app_r (strOf [.int .u8 (IntKind.wrap .u8 ((q.size : Nat) : Int))]) q 0 q.size
    rw [strOf_size] at this
    rw [show (1 : Nat) = [Value.int .u8 (IntKind.wrap .u8 ((q.size : Nat) : Int))].length + 0 from rfl]
    rw [show [Value.int .u8 (IntKind.wrap .u8 ((q.size : Nat) : Int))].length + 0 + q.size = [Value.int .u8 (IntKind.wrap .u8 ((q.size : Nat) : Int))].length + q.size by omega]
    rw [this]
    exact (Pre.refl q).2
  refine ⟨recOk_iff.2 ⟨by omega, ⟨by omega, by omega, by omega⟩, ?_, by rw [hP]; exact hq, by omega⟩, by omega, hP⟩
  unfold recS
  rw [hE]
  have e1 : (adR A q).extract (A.size - 4) A.size = A.extract (A.size - 4) A.size := by unfold adR; exact app_l _ _ (Nat.le_refl _)
  have e2 : (adR A q).extract A.size (A.size + (1 + q.size)) = rcoB A q := by
    unfold adR
    have := app_r A (rcoR A q) 0 (1 + q.size)
    rw [Nat.add_zero] at this
    rw [this]
    unfold rcoR smA
    rw [← rcoB_size A q, app_l _ _ (Nat.le_refl _)]
    exact (Pre.refl _).2
  have e3 : (adR A q).extract A.size (A.size + (1 + q.size) + 4) = rcoR A q := by
    unfold adR
    have := app_r A (rcoR A q) 0 (rcoR A q).size
    rw [Nat.add_zero] at this
    rw [show A.size + (1 + q.size) + 4 = A.size + (rcoR A q).size by rw [rcoR_size]; omega, this]
    exact (Pre.refl _).2
  rw [e1, e2, e3]
  exact toL_same _
end Go.Proofs.Ytapkbgccbmjfaaa
/- Of journal: a journal of picks that are cut into records, and what is read of bytes that begin with it. No condition. -/
namespace Go.Proofs.Ytapkbgccbmjfaaa
set_option linter.unusedSectionVars false
set_option linter.unusedVariables false
set_option maxRecDepth 100000
def cutN (c : Nat → Nat) (z : Nat) : Nat → Nat
  | 0 => 0
  | i + 1 => cutN c z i + min (c i) (z - cutN c z i)
def chunk (c : Nat → Nat) (p : ByteArray) (i : Nat) : ByteArray := p.extract (cutN c p.size i) (cutN c p.size (i + 1))
def jnl (h p : ByteArray) (c : Nat → Nat) : Nat → ByteArray
  | 0 => h
  | i + 1 => adR (jnl h p c i) (chunk c p i)
theorem Pre.trans {X Y Z : ByteArray} (h1 : Pre X Y) (h2 : Pre Y Z) : Pre X Z := ⟨Nat.le_trans h1.1 h2.1, by
  rw [h2.ext h1.1, h1.2]⟩
theorem pkQ_cel (q : ByteArray) : pkQ (celA q) 0 q.size = q := by
  have h := (pick_eq q).2.2
  unfold pkQ
  rw [Nat.zero_add]
  exact h
theorem byt_cel (q : ByteArray) (h : q.size < 9223372036854775807) : BytR (celA q) 0 q.size := ⟨celA_ok q h, by rw [celA_size]; omega, fun j hj => by
  rw [celA_int q hj]
  exact byteAt_range q j⟩
theorem any_ext {p : ByteArray} {s t : Nat} (ht : t ≤ p.size) (h : anyB (celA p) 0 p.size = false) : anyB (celA (p.extract s t)) 0 (p.extract s t).size = false := by
  have hz : (p.extract s t).size = t - s := by rw [ext_size]; omega
  refine anyB_at.2 fun j hj => ?_
  have h2 := anyB_at.1 h (s + j) (by omega)
  rw [celA_int p (by omega)] at h2
  rw [celA_int _ hj, byteAt_ext (by omega)]
  exact h2
section
variable (h p : ByteArray) (c : Nat → Nat) (hc : ∀ i, 1 ≤ c i ∧ c i ≤ 200)
include hc
theorem cut_le (i : Nat) : cutN c p.size i ≤ p.size := by
  induction i with
  | zero => exact Nat.zero_le _
  | succ i ih => unfold cutN; omega
theorem cut_mono {i k : Nat} (h : i ≤ k) : cutN c p.size i ≤ cutN c p.size k := by
  induction k with
  | zero => obtain rfl : i = 0 := by omega
            exact Nat.le_refl _
  | succ k ih =>
    by_cases e : i = k + 1
    · rw [e]; exact Nat.le_refl _
    · have := ih (by omega)
      have e : cutN c p.size (k + 1) = cutN c p.size k + min (c k) (p.size - cutN c p.size k) := rfl
      omega
theorem cut_step {i : Nat} (h : cutN c p.size i < p.size) : cutN c p.size i < cutN c p.size (i + 1) ∧ cutN c p.size (i + 1) ≤ cutN c p.size i + 200 := by
  have := hc i
  have e : cutN c p.size (i + 1) = cutN c p.size i + min (c i) (p.size - cutN c p.size i) := rfl
  omega
theorem chunk_size (i : Nat) : (chunk c p i).size = cutN c p.size (i + 1) - cutN c p.size i := by
  have := cut_le p c hc (i + 1)
  unfold chunk
  rw [ext_size]
  omega
theorem jnl_succ (i : Nat) : (jnl h p c (i + 1)).size = (jnl h p c i).size + 5 + (cutN c p.size (i + 1) - cutN c p.size i) := by
  show (adR (jnl h p c i) (chunk c p i)).size = _
  rw [adR_size, chunk_size p c hc]
theorem jnl_ge (i : Nat) : h.size + i ≤ (jnl h p c i).size := by
  induction i with
  | zero => exact Nat.le_refl _
  | succ i ih => have := jnl_succ h p c hc i; omega
theorem jnl_mono {i k : Nat} (hk : i ≤ k) : Pre (jnl h p c i) (jnl h p c k) := by
  induction k with
  | zero => obtain rfl : i = 0 := by omega
            exact Pre.refl _
  | succ k ih =>
    by_cases e : i = k + 1
    · rw [e]; exact Pre.refl _
    · exact (ih (by omega)).trans (app_pre _ _)
theorem jnl_le {i : Nat} (hlt : ∀ t, t < i → cutN c p.size t < p.size) : (jnl h p c i).size ≤ h.size + 6 * cutN c p.size i ∧ i ≤ cutN c p.size i := by
  induction i with
  | zero => exact ⟨Nat.le_add_right _ _, Nat.le_refl _⟩
  | succ i ih =>
    have h1 := ih fun t ht => hlt t (by omega)
    have h2 := cut_step p c hc (hlt i (by omega))
    have h3 := jnl_succ h p c hc i
    omega
variable (hh : okJ h = true) (he : endN h + 4 = h.size) (hp4 : p.size ≤ 4000) (ha : anyB (celA p) 0 p.size = false)
include hh he hp4 ha
theorem rec_at {i : Nat} (hi : cutN c p.size i < p.size) : recOk (jnl h p c (i + 1)) (jnl h p c i).size (cutN c p.size i) = true ∧ recE (jnl h p c (i + 1)) (jnl h p c i).size + 4 = (jnl h p c (i + 1)).size ∧ recP (jnl h p c (i + 1)) (jnl h p c i).size = chunk c p i := by
  have h10 := (pre_size (okJ_iff hh).1).1
  have hg := jnl_ge h p c hc i
  have hs := cut_step p c hc hi
  have hz := chunk_size p c hc i
  have hl := cut_le p c hc (i + 1)
  exact rec_new (A := jnl h p c i) (q := chunk c p i) (by omega) (by omega) (by omega) (any_ext hl ha) (by omega)
theorem scan_to (J : ByteArray) : ∀ i, Pre (jnl h p c i) J → (∀ t, t < i → cutN c p.size t < p.size) → ∀ K, scanA J (i + K) (endN h + 4) .empty = scanA J K (jnl h p c i).size (p.extract 0 (cutN c p.size i))
  | 0, hpre, _, K => by
    rw [Nat.zero_add, he]
    have e : p.extract 0 (cutN c p.size 0) = ByteArray.empty := by
      apply ByteArray.ext
      exact Array.eq_empty_of_size_eq_zero (by show (p.extract 0 0).size = 0; rw [ext_size]; omega)
    rw [e]
    rfl
  | i + 1, hpre, hlt, K => by
    have hi := hlt i (by omega)
    have hpi : Pre (jnl h p c i) J := (jnl_mono h p c hc (Nat.le_succ i)).trans hpre
    have ih := scan_to J i hpi (fun t ht => hlt t (by omega)) (K + 1)
    rw [show i + 1 + K = i + (K + 1) by omega, ih]
    obtain ⟨r1, r2, r3⟩ := rec_at h p c hc hh he hp4 ha hi
    obtain ⟨q1, q2, q3⟩ := hpre.hRec r1
    have hl := cut_le p c hc i
    have hz : (p.extract 0 (cutN c p.size i)).size = cutN c p.size i := by rw [ext_size]; omega
    rw [scan_yes (by rw [hz]; exact q1), q2, q3, r2, r3]
    unfold chunk
    rw [ext_app (by omega) (cut_mono p c hc (Nat.le_succ i))]
theorem read_at (J : ByteArray) (i : Nat) (hpre : Pre (jnl h p c i) J) (hlt : ∀ t, t < i → cutN c p.size t < p.size) (hno : recOk J (jnl h p c i).size (cutN c p.size i) = false) :
    okJ J = true ∧ finB J = ((jnl h p c i).size, p.extract 0 (cutN c p.size i)) ∧ cB J = cB h := by
  have hph : Pre h J := (jnl_mono h p c hc (Nat.zero_le i)).trans hpre
  have hp' := (okJ_iff hh).1
  refine ⟨hph.hOk hh, ?_, hph.hBody hp'⟩
  have hJ := hpre.1
  have hg := jnl_ge h p c hc i
  unfold finB
  rw [(hph.hHead hp').2, show J.size + 1 = i + (J.size + 1 - i) by omega, scan_to h p c hc hh he hp4 ha J i hpre hlt]
  have hl := cut_le p c hc i
  have hz : (p.extract 0 (cutN c p.size i)).size = cutN c p.size i := by rw [ext_size]; omega
  exact scan_no (by rw [hz]; exact hno) _
theorem no_at_end (J : ByteArray) (k : Nat) : recOk J J.size k = false := by
  cases e : recOk J J.size k with
  | false => rfl
  | true => have := (recOk_iff.1 e).1; omega
theorem read_all (i : Nat) (hlt : ∀ t, t < i → cutN c p.size t < p.size) : okJ (jnl h p c i) = true ∧ finB (jnl h p c i) = ((jnl h p c i).size, p.extract 0 (cutN c p.size i)) ∧ cB (jnl h p c i) = cB h :=
  read_at h p c hc hh he hp4 ha _ i (Pre.refl _) hlt (no_at_end h p c hc hh he hp4 ha _ _)
theorem add_at (i : Nat) (hlt : ∀ t, t < i + 1 → cutN c p.size t < p.size) : adOk (jnl h p c i) (chunk c p i).size (anyB (celA (chunk c p i)) 0 (chunk c p i).size) = true ∧ adF (jnl h p c i) (chunk c p i).size = true := by
  obtain ⟨r1, r2, _⟩ := read_all h p c hc hh he hp4 ha i fun t ht => hlt t (by omega)
  have hs := cut_step p c hc (hlt i (by omega))
  have hz := chunk_size p c hc i
  have hl := cut_le p c hc (i + 1)
  have hl0 := cut_le p c hc i
  refine ⟨adOk_iff.2 ⟨r1, by rw [r2]; exact Nat.lt_irrefl _, ⟨by omega, by omega⟩, any_ext hl ha⟩, decide_eq_true ?_⟩
  rw [r2, hz]
  show (p.extract 0 (cutN c p.size i)).size + _ ≤ 4000
  rw [ext_size]
  omega
theorem read_part (m i nn : Nat) (hi : i ≤ m) (hlt : ∀ t, t < m → cutN c p.size t < p.size) (h1 : (jnl h p c i).size ≤ nn) (h2 : nn ≤ (jnl h p c m).size) (h3 : i < m → nn < (jnl h p c (i + 1)).size) :
    okJ ((jnl h p c m).extract 0 nn) = true ∧ finB ((jnl h p c m).extract 0 nn) = ((jnl h p c i).size, p.extract 0 (cutN c p.size i)) ∧ cB ((jnl h p c m).extract 0 nn) = cB h := by
  have hz : ((jnl h p c m).extract 0 nn).size = nn := by rw [ext_size]; omega
  have hm := jnl_mono h p c hc hi
  have hpre : Pre (jnl h p c i) ((jnl h p c m).extract 0 nn) := ⟨by omega, by
    rw [ext_ext2, Nat.zero_add, Nat.zero_add, Nat.min_eq_left h1]
    exact hm.2⟩
  refine read_at h p c hc hh he hp4 ha _ i hpre (fun t ht => hlt t (by omega)) ?_
  cases e : recOk ((jnl h p c m).extract 0 nn) (jnl h p c i).size (cutN c p.size i) with
  | false => rfl
  | true =>
    exfalso
    obtain ⟨r1, ⟨_, _, r4⟩, _⟩ := recOk_iff.1 e
    rw [hz] at r1 r4
    have him : i < m := by
      by_cases e' : i = m
      · rw [e'] at r1; omega
      · omega
    have h3 := h3 him
    obtain ⟨_, q2, _⟩ := rec_at h p c hc hh he hp4 ha (hlt i him)
    have hnext := jnl_mono h p c hc (i := i + 1) (k := m) him
    have hsz := jnl_succ h p c hc i
    have hpart : Pre ((jnl h p c m).extract 0 nn) (jnl h p c m) := ⟨by rw [hz]; exact h2, by rw [hz]⟩
    have e1 := hpart.hE (a := (jnl h p c i).size) (by rw [hz]; exact r1)
    have e2 := hnext.hE (a := (jnl h p c i).size) (by omega)
    omega
theorem read_none (m nn : Nat) (h1 : nn < h.size) : okJ ((jnl h p c m).extract 0 nn) = false := by
  cases e : okJ ((jnl h p c m).extract 0 nn) with
  | false => rfl
  | true =>
    exfalso
    have hm := (jnl_mono h p c hc (Nat.zero_le m)).1
    have hm0 : jnl h p c 0 = h := rfl
    rw [hm0] at hm
    have hz : ((jnl h p c m).extract 0 nn).size = nn := by rw [ext_size]; omega
    obtain ⟨s1, s2⟩ := pre_size (okJ_iff e).1
    rw [hz] at s1 s2
    have hpart : Pre ((jnl h p c m).extract 0 nn) (jnl h p c m) := ⟨by rw [hz]; omega, by rw [hz]⟩
    have e1 := hpart.hEnd (by omega)
    have e2 := (jnl_mono h p c hc (Nat.zero_le m)).hEnd (by rw [hm0]; omega)
    rw [hm0] at e2
    omega
end
end Go.Proofs.Ytapkbgccbmjfaaa
/- Of journal: heads of scripts; where records end; cuts. No condition. -/
namespace Go.Proofs.Ytapkbgccbmjfaaa
set_option linter.unusedSectionVars false
set_option linter.unusedVariables false
set_option maxRecDepth 100000
def cutC (w : Bool) (ds : Array Value) (o n i : Nat) : Nat := if w && decide (i < n) then 1 + (intAt ds (o + i)).toNat % 200 else 200
theorem cutC_in (w : Bool) (ds : Array Value) (o n i : Nat) : 1 ≤ cutC w ds o n i ∧ cutC w ds o n i ≤ 200 := by
  unfold cutC
  split <;> omega
def endsA (h p : ByteArray) (c : Nat → Nat) : Nat → Array Value
  | 0 => #[.int .i64 ((h.size : Nat) : Int)]
  | i + 1 => endsA h p c i ++ #[.int .i64 (((jnl h p c (i + 1)).size : Nat) : Int)]
def toldA (p : ByteArray) (c : Nat → Nat) : Nat → Array Value
  | 0 => #[.int .i64 0]
  | i + 1 => toldA p c i ++ #[.int .i64 ((cutN c p.size (i + 1) : Nat) : Int)]
theorem endsA_size (h p : ByteArray) (c : Nat → Nat) : ∀ i, (endsA h p c i).size = i + 1
  | 0 => rfl
  | i + 1 => by
    show (endsA h p c i ++ #[_]).size = _
    rw [Array.size_append, endsA_size h p c i]; rfl
theorem toldA_size (p : ByteArray) (c : Nat → Nat) : ∀ i, (toldA p c i).size = i + 1
  | 0 => rfl
  | i + 1 => by
    show (toldA p c i ++ #[_]).size = _
    rw [Array.size_append, toldA_size p c i]; rfl
theorem endsA_get (h p : ByteArray) (c : Nat → Nat) : ∀ {i t : Nat}, t ≤ i → (endsA h p c i)[t]? = some (.int .i64 (((jnl h p c t).size : Nat) : Int))
  | 0, t, ht => by obtain rfl : t = 0 := by omega
                   rfl
  | i + 1, t, ht => by
    show (endsA h p c i ++ #[_])[t]? = _
    rw [Array.getElem?_append, endsA_size]
    by_cases e : t < i + 1
    · rw [if_pos e]; exact endsA_get h p c (by omega)
    · obtain rfl : t = i + 1 := by omega
      rw [if_neg e, Nat.sub_self]; rfl
theorem toldA_get (p : ByteArray) (c : Nat → Nat) : ∀ {i t : Nat}, t ≤ i → (toldA p c i)[t]? = some (.int .i64 ((cutN c p.size t : Nat) : Int))
  | 0, t, ht => by obtain rfl : t = 0 := by omega
                   rfl
  | i + 1, t, ht => by
    show (toldA p c i ++ #[_])[t]? = _
    rw [Array.getElem?_append, toldA_size]
    by_cases e : t < i + 1
    · rw [if_pos e]; exact toldA_get p c (by omega)
    · obtain rfl : t = i + 1 := by omega
      rw [if_neg e, Nat.sub_self]; rfl
theorem endsA_at (h p : ByteArray) (c : Nat → Nat) {i t : Nat} (ht : t ≤ i) : intAt (endsA h p c i) t = (((jnl h p c t).size : Nat) : Int) ∧ IsInt .i64 (endsA h p c i) t := intAt_is (endsA_get h p c ht)
theorem toldA_at (p : ByteArray) (c : Nat → Nat) {i t : Nat} (ht : t ≤ i) : intAt (toldA p c i) t = ((cutN c p.size t : Nat) : Int) ∧ IsInt .i64 (toldA p c i) t := intAt_is (toldA_get p c ht)
theorem cut_eq {a z n : Nat} {N : Int} (hN : N = (n : Int)) (ha : a ≤ z) (hz : z ≤ 100000) (hn : n ≤ 200) : ari .add .i64 (a : Int) (if ari .sub .i64 ((z : Nat) : Int) (a : Int) < N then ari .sub .i64 ((z : Nat) : Int) (a : Int) else N) = ((a + min n (z - a) : Nat) : Int) := by
  subst hN
  have e : ari .sub .i64 ((z : Nat) : Int) (a : Int) = ((z - a : Nat) : Int) := by rw [ari_sub, Go.IntWalk.i64_in _ (by omega)]; omega
  rw [e]
  by_cases hh : ((z - a : Nat) : Int) < (n : Int)
  · rw [if_pos hh, ari_add, Go.IntWalk.i64_in _ (by omega)]
    omega
  · rw [if_neg hh, ari_add, Go.IntWalk.i64_in _ (by omega)]
    omega
theorem cut_num {x : Int} (h : 0 ≤ x ∧ x ≤ 255) : ari .add .i64 1 (ari .rem .i64 (IntKind.wrap .i64 x) 200) = ((1 + x.toNat % 200 : Nat) : Int) := by
  rw [Go.IntWalk.i64_in x (by omega), ari_rem, Int.tmod_eq_emod_of_nonneg (by omega), ari_add, Go.IntWalk.i64_in _ (by omega)]
  omega
section
variable (P : Int) (o n : Nat) (cs : Array Value) (hm : mayS P o n 0 cs #[] = true) (hS : StrOk cs o n)
include hm hS
theorem head_facts : okJ (hdB (encS P o n 0 cs #[])) = true ∧ endN (hdB (encS P o n 0 cs #[])) + 4 = (hdB (encS P o n 0 cs #[])).size ∧ cB (hdB (encS P o n 0 cs #[])) = encS P o n 0 cs #[] ∧ (hdB (encS P o n 0 cs #[])).size ≤ 4010 ∧
    byteAt (encS P o n 0 cs #[]) 0 = P ∧ numB (encS P o n 0 cs #[]) = n ∧ RowEq (rowP (encS P o n 0 cs #[]) n) cs o n := by
  have hz := enc0_size hm
  have hm' : mayS P o n ByteArray.empty.size cs (celA .empty) = true := by rw [celA_none, none_size]; exact hm
  have k1 := x_P P o n .empty cs hm'
  have k2 := x_n P o n .empty cs hm'
  have k3 := x_left P o n .empty cs hm'
  have k4 := x_ok P o n .empty cs hm'
  have k5 := x_row P o n .empty cs hm' hS
  rw [celA_none, none_size] at k1 k2 k3 k4 k5
  generalize encS P o n 0 cs #[] = e at *
  have htz := twoB_size e.size
  have hm4 : magB.size = 4 := rfl
  have hB : (magB ++ twoB e.size ++ e).size = 6 + e.size := by rw [ByteArray.size_append, ByteArray.size_append, htz]; omega
  have hb4 : byteAt (hdB e) 4 = (e.size % 256 : Nat) ∧ byteAt (hdB e) 5 = (e.size / 256 : Nat) := by
    have e4 := app_at magB (twoB e.size) 0
    have e5 := app_at magB (twoB e.size) 1
    have p1 : Pre (magB ++ twoB e.size) (hdB e) := by
      refine (app_pre (magB ++ twoB e.size) e).trans ?_
      unfold hdB smA
      exact app_pre _ _
    have hz6 : (magB ++ twoB e.size).size = 6 := by rw [ByteArray.size_append, htz]; omega
    rw [p1.at (i := 4) (by omega), p1.at (i := 5) (by omega)]
    rw [show (4 : Nat) = magB.size + 0 from rfl, show (5 : Nat) = magB.size + 1 from rfl, e4, e5]
    refine ⟨?_, ?_⟩
    · rw [byteAt_bl]
      unfold twoB
      rw [bl_strOf, IntKind.wrap_u8]
      show ((UInt8.ofNat (((e.size : Nat) : Int) % 256).toNat).toNat : Int) = _
      rw [UInt8.toNat_ofNat']
      omega
    · rw [byteAt_bl]
      unfold twoB
      rw [bl_strOf, IntKind.wrap_u8]
      have hs : ari .shr .i64 ((e.size : Nat) : Int) 8 = ((e.size / 256 : Nat) : Int) := by
        rw [ari_shr]
        show Int.fdiv ((e.size : Nat) : Int) 256 = _
        rw [Int.fdiv_eq_ediv_of_nonneg _ (by decide)]
        omega
      rw [IntKind.wrap_u8, hs]
      show ((UInt8.ofNat (((e.size / 256 : Nat) : Int) % 256).toNat).toNat : Int) = _
      rw [UInt8.toNat_ofNat']
      omega
  have hE : endN (hdB e) = 6 + e.size := by
    unfold endN
    rw [hb4.1, hb4.2]
    omega
  have hz2 : (hdB e).size = 10 + e.size := by unfold hdB smA; rw [ByteArray.size_append, fourB_size, hB]; omega
  have pB : Pre (magB ++ twoB e.size ++ e) (hdB e) := by unfold hdB smA; exact app_pre _ _
  have x0 : (hdB e).extract 0 (6 + e.size) = magB ++ twoB e.size ++ e := by rw [← hB]; exact pB.2
  have hc : cB (hdB e) = e := by
    unfold cB
    rw [hE, pB.ext (by omega)]
    have := app_r (magB ++ twoB e.size) e 0 e.size
    rw [show (magB ++ twoB e.size).size + 0 = 6 by rw [ByteArray.size_append, htz]; omega, show (magB ++ twoB e.size).size + e.size = 6 + e.size by rw [ByteArray.size_append, htz]; omega] at this
    rw [this]
    exact (Pre.refl e).2
  have hpre : preH (hdB e) = true := by
    unfold preH
    rw [hE, x0, decide_eq_true (p := 6 ≤ (hdB e).size) (by omega), decide_eq_true (p := 6 + e.size + 4 ≤ (hdB e).size) (by omega)]
    have y0 : (hdB e).extract 0 4 = magB := by
      rw [pB.ext (by omega), app_l _ _ (by rw [ByteArray.size_append, htz]; omega), app_l _ _ (show 4 ≤ magB.size from Nat.le_refl _)]
      exact (Pre.refl magB).2
    have y1 : (hdB e).extract 0 (6 + e.size + 4) = smA .empty (magB ++ twoB e.size ++ e) := by
      rw [show 6 + e.size + 4 = (hdB e).size by omega]
      exact (Pre.refl _).2
    rw [y0, y1, toL_same, toL_same]
    rfl
  refine ⟨?_, by omega, hc, by omega, k1, k2, ?_⟩
  · unfold okJ
    rw [hpre, hc, k4, k3]
    rfl
  · exact k5
end
end Go.Proofs.Ytapkbgccbmjfaaa
/- Of journal: law 6: its journals are made. No condition. -/
namespace Go.Proofs.Ytapkbgccbmjfaaa
set_option linter.unusedSectionVars false
set_option linter.unusedVariables false
set_option maxRecDepth 100000
set_option maxHeartbeats 4000000
def BytI (ds : Array Value) (o n : Nat) : Prop := n ≤ 9223372036854775807 ∧ ∀ j, j < n → IsInt .u8 ds (o + j) ∧ 0 ≤ intAt ds (o + j) ∧ intAt ds (o + j) ≤ 255
theorem conK_ok (g : FuncId) (l : List SV) (m : SMem) (t : Tree) (h : conK g l m = some t) : Con E0 g l m t := by
  unfold conK at h
  split at h
  · cases h; exact wakes_con m
  · exact m9T_ok h
  · exact reT_ok h
  · exact adT_ok h
  · exact sameT14_ok h
  · exact greatT_ok h
  · exact encN_ok h
  · exact smT_ok h
  · cases h
theorem EK_ok : EnvOk EK := EnvOk.with E0_ok _ _ conK_ok
theorem EKn_ok : EnvOk EKn := EnvOk.with E0_ok _ _ conK_ok
theorem may_none {P : Int} {o n : Nat} {q : ByteArray} {cs : Array Value} (hm : mayS P o n q.size cs (celA q) = true) : mayS P o n 0 cs #[] = true := by
  unfold mayS at hm ⊢
  simp only [Bool.and_eq_true, decide_eq_true_eq] at hm ⊢
  exact ⟨⟨⟨hm.1.1.1, hm.1.1.2.1, hm.1.1.2.2.1, hm.1.1.2.2.2.1, by omega⟩, hm.1.2⟩, rfl⟩
theorem y6T0_ok : TodoOk (ren 2 [(2, 2), (4, 4), (10, 10), (11, 11)]) y6T0 y6T0 := TodoOk.same (by kernel_rfl)
theorem y6T1_ok0 : TodoOk (ren 2 [(2, 2), (4, 4), (10, 10), (11, 11)]) y6T1 y6T1 := TodoOk.same (by kernel_rfl)
theorem y6H0_ok (i j : Nat) : TodoOk (ren 2 [(2, 2), (4, 4), (5, i), (6, j)]) y6H0 y6H0 := TodoOk.same (by kernel_rfl)
theorem y6T1_ok (i j : Nat) : TodoOk (ren 2 [(2, 2), (4, 4), (5, i), (6, j)]) y6T1 y6T1 := TodoOk.same (by kernel_rfl)
section
variable {w : Bool} {P : Int} {o n : Nat} {q : ByteArray} {o' n' : Nat} {e : Int} {cs ds : Array Value} {ty tz : TypeId}
theorem y6N0_good {A : SV → SMem → Prop} {Q : ByteArray → Prop} (hg : ∀ j, Q j → Good EK.P A 2 (headF (y6F0 w P o n q o' n' e cs ds ty tz j)) (y6M0 P o n q cs ds ty tz j)) {fs : List SFr} {m : SMem} (hb : y6N0 w P o n q o' n' e cs ds ty tz Q fs m) : Good EK.P A 2 fs m := by
  unfold y6N0 at hb
  generalize y6F0 w P o n q o' n' e cs ds ty tz = F at *
  split at hb
  · split at hb
    · split at hb
      · exact Good.of_sub hb.2 (Good.head (hg _ hb.1))
      · exact hb.elim
    · exact hb.elim
  · exact hb.elim
theorem y6N1_good {A : SV → SMem → Prop} {Q : ByteArray → Nat → Array Value → Nat → Array Value → Int → Int → Prop} (hg : ∀ j k es k' ts a i, Q j k es k' ts a i → Good EK.P A 2 (headF (y6F1 w P o n q o' n' e cs ds ty tz j k k' a i)) (y6M1 P o n q cs ds ty tz es ts)) {fs : List SFr} {m : SMem} (hb : y6N1 w P o n q o' n' e cs ds ty tz Q fs m) : Good EK.P A 2 fs m := by
  unfold y6N1 at hb
  generalize y6F1 w P o n q o' n' e cs ds ty tz = F at *
  split at hb
  · split at hb
    · split at hb
      · exact Good.of_sub hb.2 (hg _ _ _ _ _ _ _ hb.1)
      · exact hb.elim
    · exact hb.elim
  · exact hb.elim
end
section
variable (w : Bool) (P : Int) (o n : Nat) (q : ByteArray) (o' n' : Nat) (e : Int) (cs ds : Array Value) (ty tz : TypeId) (hm : mayS P o n q.size cs (celA q) = true) (hS : StrOk cs o n) (hD : w = true → BytI ds o' n')
include hm hS hD
theorem y6_step (t : Nat) (hlt : ∀ t', t' < t + 1 → cutN (cutC w ds o' n') q.size t' < q.size) (A : SV → SMem → Prop)
    (hnext : Good EK.P A 2 (headF (y6F1 w P o n q o' n' e cs ds ty tz (jnl (hdB (encS P o n 0 cs #[])) q (cutC w ds o' n') (t + 1)) (t + 2) (t + 2) ((cutN (cutC w ds o' n') q.size (t + 1) : Nat) : Int) ((t + 1 : Nat) : Int))) (y6M1 P o n q cs ds ty tz (endsA (hdB (encS P o n 0 cs #[])) q (cutC w ds o' n') (t + 1)) (toldA q (cutC w ds o' n') (t + 1)))) (hA : ∀ s m, boolR true s m → A s m) :
    Good EK.P A 2 (headF (y6F1 w P o n q o' n' e cs ds ty tz (jnl (hdB (encS P o n 0 cs #[])) q (cutC w ds o' n') t) (t + 1) (t + 1) ((cutN (cutC w ds o' n') q.size t : Nat) : Int) ((t : Nat) : Int))) (y6M1 P o n q cs ds ty tz (endsA (hdB (encS P o n 0 cs #[])) q (cutC w ds o' n') t) (toldA q (cutC w ds o' n') t)) := by
  obtain ⟨_, _, _, p4, p5, p6, p7⟩ := may_facts P o n q cs hm
  obtain ⟨h1, h2, h3, h4, h5, h6, h7⟩ := head_facts P o n cs (may_none hm) hS
  have hc := cutC_in w ds o' n'
  have hcN : ∀ t, cutC w ds o' n' t = if w && decide (t < n') then 1 + (intAt ds (o' + t)).toNat % 200 else 200 := fun _ => rfl
  unfold endsA toldA at hnext
  generalize hh : hdB (encS P o n 0 cs #[]) = h at *
  generalize cutC w ds o' n' = c at *
  have hti := hlt t (Nat.lt_succ_self t)
  obtain ⟨a1, a2⟩ := add_at h q c hc h1 h2 p5 p7 t hlt
  have hle := jnl_le h q c hc (i := t) fun t' ht => hlt t' (by omega)
  have hcl := cut_le q c hc t
  have hcl1 := cut_le q c hc (t + 1)
  have hcs := cut_step q c hc hti
  have hcz := chunk_size q c hc t
  have hes := endsA_size h q c t
  have hts := toldA_size q c t
  have hj9 : (jnl h q c t).size ≤ 90000 := by omega
  have hi1 : ari .add .i64 (t : Int) 1 = ((t + 1 : Nat) : Int) := by rw [ari_add, Go.IntWalk.i64_in _ (by omega)]; omega
  have hH := y6H0_ok
  have hT := y6T1_ok
  have hbyt : BytR (celA (chunk c q t)) 0 (chunk c q t).size := byt_cel _ (by omega)
  have tst : decide (((cutN c q.size t : Nat) : Int) < ((q.size : Nat) : Int)) = true := decide_eq_true (by omega)
  have key : ∀ N : Int, N = ((c t : Nat) : Int) → ari .add .i64 ((cutN c q.size t : Nat) : Int) (if ari .sub .i64 ((q.size : Nat) : Int) ((cutN c q.size t : Nat) : Int) < N then ari .sub .i64 ((q.size : Nat) : Int) ((cutN c q.size t : Nat) : Int) else N) = ((cutN c q.size (t + 1) : Nat) : Int) := fun N hN => cut_eq hN hcl (by omega) (hc t).2
  have ex : q.extract (cutN c q.size t) (cutN c q.size (t + 1)) = chunk c q t := rfl
  have hjn : adR (jnl h q c t) (chunk c q t) = jnl h q c (t + 1) := rfl
  cases w with
  | true =>
    refine past_T EK_ok 1000 (y6_step_t P o n q o' n' e cs ds ty tz (jnl h q c t) (t + 1) (t + 1) ((cutN c q.size t : Nat) : Int) ((t : Nat) : Int) (endsA h q c t) (toldA q c t) (fun j k es k' ts a i => j = jnl h q c (t + 1) ∧ k = t + 2 ∧ es = endsA h q c t ++ #[Value.int .i64 (((jnl h q c (t + 1)).size : Nat) : Int)] ∧ k' = t + 2 ∧ ts = toldA q c t ++ #[Value.int .i64 ((cutN c q.size (t + 1) : Nat) : Int)] ∧ a = ((cutN c q.size (t + 1) : Nat) : Int) ∧ i = ((t + 1 : Nat) : Int))) ?_ hA (fun fs m hb => y6N1_good (fun j k es k' ts a i ⟨e1, e2, e3, e4, e5, e6, e7⟩ => by rw [e1, e2, e3, e4, e5, e6, e7]; exact hnext) hb)
    clear hnext
    obtain ⟨d1, d2⟩ := hD rfl
    simp only [Int.toNat_natCast, Nat.mul_one]
    rw [hi1]
    refine ⟨tst, fun hi => ?_, fun hi => ?_⟩
    · have hi : t < n' := by have := of_decide_eq_true hi; omega
      obtain ⟨f1, f2, f3⟩ := d2 t hi
      rw [key _ (by rw [cut_num ⟨f2, f3⟩, hcN, Bool.true_and, decide_eq_true hi, if_pos rfl])]
      rw [Int.toNat_natCast, ex, show Array.map (fun b => Value.int IntKind.u8 (↑(UInt8.toNat b) : Int)) (ByteArray.data (chunk c q t)) = celA (chunk c q t) from rfl, pkQ_cel, hjn]
      refine ⟨⟨⟨by omega, by omega⟩, trivial⟩, ⟨f1, trivial⟩, ⟨by omega, by omega, by omega, by omega, trivial⟩, ⟨hj9, hbyt, trivial⟩, fun _ => ⟨fun _ => ⟨⟨⟨by omega, by omega⟩, by omega, trivial⟩, ⟨⟨by omega, by omega⟩, by omega, trivial⟩, ?_⟩, fun h => by rw [a2] at h; cases h⟩, fun h => by rw [a1] at h; cases h⟩
      clear ex hjn key hcN hti hlt
      generalize y6H0 = H at *
      generalize y6T1 = T at *
      repeat' first | exact trivial | exact rfl | exact hH _ _ | exact hT _ _ | apply And.intro
    · have hi : ¬ t < n' := by have := of_decide_eq_false hi; omega
      rw [key _ (by rw [hcN, Bool.true_and, decide_eq_false hi]; rfl)]
      rw [Int.toNat_natCast, ex, show Array.map (fun b => Value.int IntKind.u8 (↑(UInt8.toNat b) : Int)) (ByteArray.data (chunk c q t)) = celA (chunk c q t) from rfl, pkQ_cel, hjn]
      refine ⟨⟨by omega, by omega, by omega, by omega, trivial⟩, ⟨hj9, hbyt, trivial⟩, fun _ => ⟨fun _ => ⟨⟨⟨by omega, by omega⟩, by omega, trivial⟩, ⟨⟨by omega, by omega⟩, by omega, trivial⟩, ?_⟩, fun h => by rw [a2] at h; cases h⟩, fun h => by rw [a1] at h; cases h⟩
      clear ex hjn key hcN hti hlt
      generalize y6H0 = H at *
      generalize y6T1 = T at *
      repeat' first | exact trivial | exact rfl | exact hH _ _ | exact hT _ _ | apply And.intro
  | false =>
    refine past_T EK_ok 1000 (y6_step_f P o n q o' n' e cs ds ty tz (jnl h q c t) (t + 1) (t + 1) ((cutN c q.size t : Nat) : Int) ((t : Nat) : Int) (endsA h q c t) (toldA q c t) (fun j k es k' ts a i => j = jnl h q c (t + 1) ∧ k = t + 2 ∧ es = endsA h q c t ++ #[Value.int .i64 (((jnl h q c (t + 1)).size : Nat) : Int)] ∧ k' = t + 2 ∧ ts = toldA q c t ++ #[Value.int .i64 ((cutN c q.size (t + 1) : Nat) : Int)] ∧ a = ((cutN c q.size (t + 1) : Nat) : Int) ∧ i = ((t + 1 : Nat) : Int))) ?_ hA (fun fs m hb => y6N1_good (fun j k es k' ts a i ⟨e1, e2, e3, e4, e5, e6, e7⟩ => by rw [e1, e2, e3, e4, e5, e6, e7]; exact hnext) hb)
    clear hnext
    simp only [Int.toNat_natCast]
    rw [hi1]
    rw [key _ (by rw [hcN]; rfl)]
    rw [Int.toNat_natCast, ex, show Array.map (fun b => Value.int IntKind.u8 (↑(UInt8.toNat b) : Int)) (ByteArray.data (chunk c q t)) = celA (chunk c q t) from rfl, pkQ_cel, hjn]
    refine ⟨tst, fun h => (by have := of_decide_eq_true h; omega), fun _ => ⟨⟨by omega, by omega, by omega, by omega, trivial⟩, ⟨hj9, hbyt, trivial⟩, fun _ => ⟨fun _ => ⟨⟨⟨by omega, by omega⟩, by omega, trivial⟩, ⟨⟨by omega, by omega⟩, by omega, trivial⟩, ?_⟩, fun h => by rw [a2] at h; cases h⟩, fun h => by rw [a1] at h; cases h⟩⟩
    clear ex hjn key hcN hti hlt
    generalize y6H0 = H at *
    generalize y6T1 = T at *
    repeat' first | exact trivial | exact rfl | exact hH _ _ | exact hT _ _ | apply And.intro
end
end Go.Proofs.Ytapkbgccbmjfaaa
/- Of journal: law 6: its journals' first round, and all of them. No condition. -/
namespace Go.Proofs.Ytapkbgccbmjfaaa
set_option linter.unusedSectionVars false
set_option linter.unusedVariables false
set_option maxRecDepth 100000
set_option maxHeartbeats 4000000
section
variable (w : Bool) (P : Int) (o n : Nat) (q : ByteArray) (o' n' : Nat) (e : Int) (cs ds : Array Value) (ty tz : TypeId) (hm : mayS P o n q.size cs (celA q) = true) (hS : StrOk cs o n) (hD : w = true → BytI ds o' n')
include hm hS hD
theorem y6_first (h0 : 0 < q.size) (A : SV → SMem → Prop) (hA : ∀ s m, boolR true s m → A s m)
    (hnext : Good EK.P A 2 (headF (y6F1 w P o n q o' n' e cs ds ty tz (jnl (hdB (encS P o n 0 cs #[])) q (cutC w ds o' n') 1) 2 2 ((cutN (cutC w ds o' n') q.size 1 : Nat) : Int) 1)) (y6M1 P o n q cs ds ty tz (endsA (hdB (encS P o n 0 cs #[])) q (cutC w ds o' n') 1) (toldA q (cutC w ds o' n') 1))) :
    Good EK.P A 2 (headF (y6F0 w P o n q o' n' e cs ds ty tz (hdB (encS P o n 0 cs #[])))) (y6M0 P o n q cs ds ty tz (hdB (encS P o n 0 cs #[]))) := by
  obtain ⟨_, _, _, p4, p5, p6, p7⟩ := may_facts P o n q cs hm
  obtain ⟨h1, h2, h3, h4, h5, h6, h7⟩ := head_facts P o n cs (may_none hm) hS
  have hc := cutC_in w ds o' n'
  have hcN : ∀ t, cutC w ds o' n' t = if w && decide (t < n') then 1 + (intAt ds (o' + t)).toNat % 200 else 200 := fun _ => rfl
  have hE : endsA (hdB (encS P o n 0 cs #[])) q (cutC w ds o' n') 1 = #[Value.int .i64 (((hdB (encS P o n 0 cs #[])).size : Nat) : Int), Value.int .i64 (((jnl (hdB (encS P o n 0 cs #[])) q (cutC w ds o' n') 1).size : Nat) : Int)] := rfl
  have hL : toldA q (cutC w ds o' n') 1 = #[Value.int .i64 0, Value.int .i64 ((cutN (cutC w ds o' n') q.size 1 : Nat) : Int)] := rfl
  rw [hE, hL] at hnext
  clear hE hL
  generalize hh : hdB (encS P o n 0 cs #[]) = h at *
  generalize cutC w ds o' n' = c at *
  have hti : cutN c q.size 0 < q.size := h0
  obtain ⟨a1, a2⟩ := add_at h q c hc h1 h2 p5 p7 0 (fun t ht => (by obtain rfl : t = 0 := (by omega); exact h0))
  have hcl1 := cut_le q c hc 1
  have hcs := cut_step q c hc hti
  have hcz := chunk_size q c hc 0
  have hc0 : cutN c q.size 0 = 0 := rfl
  have a1 : adOk h (chunk c q 0).size (anyB (celA (chunk c q 0)) 0 (chunk c q 0).size) = true := a1
  have a2 : adF h (chunk c q 0).size = true := a2
  have hj9 : h.size ≤ 90000 := by omega
  have hH := y6H0_ok
  have hT := y6T1_ok
  have hbyt : BytR (celA (chunk c q 0)) 0 (chunk c q 0).size := byt_cel _ (by omega)
  have tst : decide ((0 : Int) < ((q.size : Nat) : Int)) = true := decide_eq_true (by omega)
  have key : ∀ N : Int, N = ((c 0 : Nat) : Int) → ari .add .i64 0 (if ari .sub .i64 ((q.size : Nat) : Int) 0 < N then ari .sub .i64 ((q.size : Nat) : Int) 0 else N) = ((cutN c q.size 1 : Nat) : Int) := fun N hN => by
    have := cut_eq (a := 0) (z := q.size) hN (by omega) (by omega) (hc 0).2
    exact this
  have ex : q.extract 0 (cutN c q.size 1) = chunk c q 0 := rfl
  have hjn : adR h (chunk c q 0) = jnl h q c 1 := rfl
  cases w with
  | true =>
    refine past_T EK_ok 1000 (y6_first_t P o n q o' n' e cs ds ty tz h (fun j k es k' ts a i => j = jnl h q c 1 ∧ k = 2 ∧ es = #[Value.int .i64 ((h.size : Nat) : Int), Value.int .i64 (((jnl h q c 1).size : Nat) : Int)] ∧ k' = 2 ∧ ts = #[Value.int .i64 0, Value.int .i64 ((cutN c q.size 1 : Nat) : Int)] ∧ a = ((cutN c q.size 1 : Nat) : Int) ∧ i = 1)) ?_ hA (fun fs m hb => y6N1_good (fun j k es k' ts a i ⟨e1, e2, e3, e4, e5, e6, e7⟩ => by rw [e1, e2, e3, e4, e5, e6, e7]; exact hnext) hb)
    clear hnext
    obtain ⟨d1, d2⟩ := hD rfl
    refine ⟨tst, fun hi => ?_, fun hi => ?_⟩
    · have hi : 0 < n' := by have := of_decide_eq_true hi; omega
      obtain ⟨f1, f2, f3⟩ := d2 0 hi
      rw [Nat.add_zero] at f1 f2 f3
      rw [key _ (by rw [cut_num ⟨f2, f3⟩, hcN, Bool.true_and, decide_eq_true hi, if_pos rfl, Nat.add_zero])]
      rw [Int.toNat_natCast, ex, show Array.map (fun b => Value.int IntKind.u8 (↑(UInt8.toNat b) : Int)) (ByteArray.data (chunk c q 0)) = celA (chunk c q 0) from rfl, pkQ_cel, hjn]
      refine ⟨⟨⟨by omega, by omega⟩, trivial⟩, ⟨f1, trivial⟩, ⟨by omega, by omega, by omega, trivial⟩, ⟨hj9, hbyt, trivial⟩, fun _ => ⟨fun _ => ?_, fun h => by rw [a2] at h; cases h⟩, fun h => by rw [a1] at h; cases h⟩
      clear ex hjn key hcN hti
      generalize y6H0 = H at *
      generalize y6T1 = T at *
      repeat' first | exact trivial | exact rfl | exact hH _ _ | exact hT _ _ | apply And.intro
    · have hi : ¬ 0 < n' := by have := of_decide_eq_false hi; omega
      rw [key _ (by rw [hcN, Bool.true_and, decide_eq_false hi]; rfl)]
      rw [Int.toNat_natCast, ex, show Array.map (fun b => Value.int IntKind.u8 (↑(UInt8.toNat b) : Int)) (ByteArray.data (chunk c q 0)) = celA (chunk c q 0) from rfl, pkQ_cel, hjn]
      refine ⟨⟨by omega, by omega, by omega, trivial⟩, ⟨hj9, hbyt, trivial⟩, fun _ => ⟨fun _ => ?_, fun h => by rw [a2] at h; cases h⟩, fun h => by rw [a1] at h; cases h⟩
      clear ex hjn key hcN hti
      generalize y6H0 = H at *
      generalize y6T1 = T at *
      repeat' first | exact trivial | exact rfl | exact hH _ _ | exact hT _ _ | apply And.intro
  | false =>
    refine past_T EK_ok 1000 (y6_first_f P o n q o' n' e cs ds ty tz h (fun j k es k' ts a i => j = jnl h q c 1 ∧ k = 2 ∧ es = #[Value.int .i64 ((h.size : Nat) : Int), Value.int .i64 (((jnl h q c 1).size : Nat) : Int)] ∧ k' = 2 ∧ ts = #[Value.int .i64 0, Value.int .i64 ((cutN c q.size 1 : Nat) : Int)] ∧ a = ((cutN c q.size 1 : Nat) : Int) ∧ i = 1)) ?_ hA (fun fs m hb => y6N1_good (fun j k es k' ts a i ⟨e1, e2, e3, e4, e5, e6, e7⟩ => by rw [e1, e2, e3, e4, e5, e6, e7]; exact hnext) hb)
    clear hnext
    rw [key _ (by rw [hcN]; rfl)]
    rw [Int.toNat_natCast, ex, show Array.map (fun b => Value.int IntKind.u8 (↑(UInt8.toNat b) : Int)) (ByteArray.data (chunk c q 0)) = celA (chunk c q 0) from rfl, pkQ_cel, hjn]
    refine ⟨tst, ⟨by omega, by omega, by omega, trivial⟩, ⟨hj9, hbyt, trivial⟩, fun _ => ⟨fun _ => ?_, fun h => by rw [a2] at h; cases h⟩, fun h => by rw [a1] at h; cases h⟩
    clear ex hjn key hcN hti
    generalize y6H0 = H at *
    generalize y6T1 = T at *
    repeat' first | exact trivial | exact rfl | exact hH _ _ | exact hT _ _ | apply And.intro
theorem y6_rounds (A : SV → SMem → Prop) (hA : ∀ s m, boolR true s m → A s m)
    (hend : ∀ m, 1 ≤ m → cutN (cutC w ds o' n') q.size m = q.size → (∀ t, t < m → cutN (cutC w ds o' n') q.size t < q.size) → Good EK.P A 2 (headF (y6F1 w P o n q o' n' e cs ds ty tz (jnl (hdB (encS P o n 0 cs #[])) q (cutC w ds o' n') m) (m + 1) (m + 1) ((cutN (cutC w ds o' n') q.size m : Nat) : Int) ((m : Nat) : Int))) (y6M1 P o n q cs ds ty tz (endsA (hdB (encS P o n 0 cs #[])) q (cutC w ds o' n') m) (toldA q (cutC w ds o' n') m))) :
    ∀ K t, q.size - cutN (cutC w ds o' n') q.size t < K → 1 ≤ t → (∀ t', t' < t → cutN (cutC w ds o' n') q.size t' < q.size) → Good EK.P A 2 (headF (y6F1 w P o n q o' n' e cs ds ty tz (jnl (hdB (encS P o n 0 cs #[])) q (cutC w ds o' n') t) (t + 1) (t + 1) ((cutN (cutC w ds o' n') q.size t : Nat) : Int) ((t : Nat) : Int))) (y6M1 P o n q cs ds ty tz (endsA (hdB (encS P o n 0 cs #[])) q (cutC w ds o' n') t) (toldA q (cutC w ds o' n') t)) := by
  intro K
  induction K with
  | zero => intro t h; omega
  | succ K ih =>
    intro t hk h1 hlt
    have hc := cutC_in w ds o' n'
    have hcl := cut_le q (cutC w ds o' n') hc t
    by_cases e1 : cutN (cutC w ds o' n') q.size t < q.size
    · have hcs := cut_step q (cutC w ds o' n') hc e1
      have hlt' : ∀ t', t' < t + 1 → cutN (cutC w ds o' n') q.size t' < q.size := fun t' ht => by
        by_cases e2 : t' = t
        · rw [e2]; exact e1
        · exact hlt t' (by omega)
      exact y6_step w P o n q o' n' e cs ds ty tz hm hS hD t hlt' A (ih (t + 1) (by omega) (by omega) hlt') hA
    · exact hend t h1 (by omega) hlt
end
end Go.Proofs.Ytapkbgccbmjfaaa
/- Of journal: JournalKeeps behind its journal: states. No condition. -/
namespace Go.Proofs.Ytapkbgccbmjfaaa
noncomputable section
section
variable (w2 w : Bool) (P : Int) (o n : Nat) (q : ByteArray) (o' n' : Nat) (e : Int) (cs ds : Array Value) (ty tz : TypeId)
def k6L : List Nat := (List.range 160).filter fun i => !(Nat.beq i 3 || Nat.beq i 6 || Nat.beq i 8 || Nat.beq i 9 || (Nat.ble 13 i && Nat.ble i 16))
def k6R : Tree := (y6S1 w P o n q o' n' e cs ds ty tz .empty 0 0 0 0 #[] #[]).pick [false, true, true, true, true, true, w2, false]
def pkB (w2 : Bool) (k : Nat) : SC := cond w2 (.f (.slice 9 (.l 0) (.o k) .any)) nilC
def k6F (k k' : Nat) (m i : Int) : List SFr := setSl [(8, .s (.c (.f (.slice 5 (.l 0) (.o k) .any)))), (9, .s (.c (.f (.slice 6 (.l 0) (.o k') .any)))), (13, i64 (.o m)), (14, .s (.c (.f (.ptr 7 (.l 0))))), (16, i64 (.o i))] (dropAll k6L ((k6R w2 w P o n q o' n' e cs ds ty tz).fsE.map SFr.bare))
def k6M (es ts : Array Value) (A : Int) (nn : Nat) (kb : Nat) (z : Int) (t : Bool) (rs bs : Array Value) : SMem :=
  ⟨10, ((((((((Tr.nil.set 0 (some ⟨.raw cs, ty, false⟩)).set 1 (some ⟨.raw ds, tz, false⟩)).set 2 (some (scB P o n q))).set 5 (some ⟨.pop es, 3, true⟩)).set 6 (some ⟨.pop ts, 3, true⟩)).set 7 (some ⟨.ls [.f (.int .i64 (.o A)), .f (.slice 8 (.l 0) (.o nn) .any), pkB w2 kb, .f (.int .i64 (.o z)), .f (.bool (.o t))], 39, true⟩)).set 8 (some ⟨.pop rs, 9, true⟩)).set 9 (cond w2 (some ⟨.pop bs, 5, true⟩) none)), []⟩
def rdYt (m : SMem) (x : SV) : Option (Nat × Int × Nat × Nat × SF × Int × Bool) := match x with
  | .s (.c (.f (.ptr id _))) => match getB m.bl id with
    | some ⟨.ls [.f (.int .i64 a), .f (.slice i _ nn _), .f B, .f (.int .i64 z), .f (.bool t)], _, _⟩ => some (id, a.den, i, nn.den, B, z.den, t.den)
    | _ => none
  | _ => none
def k6N (Q : Int → Int → Nat → Array Value → Nat → Array Value → Int → Bool → Bool → Int → Nat → Array Value → Nat → Array Value → Prop) (fs : List SFr) (m : SMem) : Prop := match fs with
  | f :: _ => match rdI f 13, rdI f 16, rdS f 8 m, rdS f 9 m, f.tm.get 14 with
    | some mm, some i, some (some (sid, k, es)), some (some (tid, k', ts)), some x => match rdYt m x with
      | some (id, a, ri, nn, B, z, t) => match rdA m ri, B with
        | some rs, .lit (.slice none 0 0) => Q mm i k es k' ts z t false a nn rs 0 #[] ∧ subOk 2 [(2, 2), (5, sid), (6, tid), (7, id), (8, ri)] (headF (k6F false w P o n q o' n' e cs ds ty tz k k' mm i)) (k6M false P o n q cs ds ty tz es ts a nn 0 z t rs #[]) fs m
        | some rs, .slice bi _ kb _ => match rdA m bi with
          | some bs => Q mm i k es k' ts z t true a nn rs kb.den bs ∧ subOk 2 [(2, 2), (5, sid), (6, tid), (7, id), (8, ri), (9, bi)] (headF (k6F true w P o n q o' n' e cs ds ty tz k k' mm i)) (k6M true P o n q cs ds ty tz es ts a nn kb.den z t rs bs) fs m
          | none => False
        | _, _ => False
      | none => False
    | _, _, _, _, _ => False
  | [] => False
def k6N0 (Q : Int → Int → Nat → Array Value → Nat → Array Value → Int → Bool → Bool → Int → Nat → Array Value → Nat → Array Value → Prop) (fs : List SFr) (m : SMem) : Prop := match fs with
  | f :: _ => match rdI f 13, rdI f 16, rdS f 8 m, rdS f 9 m, f.tm.get 14 with
    | some mm, some i, some (some (sid, k, es)), some (some (tid, k', ts)), some x => match rdYt m x with
      | some (id, a, ri, nn, B, z, t) => match rdA m ri, B with
        | some rs, .lit (.slice none 0 0) => Q mm i k es k' ts z t false a nn rs 0 #[] ∧ subOk 2 [(2, 2), (5, sid), (6, tid), (7, id), (8, ri)] (k6F false w P o n q o' n' e cs ds ty tz k k' mm i) (k6M false P o n q cs ds ty tz es ts a nn 0 z t rs #[]) fs m
        | some rs, .slice bi _ kb _ => match rdA m bi with
          | some bs => Q mm i k es k' ts z t true a nn rs kb.den bs ∧ subOk 2 [(2, 2), (5, sid), (6, tid), (7, id), (8, ri), (9, bi)] (k6F true w P o n q o' n' e cs ds ty tz k k' mm i) (k6M true P o n q cs ds ty tz es ts a nn kb.den z t rs bs) fs m
          | none => False
        | _, _ => False
      | none => False
    | _, _, _, _, _ => False
  | [] => False
def k6S (k k' : Nat) (mm i : Int) (es ts : Array Value) (A : Int) (nn : Nat) (kb : Nat) (z : Int) (t : Bool) (rs bs : Array Value) : Tree := stepT EK.go (run EK 1000) 2 (headF (k6F w2 w P o n q o' n' e cs ds ty tz k k' mm i)) (k6M w2 P o n q cs ds ty tz es ts A nn kb z t rs bs)
end
def k6T0 : List SIt := headTd (k6F true true 0 0 0 .empty 0 0 0 #[] #[] 0 0 0 0 0 0)
def k6H0 : List SIt := headTd (headF (k6F true true 0 0 0 .empty 0 0 0 #[] #[] 0 0 0 0 0 0))
end
end Go.Proofs.Ytapkbgccbmjfaaa
