/- Of bailiwicklaw03 (handle): the law's known book answers as it should. No condition. -/
import Derived.Test.YtnicipemkcofpaaT11
import Derived.Test.YtnicipemkcofpaaT8
namespace Go.Proofs.Ytnicipemkcofpaa
open Go.RowKit

/-- Two results of a call: a book, a truth. -/
def V2 (c : Array Value) (b : Bool) : Value := .tuple #[.agg c, .bool b]
/-- Three: a book, a handle, a truth. -/
def V3 (c : Array Value) (h : Int) (b : Bool) : Value := .tuple #[.agg c, .int .u32 h, .bool b]

/-- The books of 'wakes'. -/
def k0 : Nat → Nat := fun _ => 0
def k1 : Nat → Nat := upd k0 0 1
def k2 : Nat → Nat := upd k1 1 1
def f3 : Nat → Nat := upd k0 0 1
def k3 : Nat → Nat := upd k2 0 0
def k4 : Nat → Nat := upd k3 0 1

theorem k0_le (j : Nat) : k0 j ≤ 8388607 := Nat.zero_le _
theorem f3_le (j : Nat) : f3 j ≤ 8388607 := by unfold f3 upd k0; split <;> omega
theorem i0 (w : World) : Calls Try.prog 11 #[.agg (bk k0 k0)] w fun e w' => e = .returned (.tuple #[.agg (bk k0 k1), .int .u32 1, .bool true]) ∧ Below w.heap.size w w' := by
  refine (issue_any _ k0 k0 rfl k0_le w).mono ?_
  rintro e w' ⟨rfl, hb⟩
  exact ⟨by rw [issueR_hit (k := 0) (by omega) rfl rfl]; rfl, hb⟩
theorem i1 (w : World) : Calls Try.prog 11 #[.agg (bk k0 k1)] w fun e w' => e = .returned (.tuple #[.agg (bk k0 k2), .int .u32 2, .bool true]) ∧ Below w.heap.size w w' := by
  refine (issue_any _ k0 k1 rfl k0_le w).mono ?_
  rintro e w' ⟨rfl, hb⟩
  exact ⟨by rw [issueR_hit (k := 1) (by omega) (by decide) (by decide)]; rfl, hb⟩
theorem r1 : rslot k0 k2 ((1 : Nat) : Int) 32 = some 0 := rslot_of (f := k0) (g := k2) (i := 0) (by omega) (by decide)
theorem v1 (w : World) : Calls Try.prog 9 #[.agg (bk k0 k2), .int .u32 1] w fun e w' => e = .returned (.tuple #[.agg (bk f3 k3), .bool true]) ∧ Below w.heap.size w w' := by
  refine (void_yes _ k0 k2 1 0 rfl k0_le r1 w).mono ?_
  rintro e w' ⟨rfl, hb⟩
  refine ⟨?_, hb⟩
  have e1 : vf k0 k2 ((1 : Nat) : Int) = f3 := by unfold vf; rw [r1]; rfl
  have e2 : vg k0 k2 ((1 : Nat) : Int) = k3 := by unfold vg; rw [r1]; rfl
  rw [e1, e2]
theorem i2 (w : World) : Calls Try.prog 11 #[.agg (bk f3 k3)] w fun e w' => e = .returned (.tuple #[.agg (bk f3 k4), .int .u32 257, .bool true]) ∧ Below w.heap.size w w' := by
  refine (issue_any _ f3 k3 rfl f3_le w).mono ?_
  rintro e w' ⟨rfl, hb⟩
  exact ⟨by rw [issueR_hit (k := 0) (by omega) rfl (by decide)]; rfl, hb⟩
theorem s257 (w : World) : Calls Try.prog 13 #[.int .u32 257] w fun e w' => e = .returned (.tuple #[.int .i64 0, .bool true]) ∧ w = w' :=
  slot_yes 257 (by omega) (by omega) (by decide) (by decide) w
theorem g257 (w : World) : Calls Try.prog 15 #[.agg (bk f3 k4), .int .u32 257] w fun e w' => e = .returned (.bool true) ∧ Below w.heap.size w w' :=
  good_t _ f3 k4 257 0 rfl f3_le (rslot_of (f := f3) (g := k4) (i := 0) (by omega) (by decide)) w
theorem g1 (w : World) : Calls Try.prog 15 #[.agg (bk f3 k4), .int .u32 1] w fun e w' => e = .returned (.bool false) ∧ Below w.heap.size w w' :=
  good_f _ f3 k4 1 rfl f3_le (by omega) (by decide) w
theorem g1b (w : World) : Calls Try.prog 15 #[.agg (bk k0 k2), .int .u32 1] w fun e w' => e = .returned (.bool true) ∧ Below w.heap.size w w' :=
  good_t _ k0 k2 1 0 rfl k0_le r1 w
theorem l2 (w : World) : Calls Try.prog 18 #[.agg (bk f3 k4)] w fun e w' => ∃ A cap, e = .returned (.slice A 2 cap) ∧ Below w.heap.size w w' :=
  (issued_at _ f3 k4 rfl f3_le w).mono fun e w' ⟨A, cap, he, _, hb⟩ => ⟨A, cap, by rw [he, show (issuedOf f3 k4 32).length = 2 by decide], hb⟩

set_option maxHeartbeats 4000000 in
theorem wakes_any (w : World) : Calls Try.prog 5 #[] w fun e w' => e = .returned (.bool true) ∧ Below w.heap.size w w' := by
  have Z0 := hide zero30b
  have I0 := hide i0
  have I1 := hide i1
  have V1 := hide v1
  have I2 := hide i2
  have S := hide s257
  have G1 := hide g257
  have G2 := hide g1
  have G3 := hide g1b
  have L2 := hide l2
  have hs : ∀ f g, (Try.prog.info? 30).map (·.size) = some (bk f g).size := fun f g => by rw [bk_size]; exact info30
  have hsz : ∀ f g f' g', (bk f g).size = (bk f' g').size := fun f g f' g' => by rw [bk_size, bk_size]
  have N0 := hide (hs k0 k0)
  have N1 := hide (hs k0 k1)
  have N2 := hide (hs k0 k2)
  have N3 := hide (hs f3 k3)
  have N4 := hide (hs f3 k4)
  have T01 := hide (hsz k0 k0 k0 k1)
  have T12 := hide (hsz k0 k1 k0 k2)
  have T03 := hide (hsz k0 k0 f3 k3)
  have T34 := hide (hsz f3 k3 f3 k4)
  have O1 := hide (bk_one k0 k1)
  have O2 := hide (bk_one k0 k2)
  have O3 := hide (bk_one f3 k3)
  have O4 := hide (bk_one f3 k4)
  clear hs hsz
  have hz0 : bk (fun _ => 0) (fun _ => 0) = bk k0 k0 := rfl
  rw [hz0] at Z0
  clear hz0
  generalize bk k0 k0 = b0 at *
  generalize bk k0 k1 = b1 at *
  generalize bk k0 k2 = b2 at *
  generalize bk f3 k3 = c1 at *
  generalize bk f3 k4 = c2 at *
  go_enter Try.func5, Try.ntmps5
  go_upto_region 2 with (refine wpList_allocW rfl 30 rfl b0 Z0.out ?_)
  have K0 := hide (Blk.new w 30 b0)
  have L0 := hide ((Below.refl w.heap.size w).alloc (Nat.le_refl _) (.cells b0 30))
  generalize w.alloc (.cells b0 30) = W0 at K0 L0 ⊢
  go_upto_region 3 with (first
    | (refine wpList_load_rowW rfl 30 (.tmp 1) rfl w.heap.size rfl 30 b0 _ K0.out Try.underlying30 rfl N0.out ?_)
    | (go_at_call 11; refine (I0.out _).mono ?_; rintro e w1 ⟨rfl, hb⟩; have K1 := hide (K0.out.below hb K0.out.lt); have L1 := hide (L0.out.trans (hb.mono L0.out.size)); clear hb)
    | (refine wpList_store_row rfl 30 (.tmp 1) (.tmp 15) rfl w.heap.size b1 rfl rfl 30 b0 K1.out N1.out T01.out O1.out ?_))
  have K2 := hide (K1.out.row_ b1)
  have L2' := hide (below_row L1.out (Nat.le_refl _) b1)
  generalize w1.setRow w.heap.size b1 = W1 at K2 L2' ⊢
  go_upto_region 4 with (first
    | (refine wpList_load_rowW rfl 30 (.tmp 1) rfl w.heap.size rfl 30 b1 _ K2.out Try.underlying30 rfl N1.out ?_)
    | (go_at_call 11; refine (I1.out _).mono ?_; rintro e w2 ⟨rfl, hb⟩; have K3 := hide (K2.out.below hb K2.out.lt); have L3 := hide (L2'.out.trans (hb.mono L2'.out.size)); clear hb)
    | (refine wpList_store_row rfl 30 (.tmp 1) (.tmp 21) rfl w.heap.size b2 rfl rfl 30 b1 K3.out N2.out T12.out O2.out ?_))
  have K4 := hide (K3.out.row_ b2)
  have L4 := hide (below_row L3.out (Nat.le_refl _) b2)
  generalize w2.setRow w.heap.size b2 = W2 at K4 L4 ⊢
  go_upto_region 5 with (first
    | (refine wpList_load_rowW rfl 30 (.tmp 1) rfl w.heap.size rfl 30 b2 _ K4.out Try.underlying30 rfl N2.out ?_)
    | (go_at_call 9; refine (V1.out _).mono ?_; rintro e w3 ⟨rfl, hb⟩; have K5 := hide (K4.out.below hb K4.out.lt); have L5 := hide (L4.out.trans (hb.mono L4.out.size)); clear hb)
    | (refine wpList_allocW rfl 30 rfl b0 Z0.out ?_)
    | (refine wpList_store_row rfl 30 (.tmp 6) (.tmp 27) rfl w3.heap.size c1 rfl rfl 30 b0 (Blk.new w3 30 b0) N3.out T03.out O3.out ?_))
  have hlt3 := K5.out.lt
  have K6 := hide ((K5.out.alloc (.cells b0 30)).rowFar (g' := w3.heap.size) (Nat.ne_of_lt hlt3) c1)
  have M6 := hide ((Blk.new w3 30 b0).row_ c1)
  have L6 := hide (below_row (L5.out.alloc L5.out.size (.cells b0 30)) L5.out.size c1)
  have hle3 := L5.out.size
  generalize (w3.alloc (.cells b0 30)).setRow w3.heap.size c1 = W3 at K6 M6 L6 ⊢
  generalize w3.heap.size = C at K6 M6 L6 hlt3 hle3 ⊢
  go_upto_region 6 with (first
    | (refine wpList_load_rowW rfl 30 (.tmp 6) rfl C rfl 30 c1 _ M6.out Try.underlying30 rfl N3.out ?_)
    | (go_at_call 11; refine (I2.out _).mono ?_; rintro e w4 ⟨rfl, hb⟩; have K7 := hide (K6.out.below hb K6.out.lt); have M7 := hide (M6.out.below hb M6.out.lt); have L7 := hide (L6.out.trans (hb.mono L6.out.size)); clear hb)
    | (refine wpList_store_row rfl 30 (.tmp 6) (.tmp 32) rfl C c2 rfl rfl 30 c1 M7.out N4.out T34.out O4.out ?_))
  have K8 := hide (K7.out.rowFar (g' := C) (Nat.ne_of_lt hlt3) c2)
  have M8 := hide (M7.out.row_ c2)
  have L8 := hide (below_row L7.out hle3 c2)
  generalize w4.setRow C c2 = W4 at K8 M8 L8 ⊢
  go_upto_region 7 with (first
    | (go_at_call 13; refine (S.out _).mono ?_; rintro e w' ⟨rfl, rfl⟩))
  have tok : Hid True := trivial
  go_wp2_with (first
    | (refine wpList_load_rowW rfl 30 (.tmp 6) rfl C rfl 30 c2 _ M11.out Try.underlying30 rfl N4.out ?_)
    | (refine wpList_load_rowW rfl 30 (.tmp 1) rfl w.heap.size rfl 30 b2 _ K10.out Try.underlying30 rfl N2.out ?_)
    | (refine wpList_load_rowW rfl 30 (.tmp 6) rfl C rfl 30 c2 _ M9.out Try.underlying30 rfl N4.out ?_)
    | (refine wpList_load_rowW rfl 30 (.tmp 6) rfl C rfl 30 c2 _ M8.out Try.underlying30 rfl N4.out ?_)
    | (go_at_call 15; (with_reducible refine (G1.out _).mono ?_); rintro e w5 ⟨rfl, hb⟩; have K9 := hide (K8.out.below hb K8.out.lt); have M9 := hide (M8.out.below hb M8.out.lt); have L9 := hide (L8.out.trans (hb.mono L8.out.size)); clear hb)
    | (go_at_call 15; (with_reducible refine (G2.out _).mono ?_); rintro e w6 ⟨rfl, hb⟩; have K10 := hide (K9.out.below hb K9.out.lt); have M10 := hide (M9.out.below hb M9.out.lt); have L10 := hide (L9.out.trans (hb.mono L9.out.size)); clear hb)
    | (go_at_call 15; (with_reducible refine (G3.out _).mono ?_); rintro e w7 ⟨rfl, hb⟩; have M11 := hide (M10.out.below hb M10.out.lt); have L11 := hide (L10.out.trans (hb.mono L10.out.size)); clear hb)
    | (go_at_call 18; refine (L2.out _).mono ?_; rintro e w8 ⟨A, cap, rfl, hb⟩; have L12 := hide (L11.out.trans (hb.mono L11.out.size)); clear hb))
  go_ret
  exact ⟨rfl, L12.out⟩
end Go.Proofs.Ytnicipemkcofpaa
