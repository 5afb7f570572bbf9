/- Of bailiwicklaw03 (handle): the law's body, for all lists that are short enough. Conditions: at most 200 acts, at most 100 generations. -/
import Derived.Test.YtnicipemkcofpaaT12
import Derived.Test.YtnicipemkcofpaaT7
import Derived.Test.YtnicipemkcofpaaT9
import Derived.Deep.CutRange
import Derived.IntWalk
namespace Go.Proofs.Ytnicipemkcofpaa
open Go.RowKit

theorem vb_none {f g : Nat → Nat} {h : Int} (hr : rslot f g h 32 = none) : vb f g h = false := by unfold vb; rw [hr]; rfl
theorem vb_some {f g : Nat → Nat} {h : Int} {i : Nat} (hr : rslot f g h 32 = some i) : vb f g h = true := by unfold vb; rw [hr]; rfl
theorem vf_none {f g : Nat → Nat} {h : Int} (hr : rslot f g h 32 = none) : vf f g h = f := by unfold vf; rw [hr]
theorem vg_none {f g : Nat → Nat} {h : Int} (hr : rslot f g h 32 = none) : vg f g h = g := by unfold vg; rw [hr]
theorem vf_le {f g : Nat → Nat} {h : Int} (hf : ∀ j, f j ≤ 8388607) (j : Nat) : vf f g h j ≤ 8388607 := by
  have h0 := hf j
  cases hr : rslot f g h 32 with
  | none => rw [vf_none hr]; exact h0
  | some i =>
    have h1 := hf i
    have e : vf f g h = if f i = 8388607 then f else upd f i (f i + 1) := by unfold vf; rw [hr]
    rw [e]
    by_cases hl : f i = 8388607
    · rw [if_pos hl]; exact h0
    · rw [if_neg hl]; unfold upd; split <;> omega

/-- A book of the program, by its generations and kinds, and the document's. -/
theorem void_any (f g : Nat → Nat) (h : Nat) (hf : ∀ j, f j ≤ 8388607) (h2 : h < 4294967296) (w : World) :
    Calls Try.prog 9 #[.agg (bk f g), .int .u32 h] w fun e w' => e = .returned (.tuple #[.agg (bk (vf f g h) (vg f g h)), .bool (vb f g h)]) ∧ Below w.heap.size w w' := by
  cases hr : rslot f g h 32 with
  | none =>
    rw [vf_none hr, vg_none hr, vb_none hr]
    exact void_no _ f g h rfl hf h2 hr w
  | some i =>
    rw [vb_some hr]
    exact void_yes _ f g h i rfl hf hr w
theorem rvoid_any (f g : Nat → Nat) (h : Int) (hf : ∀ j, f j ≤ 8388607) (w : World) :
    Calls Try.prog 10 #[.agg (rk f g), .int .i64 h] w fun e w' => e = .returned (.tuple #[.agg (rk (vf f g h) (vg f g h)), .bool (vb f g h)]) ∧ Below w.heap.size w w' := by
  cases hr : rslot f g h 32 with
  | none =>
    rw [vf_none hr, vg_none hr, vb_none hr]
    exact rvoid_no _ f g h rfl hf hr w
  | some i =>
    rw [vb_some hr]
    by_cases hl : f i = 8388607
    · exact rvoid_last _ f g h i rfl hf hr hl w
    · exact rvoid_next _ f g h i rfl hf hr hl w

/-- What is behind Issue: kinds, the handle (0: none). -/
def ig (g : Nat → Nat) : Nat → Nat := match freeAt g 32 with | some i => upd g i 1 | none => g
def ih (f g : Nat → Nat) : Nat := match freeAt g 32 with | some i => 256 * f i + i + 1 | none => 0
def ib (g : Nat → Nat) : Bool := (freeAt g 32).isSome
theorem issue_out (f g : Nat → Nat) (hf : ∀ j, f j ≤ 8388607) (w : World) :
    Calls Try.prog 11 #[.agg (bk f g)] w fun e w' => e = .returned (.tuple #[.agg (bk f (ig g)), .int .u32 (ih f g), .bool (ib g)]) ∧ Below w.heap.size w w' := by
  refine (issue_any _ f g rfl hf w).mono ?_
  rintro e w' ⟨rfl, hb⟩
  refine ⟨?_, hb⟩
  unfold issueR ig ih ib
  cases freeAt g 32 <;> rfl
theorem rissue_out (f g : Nat → Nat) (hf : ∀ j, f j ≤ 8388607) (w : World) :
    Calls Try.prog 12 #[.agg (rk f g)] w fun e w' => e = .returned (.tuple #[.agg (rk f (ig g)), .int .i64 (ih f g)]) ∧ Below w.heap.size w w' := by
  refine (rissue_any _ f g rfl hf w).mono ?_
  rintro e w' ⟨rfl, hb⟩
  refine ⟨?_, hb⟩
  unfold rissueR ig ih
  cases freeAt g 32 with
  | none => rfl
  | some i =>
    have e : i + 256 * f i + 1 = 256 * f i + i + 1 := by omega
    simp only [e]
theorem ib_pos (f g : Nat → Nat) : ib g = decide (0 < ih f g) := by
  unfold ib ih
  cases freeAt g 32 <;> simp
theorem ih_lt (f g : Nat → Nat) (hf : ∀ j, f j ≤ 8388607) : ih f g < 4294967296 := by
  unfold ih
  split
  · rename_i i hi
    have := hf i
    have : i < 32 := by
      unfold freeAt at hi
      have := List.mem_of_find?_eq_some hi
      simpa using this
    omega
  · omega

theorem wp_allocW {P : Program} {o : Oper} {a : Act} {w : World} {K : Act → World → Prop} {Q : Exit → Act → World → Prop} (ty : TypeId) (ho : o.op = .alloc ty) (zs : Array Value)
    (hz : ∀ w, (zeroValue ty).run P w = .ok (.agg zs) w)
    (h : K (a.put o.dst (.pointer (some ⟨w.heap.size, 0, none⟩))) (w.alloc (.cells zs ty))) : o.wp P a w K Q := by
  unfold Oper.wp execOp
  simp only [ho, Instr.alloc, Sem.run_bind, hz, Result.andThen_ok, newVar, newRow, run_newObj, Sem.run_pure, Value.cells]
  exact h

/-- Acts, as they came in. -/
def Acts (w : World) (A : Option Addr) (n : Nat) (ds hs : Nat → Nat) : Prop :=
  0 < n → ∃ b off, A = some ⟨b, off, none⟩ ∧ b < w.heap.size ∧ ∀ j, j < n → w.cell? ⟨b, off + j * 2, none⟩ = some (.int .u8 (ds j)) ∧ w.cell? ⟨b, off + j * 2 + 1, none⟩ = some (.int .u32 (hs j))

/-- The four books of the law: two that go on, two that stay. -/
structure Four (W : World) (p q r s : Nat) (a b c d : Array Value) : Prop where
  p : Blk W p 30 a
  q : Blk W q 34 b
  r : Blk W r 30 c
  s : Blk W s 34 d

theorem Four.below {W W' : World} {p q r s : Nat} {a b c d : Array Value} (h : Four W p q r s a b c d) (hb : Below W.heap.size W W') : Four W' p q r s a b c d :=
  ⟨h.p.below hb h.p.lt, h.q.below hb h.q.lt, h.r.below hb h.r.lt, h.s.below hb h.s.lt⟩
theorem Four.alloc {W : World} {p q r s : Nat} {a b c d : Array Value} (h : Four W p q r s a b c d) (o : Obj) : Four (W.alloc o) p q r s a b c d :=
  ⟨h.p.alloc o, h.q.alloc o, h.r.alloc o, h.s.alloc o⟩
theorem Four.far {W : World} {p q r s : Nat} {a b c d : Array Value} (h : Four W p q r s a b c d) {g : Nat} (hp : p ≠ g) (hq : q ≠ g) (hr : r ≠ g) (hs : s ≠ g) (x : Array Value) : Four (W.setRow g x) p q r s a b c d :=
  ⟨h.p.rowFar hp x, h.q.rowFar hq x, h.r.rowFar hr x, h.s.rowFar hs x⟩
theorem Blk.ne_ {w : World} {g g' : Nat} {t t' : TypeId} {cs cs' : Array Value} (h : Blk w g t cs) (h' : Blk w g' t' cs') (hne : t ≠ t') : g ≠ g' := by
  rintro rfl
  unfold Blk at h h'
  rw [h] at h'
  injection h' with h'
  injection h' with _ ht
  exact hne ht
theorem Four.setP {W : World} {p q r s : Nat} {a b c d : Array Value} (h : Four W p q r s a b c d) (hpr : p < r) (x : Array Value) : Four (W.setRow p x) p q r s x b c d :=
  ⟨h.p.row_ x, h.q.rowFar (h.q.ne_ h.p (by decide)) x, h.r.rowFar (by omega) x, h.s.rowFar (h.s.ne_ h.p (by decide)) x⟩
theorem Four.setQ {W : World} {p q r s : Nat} {a b c d : Array Value} (h : Four W p q r s a b c d) (hqs : q < s) (x : Array Value) : Four (W.setRow q x) p q r s a x c d :=
  ⟨h.p.rowFar (h.p.ne_ h.q (by decide)) x, h.q.row_ x, h.r.rowFar (h.r.ne_ h.q (by decide)) x, h.s.rowFar (by omega) x⟩
/-- A new block, and a row into it. -/
theorem Four.new {W : World} {p q r s : Nat} {a b c d : Array Value} (h : Four W p q r s a b c d) (z x : Array Value) (t : TypeId) : Four ((W.alloc (.cells z t)).setRow W.heap.size x) p q r s a b c d :=
  (h.alloc _).far (Nat.ne_of_lt h.p.lt) (Nat.ne_of_lt h.q.lt) (Nat.ne_of_lt h.r.lt) (Nat.ne_of_lt h.s.lt) x
theorem below_new {W w : World} (h : Below w.heap.size w W) (z x : Array Value) (t : TypeId) : Below w.heap.size w ((W.alloc (.cells z t)).setRow W.heap.size x) := below_row (h.alloc h.size _) h.size x

/-- At a round's head. -/
def Inv (w : World) (P Q R S : Nat) (a b : Array Value) (W : World) : Prop :=
  ∃ f g, (∀ j, f j ≤ 8388607) ∧ Four W P Q R S (bk f g) (rk f g) a b ∧ Below w.heap.size w W

/-- Behind the region in which the two that stay are laid. -/
def Laid (w : World) (P Q : Nat) (a b : Array Value) (x y : Value) (W : World) : Prop :=
  ∃ R S, x = .pointer (some ⟨R, 0, none⟩) ∧ y = .pointer (some ⟨S, 0, none⟩) ∧ P < R ∧ Q < S ∧ Four W P Q R S a b a b ∧ Below w.heap.size w W

set_option maxRecDepth 100000 in
set_option maxHeartbeats 40000000 in
theorem books_head (A : Option Addr) (len cap m : Nat) (zs : List Int) (A2 : Option Addr) (n cap2 : Nat) (ds hs : Nat → Nat) (ask : Nat) (w : World) (hn : n ≤ 200) (hlen : len ≤ 100) (hm : (len ≤ 32 ∧ m = len) ∨ (33 ≤ len ∧ m = 32))
    (hz : Nums w .u32 A len zs) (hw : ∀ j, 0 ≤ zs.getD j 0 ∧ zs.getD j 0 < 4294967296) (hacts : Acts w A2 n ds hs) (hask : ask < 4294967296) (hhs : ∀ j, hs j < 4294967296) :
    Calls Try.prog 3 #[.slice A len cap, .slice A2 n cap2, .int .u32 ask] w fun e w' => e = .returned (.bool true) ∧ Below w.heap.size w w' := by
  have hA : ∀ w1, Below w.heap.size w w1 → Calls Try.prog 6 #[.slice A len cap] w fun e w' => e = .returned (.agg (bk (agesOf zs m) (fun _ => 0))) ∧ Below w.heap.size w w' := fun w1 _ => by
    rcases hm with ⟨h1, rfl⟩ | ⟨h1, rfl⟩
    · exact aged_few A m cap zs w (by omega) h1 hz hw
    · exact aged_many A len cap zs w (by omega) h1 hz hw
  have hRA : ∀ w1, Below w.heap.size w w1 → Calls Try.prog 7 #[.slice A len cap] w1 fun e w' => e = .returned (.agg (rk (agesOf zs m) (fun _ => 0))) ∧ Below w1.heap.size w1 w' := fun w1 hb =>
    raged_any A len cap m zs w1 (by omega) (by omega) (by omega) (by omega) (fun h0 => by
      obtain ⟨b, off, h1, h2, h3⟩ := hz h0
      exact ⟨b, off, h1, Nat.lt_of_lt_of_le h2 hb.size, fun j hj => (hb.cell (p := ⟨b, off + j, none⟩) h2).trans (h3 j hj)⟩) hw
  have HA := hide (hA w (Below.refl _ _))
  have HRA := hide hRA
  have HACT := hide hacts
  have Z0 := hide zero30b
  have Z1 := hide zero34b
  have N0 := hide (show (Try.prog.info? 30).map (·.size) = some (bk (agesOf zs m) (fun _ => 0)).size by rw [bk_size]; exact info30)
  have N1 := hide (show (Try.prog.info? 34).map (·.size) = some (rk (agesOf zs m) (fun _ => 0)).size by rw [rk_size]; exact info34)
  have O0 := hide (bk_one (agesOf zs m) (fun _ => 0))
  have O1 := hide (rk_one (agesOf zs m) (fun _ => 0))
  have T0 := hide (show (bk (fun _ => 0) (fun _ => 0)).size = (bk (agesOf zs m) (fun _ => 0)).size by rw [bk_size, bk_size])
  have T1 := hide (show (rk (fun _ => 0) (fun _ => 0)).size = (rk (agesOf zs m) (fun _ => 0)).size by rw [rk_size, rk_size])
  have HE := hide (show ∃ f g, bk (agesOf zs m) (fun _ => 0) = bk f g ∧ rk (agesOf zs m) (fun _ => 0) = rk f g ∧ ∀ j, f j ≤ 8388607 from ⟨_, _, rfl, rfl, agesOf_le zs m⟩)
  have T64a := hide (bk_size (fun _ => 0) (fun _ => 0))
  have T64b := hide (rk_size (fun _ => 0) (fun _ => 0))
  have HHS := hide hhs
  clear hhs
  generalize bk (agesOf zs m) (fun _ => 0) = a at *
  generalize rk (agesOf zs m) (fun _ => 0) = b at *
  generalize bk (fun _ => 0) (fun _ => 0) = za at *
  generalize rk (fun _ => 0) (fun _ => 0) = zb at *
  clear hA hRA hz hw hacts hm
  go_enter Try.func3, Try.ntmps3
  go_upto_region 4 with (first
    | (go_at_call 6; refine HA.out.mono ?_; rintro e w1 ⟨rfl, hb⟩; have L1 := hide hb; clear hb)
    | (go_at_call 7; refine (HRA.out _ L1.out).mono ?_; rintro e w2 ⟨rfl, hb⟩; have L2 := hide (L1.out.trans (hb.mono L1.out.size)); clear hb)
    | (refine wpList_allocW rfl 30 rfl za Z0.out ?_)
    | (refine wpList_allocW rfl 34 rfl zb Z1.out ?_)
    | (refine wpList_store_row rfl 30 (.tmp 7) (.tmp 36) rfl w2.heap.size a rfl rfl 30 za ((Blk.new w2 30 za).alloc _) N0.out T0.out O0.out ?_)
    | (refine wpList_store_row rfl 34 (.tmp 8) (.tmp 38) rfl _ b rfl rfl 34 zb (Blk.rowFar (Blk.new (w2.alloc (.cells za 30)) 34 zb) (by simp) _) N1.out T1.out O1.out ?_))
  have F7 := hide ((Blk.row_ ((Blk.new w2 30 za).alloc (.cells zb 34)) a).rowFar (g' := (w2.alloc (.cells za 30)).heap.size) (by simp) b)
  have F8 := hide ((Blk.rowFar (Blk.new (w2.alloc (.cells za 30)) 34 zb) (g' := w2.heap.size) (by simp) a).row_ b)
  have L3 := hide (below_row (below_row ((L2.out.alloc L2.out.size (.cells za 30)).alloc (by have := L2.out.size; simp; omega) (.cells zb 34)) L2.out.size a) (g := (w2.alloc (.cells za 30)).heap.size) (by have := L2.out.size; simp; omega) b)
  have hP := L2.out.size
  have hQ : w.heap.size ≤ (w2.alloc (.cells za 30)).heap.size := by simp only [World.size_alloc]; omega
  generalize (((w2.alloc (.cells za 30)).alloc (.cells zb 34)).setRow w2.heap.size a).setRow (w2.alloc (.cells za 30)).heap.size b = W at F7 F8 L3 ⊢
  generalize (w2.alloc (.cells za 30)).heap.size = Q at F7 F8 hQ ⊢
  generalize w2.heap.size = P at F7 F8 hP ⊢
  clear L1 L2 HA HRA
  simp only [Act.put, List.setIfInBounds_toArray, List.set_cons_zero, List.set_cons_succ]
  go_cut [9, 10] from 39 to 40 (fun x y wx => Laid w P Q a b x y wx)
  case first =>
    have hu30 := Try.underlying30
    have hu34 := Try.underlying34
    have hL30 : (Try.prog.info? 30).map (·.size) = some a.toList.length := N0.out
    have hL34 : (Try.prog.info? 34).map (·.size) = some b.toList.length := N1.out
    have S1 : (fun w' : World => w'.rangeAt P 0 a.toList ∧ w'.rangeAt Q 0 b.toList) W.drew := ⟨F7.out.drew.range, F8.out.drew.range⟩
    refine wp_region_noPanic ?_
    refine wp_region_held_drew (S := fun w' => w'.rangeAt P 0 a.toList ∧ w'.rangeAt Q 0 b.toList) (by kernel_rfl) S1 (fun _ => ?_)
    refine wpAnyH_take (i := 0) (v := .agg a) rfl (by kernel_rfl) (by kernel_rfl) (by kernel_rfl) (fun _ _ _ h => h) (yieldsIf_load_mid (by rfl) 30 (.tmp 7) rfl P 0 rfl a.toList _ (fun _ h => h.1) hu30 rfl hL30) S1 ?_
    refine wpAnyH_take (i := 1) (v := .agg b) rfl (by kernel_rfl) (by kernel_rfl) (by kernel_rfl) (fun _ _ _ h => h) (yieldsIf_load_mid (by rfl) 34 (.tmp 8) rfl Q 0 rfl b.toList _ (fun _ h => h.2) hu34 rfl hL34) S1 ?_
    try simp only [Act.put, List.getElem_toArray, List.getElem_cons_succ, List.getElem_cons_zero, List.setIfInBounds_toArray, List.set_cons_zero, List.set_cons_succ]
    refine wpAnyH_ready (rs := [2, 3]) (by kernel_rfl) (by simp) ?_
    refine AllReadyH.cons rfl (fun K hK => ?_) (AllReadyH.cons rfl (fun K hK => ?_) AllReadyH.nil)
    · rw [if_pos (by rfl)]
      try simp only [Act.put, List.getElem_toArray, List.getElem_cons_succ, List.getElem_cons_zero, List.setIfInBounds_toArray, List.set_cons_zero, List.set_cons_succ]
      refine wp_allocW 30 rfl za Z0.out ?_
      refine hK.out _ _ ⟨(F7.out.drew.alloc _).range, (F8.out.drew.alloc _).range⟩ (fun _ => ?_)
      clear hK K
      try simp only [Act.put, List.getElem_toArray, List.getElem_cons_succ, List.getElem_cons_zero, List.setIfInBounds_toArray, List.set_cons_zero, List.set_cons_succ]
      refine wpAnyH_ready (rs := [3]) (by kernel_rfl) (by simp) ?_
      refine AllReadyH.cons rfl (fun K hK => ?_) AllReadyH.nil
      rw [if_pos (by rfl)]
      try simp only [Act.put, List.getElem_toArray, List.getElem_cons_succ, List.getElem_cons_zero, List.setIfInBounds_toArray, List.set_cons_zero, List.set_cons_succ]
      refine wp_allocW 34 rfl zb Z1.out ?_
      refine hK.out _ _ ⟨((F7.out.drew.alloc _).alloc _).range, ((F8.out.drew.alloc _).alloc _).range⟩ (fun _ => ?_)
      clear hK K
      try simp only [Act.put, List.getElem_toArray, List.getElem_cons_succ, List.getElem_cons_zero, List.setIfInBounds_toArray, List.set_cons_zero, List.set_cons_succ]
      have A7 := (F7.out.drew.alloc (.cells za 30)).alloc (.cells zb 34)
      have A8 := (F8.out.drew.alloc (.cells za 30)).alloc (.cells zb 34)
      have X1 := (Blk.new W.drew 30 za).alloc (.cells zb 34)
      have X2 := Blk.new (W.drew.alloc (.cells za 30)) 34 zb
      have LL := (L3.out.drew.alloc L3.out.size (.cells za 30)).alloc (by have := L3.out.size; simp; omega) (.cells zb 34)
      have hPW := F7.out.lt
      have hQW := F8.out.lt
      have hLs := L3.out.size
      have hne : (W.drew.alloc (.cells za 30)).heap.size = W.drew.heap.size + 1 := World.size_alloc _ _
      have hdr : W.drew.heap.size = W.heap.size := rfl
      generalize (W.drew.alloc (.cells za 30)).alloc (.cells zb 34) = W2 at A7 A8 X1 X2 LL ⊢
      generalize (W.drew.alloc (.cells za 30)).heap.size = C2 at X1 X2 hne ⊢
      generalize W.drew.heap.size = C1 at X1 X2 hne hdr ⊢
      refine wpAnyH_ready (rs := [4]) (by kernel_rfl) (by simp) ?_
      refine AllReadyH.cons rfl (fun K hK => ?_) AllReadyH.nil
      rw [if_pos (by rfl)]
      try simp only [Act.put, List.getElem_toArray, List.getElem_cons_succ, List.getElem_cons_zero, List.setIfInBounds_toArray, List.set_cons_zero, List.set_cons_succ]
      refine wp_store_row 30 (.tmp 9) (.tmp 39) rfl C1 a rfl rfl 30 za X1 N0.out T0.out O0.out ?_
      refine hK.out _ _ ⟨(A7.rowFar (by omega) a).range, (A8.rowFar (by omega) a).range⟩ (fun _ => ?_)
      clear hK K
      try simp only [Act.put, List.getElem_toArray, List.getElem_cons_succ, List.getElem_cons_zero, List.setIfInBounds_toArray, List.set_cons_zero, List.set_cons_succ]
      refine wpAnyH_ready (rs := [5]) (by kernel_rfl) (by simp) ?_
      refine AllReadyH.cons rfl (fun K hK => ?_) AllReadyH.nil
      rw [if_pos (by rfl)]
      try simp only [Act.put, List.getElem_toArray, List.getElem_cons_succ, List.getElem_cons_zero, List.setIfInBounds_toArray, List.set_cons_zero, List.set_cons_succ]
      refine wp_store_row 34 (.tmp 10) (.tmp 40) rfl C2 b rfl rfl 34 zb (X2.rowFar (by omega) a) N1.out T1.out O1.out ?_
      refine hK.out _ _ ⟨((A7.rowFar (by omega) a).rowFar (by omega) b).range, ((A8.rowFar (by omega) a).rowFar (by omega) b).range⟩ (fun _ => ?_)
      clear hK K
      try simp only [Act.put, List.getElem_toArray, List.getElem_cons_succ, List.getElem_cons_zero, List.setIfInBounds_toArray, List.set_cons_zero, List.set_cons_succ]
      refine wpAnyH_done (by kernel_rfl) ?_ _
      refine NoPanic.normal ?_
      have q1 : P < C1 := by omega
      have q2 : Q < C2 := by omega
      have q3 : Four ((W2.setRow C1 a).setRow C2 b) P Q C1 C2 a b a b := ⟨(A7.rowFar (by omega) a).rowFar (by omega) b, (A8.rowFar (by omega) a).rowFar (by omega) b, (X1.row_ a).rowFar (by omega) b, (X2.rowFar (by omega) a).row_ b⟩
      have q4 : Below w.heap.size w ((W2.setRow C1 a).setRow C2 b) := below_row (below_row LL (by omega) a) (by omega) b
      have Q3 := hide q3
      have Q4 := hide q4
      clear hne hdr q3 q4 A7 A8 X1 X2 LL hLs S1 hL30 hL34
      go_wp2_with fail
      go_meet
      case rel =>
        exact ⟨C1, C2, rfl, rfl, q1, q2, Q3.out, Q4.out⟩
    · rw [if_pos (by rfl)]
      try simp only [Act.put, List.getElem_toArray, List.getElem_cons_succ, List.getElem_cons_zero, List.setIfInBounds_toArray, List.set_cons_zero, List.set_cons_succ]
      refine wp_allocW 34 rfl zb Z1.out ?_
      refine hK.out _ _ ⟨(F7.out.drew.alloc _).range, (F8.out.drew.alloc _).range⟩ (fun _ => ?_)
      clear hK K
      try simp only [Act.put, List.getElem_toArray, List.getElem_cons_succ, List.getElem_cons_zero, List.setIfInBounds_toArray, List.set_cons_zero, List.set_cons_succ]
      refine wpAnyH_ready (rs := [2]) (by kernel_rfl) (by simp) ?_
      refine AllReadyH.cons rfl (fun K hK => ?_) AllReadyH.nil
      rw [if_pos (by rfl)]
      try simp only [Act.put, List.getElem_toArray, List.getElem_cons_succ, List.getElem_cons_zero, List.setIfInBounds_toArray, List.set_cons_zero, List.set_cons_succ]
      refine wp_allocW 30 rfl za Z0.out ?_
      refine hK.out _ _ ⟨((F7.out.drew.alloc _).alloc _).range, ((F8.out.drew.alloc _).alloc _).range⟩ (fun _ => ?_)
      clear hK K
      try simp only [Act.put, List.getElem_toArray, List.getElem_cons_succ, List.getElem_cons_zero, List.setIfInBounds_toArray, List.set_cons_zero, List.set_cons_succ]
      have A7 := (F7.out.drew.alloc (.cells zb 34)).alloc (.cells za 30)
      have A8 := (F8.out.drew.alloc (.cells zb 34)).alloc (.cells za 30)
      have X1 := (Blk.new W.drew 34 zb).alloc (.cells za 30)
      have X2 := Blk.new (W.drew.alloc (.cells zb 34)) 30 za
      have LL := (L3.out.drew.alloc L3.out.size (.cells zb 34)).alloc (by have := L3.out.size; simp; omega) (.cells za 30)
      have hPW := F7.out.lt
      have hQW := F8.out.lt
      have hLs := L3.out.size
      have hne : (W.drew.alloc (.cells zb 34)).heap.size = W.drew.heap.size + 1 := World.size_alloc _ _
      have hdr : W.drew.heap.size = W.heap.size := rfl
      generalize (W.drew.alloc (.cells zb 34)).alloc (.cells za 30) = W2 at A7 A8 X1 X2 LL ⊢
      generalize (W.drew.alloc (.cells zb 34)).heap.size = C2 at X1 X2 hne ⊢
      generalize W.drew.heap.size = C1 at X1 X2 hne hdr ⊢
      refine wpAnyH_ready (rs := [4]) (by kernel_rfl) (by simp) ?_
      refine AllReadyH.cons rfl (fun K hK => ?_) AllReadyH.nil
      rw [if_pos (by rfl)]
      try simp only [Act.put, List.getElem_toArray, List.getElem_cons_succ, List.getElem_cons_zero, List.setIfInBounds_toArray, List.set_cons_zero, List.set_cons_succ]
      refine wp_store_row 30 (.tmp 9) (.tmp 39) rfl C2 a rfl rfl 30 za X2 N0.out T0.out O0.out ?_
      refine hK.out _ _ ⟨(A7.rowFar (by omega) a).range, (A8.rowFar (by omega) a).range⟩ (fun _ => ?_)
      clear hK K
      try simp only [Act.put, List.getElem_toArray, List.getElem_cons_succ, List.getElem_cons_zero, List.setIfInBounds_toArray, List.set_cons_zero, List.set_cons_succ]
      refine wpAnyH_ready (rs := [5]) (by kernel_rfl) (by simp) ?_
      refine AllReadyH.cons rfl (fun K hK => ?_) AllReadyH.nil
      rw [if_pos (by rfl)]
      try simp only [Act.put, List.getElem_toArray, List.getElem_cons_succ, List.getElem_cons_zero, List.setIfInBounds_toArray, List.set_cons_zero, List.set_cons_succ]
      refine wp_store_row 34 (.tmp 10) (.tmp 40) rfl C1 b rfl rfl 34 zb (X1.rowFar (by omega) a) N1.out T1.out O1.out ?_
      refine hK.out _ _ ⟨((A7.rowFar (by omega) a).rowFar (by omega) b).range, ((A8.rowFar (by omega) a).rowFar (by omega) b).range⟩ (fun _ => ?_)
      clear hK K
      try simp only [Act.put, List.getElem_toArray, List.getElem_cons_succ, List.getElem_cons_zero, List.setIfInBounds_toArray, List.set_cons_zero, List.set_cons_succ]
      refine wpAnyH_done (by kernel_rfl) ?_ _
      refine NoPanic.normal ?_
      have q1 : P < C2 := by omega
      have q2 : Q < C1 := by omega
      have q3 : Four ((W2.setRow C2 a).setRow C1 b) P Q C2 C1 a b a b := ⟨(A7.rowFar (by omega) a).rowFar (by omega) b, (A8.rowFar (by omega) a).rowFar (by omega) b, (X2.row_ a).rowFar (by omega) b, (X1.rowFar (by omega) a).row_ b⟩
      have q4 : Below w.heap.size w ((W2.setRow C2 a).setRow C1 b) := below_row (below_row LL (by omega) a) (by omega) b
      have Q3 := hide q3
      have Q4 := hide q4
      clear hne hdr q3 q4 A7 A8 X1 X2 LL hLs S1 hL30 hL34
      go_wp2_with fail
      go_meet
      case rel =>
        exact ⟨C2, C1, rfl, rfl, q1, q2, Q3.out, Q4.out⟩
  case rest =>
    obtain ⟨R, S, rfl, rfl, hPR, hQS, F, hB⟩ := hcut
    obtain ⟨f0, g0, e1, e2, hf0⟩ := HE.out
    have hstart : Inv w P Q R S a b wc := ⟨f0, g0, hf0, by rw [← e1, ← e2]; exact F, hB⟩
    have HST := hide hstart
    have HSM := hide (same_any a b f0 g0 e1 e2 hf0)
    have hza : za.size = 64 := T64a.out
    have hzb : zb.size = 64 := T64b.out
    have HZA := hide hza
    have HZB := hide hzb
    clear hza hzb hstart e1 e2 hf0 F hB F7 F8 L3 HE
    have hs30 : ∀ f g, (Try.prog.info? 30).map (·.size) = some (bk f g).size := fun f g => by rw [bk_size]; exact info30
    have hs34 : ∀ f g, (Try.prog.info? 34).map (·.size) = some (rk f g).size := fun f g => by rw [rk_size]; exact info34
    have HS30 := hide hs30
    have HS34 := hide hs34
    clear hs30 hs34
    go_wp2
    go_loopw [11] (fun i wr => ∃ k : Nat, k ≤ n ∧ i = .int .i64 k ∧ Inv w P Q R S a b wr) (fun i _ => n - (intOf i).toNat)
    case atStart => exact ⟨0, Nat.zero_le _, rfl, HST.out⟩
    case round =>
      obtain ⟨k, hk, rfl, hinv⟩ := hrel
      have HI := hide hinv
      clear hinv
      by_cases hlt : k < n
      · obtain ⟨f, g, hf, F0, B0⟩ := HI.out
        obtain ⟨ab, off, rfl, hab, hcs⟩ := HACT.out (by omega)
        have c1 := (B0.cell (p := ⟨ab, off + k * 2, none⟩) hab).trans (hcs k hlt).1
        have c2 := (B0.cell (p := ⟨ab, off + k * 2 + 1, none⟩) hab).trans (hcs k hlt).2
        have hh := HHS.out k
        have HF0 := hide F0
        have HB0 := hide B0
        have HFL := hide hf
        clear hcs F0 B0 HI
        by_cases hd0 : ds k = 0
        · rw [hd0] at c1
          go_upto_region 14 with (fail)
          have F1 := hide (HF0.out.alloc (.cells #[.int .u8 0, .int .u32 (hs k : Int)] 37))
          have B1 := hide (HB0.out.alloc HB0.out.size (.cells #[.int .u8 0, .int .u32 (hs k : Int)] 37))
          have cDo := (Blk.new wr 37 #[.int .u8 0, .int .u32 (hs k : Int)]).cell 0
          generalize wr.alloc (.cells #[.int .u8 0, .int .u32 (hs k : Int)] 37) = W1 at F1 B1 cDo ⊢
          have cDo' : W1.cell? ⟨wr.heap.size, 0, none⟩ = some (.int .u8 0) := cDo
          clear cDo c1 c2
          have hlt32 : (hs k) < 4294967296 := hh
          have hf := HFL.out
          have HV := hide (show ∀ w, Calls Try.prog 9 #[.agg (bk f g), .int .u32 ((hs k) : Int)] w _ from void_any f g (hs k) hf hlt32)
          have HRV := hide (show ∀ w, Calls Try.prog 10 #[.agg (rk f g), .int .i64 ((hs k) : Int)] w _ from rvoid_any f g (hs k) hf)
          have HRES := hide (show ∀ W7, Four W7 P Q R S (bk (vf f g (hs k)) (vg f g (hs k))) (rk (vf f g (hs k)) (vg f g (hs k))) a b → Below w.heap.size w W7 → Inv w P Q R S a b W7 from fun W7 hF hB => ⟨_, _, vf_le hf, hF, hB⟩)
          have NA := hide (HS30.out f g)
          have NB := hide (HS34.out f g)
          have hza := HZA.out
          have hzb := HZB.out
          have NC := hide (HS30.out (vf f g (hs k)) (vg f g (hs k)))
          have ND := hide (HS34.out (vf f g (hs k)) (vg f g (hs k)))
          have OC := hide (bk_one (vf f g (hs k)) (vg f g (hs k)))
          have OD := hide (rk_one (vf f g (hs k)) (vg f g (hs k)))
          have TC := hide (show za.size = (bk (vf f g (hs k)) (vg f g (hs k))).size by rw [bk_size]; exact hza)
          have TD := hide (show zb.size = (rk (vf f g (hs k)) (vg f g (hs k))).size by rw [rk_size]; exact hzb)
          have TAC := hide (show (bk f g).size = (bk (vf f g (hs k)) (vg f g (hs k))).size by rw [bk_size, bk_size])
          have TBD := hide (show (rk f g).size = (rk (vf f g (hs k)) (vg f g (hs k))).size by rw [rk_size, rk_size])
          generalize bk (vf f g (hs k)) (vg f g (hs k)) = c1 at HV HRES NC OC TC TAC
          generalize rk (vf f g (hs k)) (vg f g (hs k)) = d1 at HRV HRES ND OD TD TBD
          generalize vb f g (hs k) = v1 at HV HRV
          generalize bk f g = ba at *
          generalize rk f g = ra at *
          clear hf hza hzb
          go_upto_region 16 with (first | (refine wpList_load_rowW rfl 30 (.tmp 7) rfl P rfl 30 ba _ F1.out.p Try.underlying30 rfl NA.out ?_) | (go_at_call 9; refine (HV.out _).mono ?_; rintro e w5 ⟨rfl, hb⟩; have F2 := hide (F1.out.below hb); have B2 := hide (B1.out.trans (hb.mono B1.out.size)); clear hb) | (refine wpList_allocW rfl 30 rfl za Z0.out ?_) | (refine wpList_store_row rfl 30 (.tmp 14) (.tmp 78) rfl w5.heap.size c1 rfl rfl 30 za (Blk.new w5 30 za) NC.out TC.out OC.out ?_))
          have F3 := hide (F2.out.new za c1 30)
          have B3 := hide (below_new B2.out za c1 30)
          have E3 := hide ((Blk.new w5 30 za).row_ c1)
          have hE3 := B2.out.size
          generalize (w5.alloc (.cells za 30)).setRow w5.heap.size c1 = W3 at F3 B3 E3 ⊢
          generalize w5.heap.size = X at E3 hE3 ⊢
          clear F2 B2
          go_upto_region 17 with (first | (refine wpList_load_rowW rfl 34 (.tmp 8) rfl Q rfl 34 ra _ F3.out.q Try.underlying34 rfl NB.out ?_) | (go_at_call 10; refine (HRV.out _).mono ?_; rintro e w6 ⟨rfl, hb⟩; have F4 := hide (F3.out.below hb); have B4 := hide (B3.out.trans (hb.mono B3.out.size)); have E4 := hide (E3.out.below hb E3.out.lt); clear hb) | (refine wpList_allocW rfl 34 rfl zb Z1.out ?_) | (refine wpList_store_row rfl 34 (.tmp 16) (.tmp 84) rfl w6.heap.size d1 rfl rfl 34 zb (Blk.new w6 34 zb) ND.out TD.out OD.out ?_))
          have F5 := hide (F4.out.new zb d1 34)
          have B5 := hide (below_new B4.out zb d1 34)
          have E5 := hide ((E4.out.alloc (.cells zb 34)).rowFar (g' := w6.heap.size) (Nat.ne_of_lt E4.out.lt) d1)
          have G5 := hide ((Blk.new w6 34 zb).row_ d1)
          have hG5 := B4.out.size
          generalize (w6.alloc (.cells zb 34)).setRow w6.heap.size d1 = W5 at F5 B5 E5 G5 ⊢
          have hXY := E4.out.lt
          have hPY := F4.out.p.lt
          have hQY := F4.out.q.lt
          generalize w6.heap.size = Y at G5 hG5 hXY hPY hQY ⊢
          clear F4 B4 E4 F3 B3 E3
          go_upto_region 18 with (first | (refine wpList_load_rowW rfl 30 (.tmp 14) rfl X rfl 30 c1 _ E5.out Try.underlying30 rfl NC.out ?_) | (refine wpList_store_row rfl 30 (.tmp 7) (.tmp 86) rfl P c1 rfl rfl 30 ba F5.out.p NC.out TAC.out OC.out ?_))
          have F6 := hide (F5.out.setP hPR c1)
          have B6 := hide (below_row B5.out hP c1)
          have G6 := hide (G5.out.rowFar (Ne.symm (Nat.ne_of_lt hPY)) c1)
          generalize W5.setRow P c1 = W6 at F6 B6 G6 ⊢
          clear F5 B5 E5 G5
          go_upto_region 19 with (first | (refine wpList_load_rowW rfl 34 (.tmp 16) rfl Y rfl 34 d1 _ G6.out Try.underlying34 rfl ND.out ?_) | (refine wpList_store_row rfl 34 (.tmp 8) (.tmp 87) rfl Q d1 rfl rfl 34 ra F6.out.q ND.out TBD.out OD.out ?_))
          have F7 := hide (F6.out.setQ hQS d1)
          have B7 := hide (below_row B6.out hQ d1)
          generalize W6.setRow Q d1 = W7 at F7 B7 ⊢
          clear F6 B6 G6
          go_wp2
          go_roundw
          case rel => exact ⟨k + 1, by omega, by go_num, HRES.out _ F7.out B7.out⟩
          case measure => simp [intOf]; omega
        · by_cases hd1 : ds k = 1
          · rw [hd1] at c1
            have hsl0 : ∃ sl : Nat, ((hs k : Int) % 32) = (sl : Int) := ⟨hs k % 32, by omega⟩
            obtain ⟨sl, hsl⟩ := hsl0
            have hsl32 : sl < 32 := by omega
            have cQ : (wr.alloc (.cells #[.int .u8 1, .int .u32 (hs k : Int)] 37)).cell? ⟨Q, 32 + sl, none⟩ = some (.int .i64 (g sl)) := ((HF0.out.alloc _).q.cell (32 + sl)).trans (rk_is f g hsl32)
            clear hd0 hd1
            by_cases hg1 : g sl = 1
            · rw [hg1] at cQ
              have hN0 : ∃ hN : Nat, hN = 256 * f sl + sl + 1 := ⟨_, rfl⟩
              obtain ⟨hN, hhN⟩ := hN0
              have hN32 : hN < 4294967296 := by have := HFL.out sl; omega
              have HOF := hide (show ∀ w, Calls Try.prog 8 #[.agg (rk f g), .int .i64 sl] w fun e w' => e = .returned (.int .i64 (hN : Nat)) ∧ Below w.heap.size w w' from hhN ▸ of_any' (rk f g) (f sl) sl hsl32 (HFL.out sl) (rk_gen f g hsl32))
              have FA := hide (HF0.out.alloc (.cells #[.int .u8 1, .int .u32 (hs k : Int)] 37))
              have BA := hide (HB0.out.alloc HB0.out.size (.cells #[.int .u8 1, .int .u32 (hs k : Int)] 37))
              have CA := hide ((Blk.new wr 37 #[.int .u8 1, .int .u32 (hs k : Int)]).cell 0)
              have HHN := hide hhN
              clear hhN hg1
              go_upto_region 14 with (first | (refine wpList_load_rowW rfl 34 (.tmp 8) rfl Q rfl 34 (rk f g) _ FA.out.q Try.underlying34 rfl (HS34.out f g) ?_) | (go_at_call 8; refine (HOF.out _).mono ?_; rintro e w4 ⟨rfl, hb⟩; have F1 := hide (FA.out.below hb); have B1 := hide (BA.out.trans (hb.mono BA.out.size)); have cDo' := (hb.cell (p := ⟨wr.heap.size, 0, none⟩) (by simp)).trans CA.out; clear hb))
              clear cQ c1 c2 hsl FA BA CA
              have cDo : w4.cell? ⟨wr.heap.size, 0, none⟩ = some (.int .u8 1) := cDo'
              clear cDo'
              have hlt32 : hN < 4294967296 := hN32
              have hf := HFL.out
              have HV := hide (show ∀ w, Calls Try.prog 9 #[.agg (bk f g), .int .u32 (hN : Int)] w _ from void_any f g hN hf hlt32)
              have HRV := hide (show ∀ w, Calls Try.prog 10 #[.agg (rk f g), .int .i64 (hN : Int)] w _ from rvoid_any f g hN hf)
              have HRES := hide (show ∀ W7, Four W7 P Q R S (bk (vf f g hN) (vg f g hN)) (rk (vf f g hN) (vg f g hN)) a b → Below w.heap.size w W7 → Inv w P Q R S a b W7 from fun W7 hF hB => ⟨_, _, vf_le hf, hF, hB⟩)
              have NA := hide (HS30.out f g)
              have NB := hide (HS34.out f g)
              have hza := HZA.out
              have hzb := HZB.out
              have NC := hide (HS30.out (vf f g hN) (vg f g hN))
              have ND := hide (HS34.out (vf f g hN) (vg f g hN))
              have OC := hide (bk_one (vf f g hN) (vg f g hN))
              have OD := hide (rk_one (vf f g hN) (vg f g hN))
              have TC := hide (show za.size = (bk (vf f g hN) (vg f g hN)).size by rw [bk_size]; exact hza)
              have TD := hide (show zb.size = (rk (vf f g hN) (vg f g hN)).size by rw [rk_size]; exact hzb)
              have TAC := hide (show (bk f g).size = (bk (vf f g hN) (vg f g hN)).size by rw [bk_size, bk_size])
              have TBD := hide (show (rk f g).size = (rk (vf f g hN) (vg f g hN)).size by rw [rk_size, rk_size])
              generalize bk (vf f g hN) (vg f g hN) = c1 at HV HRES NC OC TC TAC
              generalize rk (vf f g hN) (vg f g hN) = d1 at HRV HRES ND OD TD TBD
              generalize vb f g hN = v1 at HV HRV
              generalize bk f g = ba at *
              generalize rk f g = ra at *
              clear hf hza hzb
              go_upto_region 16 with (first | (refine wpList_load_rowW rfl 30 (.tmp 7) rfl P rfl 30 ba _ F1.out.p Try.underlying30 rfl NA.out ?_) | (go_at_call 9; refine (HV.out _).mono ?_; rintro e w5 ⟨rfl, hb⟩; have F2 := hide (F1.out.below hb); have B2 := hide (B1.out.trans (hb.mono B1.out.size)); clear hb) | (refine wpList_allocW rfl 30 rfl za Z0.out ?_) | (refine wpList_store_row rfl 30 (.tmp 14) (.tmp 78) rfl w5.heap.size c1 rfl rfl 30 za (Blk.new w5 30 za) NC.out TC.out OC.out ?_))
              have F3 := hide (F2.out.new za c1 30)
              have B3 := hide (below_new B2.out za c1 30)
              have E3 := hide ((Blk.new w5 30 za).row_ c1)
              have hE3 := B2.out.size
              generalize (w5.alloc (.cells za 30)).setRow w5.heap.size c1 = W3 at F3 B3 E3 ⊢
              generalize w5.heap.size = X at E3 hE3 ⊢
              clear F2 B2
              go_upto_region 17 with (first | (refine wpList_load_rowW rfl 34 (.tmp 8) rfl Q rfl 34 ra _ F3.out.q Try.underlying34 rfl NB.out ?_) | (go_at_call 10; refine (HRV.out _).mono ?_; rintro e w6 ⟨rfl, hb⟩; have F4 := hide (F3.out.below hb); have B4 := hide (B3.out.trans (hb.mono B3.out.size)); have E4 := hide (E3.out.below hb E3.out.lt); clear hb) | (refine wpList_allocW rfl 34 rfl zb Z1.out ?_) | (refine wpList_store_row rfl 34 (.tmp 16) (.tmp 84) rfl w6.heap.size d1 rfl rfl 34 zb (Blk.new w6 34 zb) ND.out TD.out OD.out ?_))
              have F5 := hide (F4.out.new zb d1 34)
              have B5 := hide (below_new B4.out zb d1 34)
              have E5 := hide ((E4.out.alloc (.cells zb 34)).rowFar (g' := w6.heap.size) (Nat.ne_of_lt E4.out.lt) d1)
              have G5 := hide ((Blk.new w6 34 zb).row_ d1)
              have hG5 := B4.out.size
              generalize (w6.alloc (.cells zb 34)).setRow w6.heap.size d1 = W5 at F5 B5 E5 G5 ⊢
              have hXY := E4.out.lt
              have hPY := F4.out.p.lt
              have hQY := F4.out.q.lt
              generalize w6.heap.size = Y at G5 hG5 hXY hPY hQY ⊢
              clear F4 B4 E4 F3 B3 E3
              go_upto_region 18 with (first | (refine wpList_load_rowW rfl 30 (.tmp 14) rfl X rfl 30 c1 _ E5.out Try.underlying30 rfl NC.out ?_) | (refine wpList_store_row rfl 30 (.tmp 7) (.tmp 86) rfl P c1 rfl rfl 30 ba F5.out.p NC.out TAC.out OC.out ?_))
              have F6 := hide (F5.out.setP hPR c1)
              have B6 := hide (below_row B5.out hP c1)
              have G6 := hide (G5.out.rowFar (Ne.symm (Nat.ne_of_lt hPY)) c1)
              generalize W5.setRow P c1 = W6 at F6 B6 G6 ⊢
              clear F5 B5 E5 G5
              go_upto_region 19 with (first | (refine wpList_load_rowW rfl 34 (.tmp 16) rfl Y rfl 34 d1 _ G6.out Try.underlying34 rfl ND.out ?_) | (refine wpList_store_row rfl 34 (.tmp 8) (.tmp 87) rfl Q d1 rfl rfl 34 ra F6.out.q ND.out TBD.out OD.out ?_))
              have F7 := hide (F6.out.setQ hQS d1)
              have B7 := hide (below_row B6.out hQ d1)
              generalize W6.setRow Q d1 = W7 at F7 B7 ⊢
              clear F6 B6 G6
              go_wp2
              go_roundw
              case rel => exact ⟨k + 1, by omega, by go_num, HRES.out _ F7.out B7.out⟩
              case measure => simp [intOf]; omega
            · have hq : ((g sl : Int) == 1) = false := by simp; omega
              clear hg1
              go_upto_region 14 with (fail)
              have F1 := hide (HF0.out.alloc (.cells #[.int .u8 1, .int .u32 (hs k : Int)] 37))
              have B1 := hide (HB0.out.alloc HB0.out.size (.cells #[.int .u8 1, .int .u32 (hs k : Int)] 37))
              have cDo := (Blk.new wr 37 #[.int .u8 1, .int .u32 (hs k : Int)]).cell 0
              clear cQ hq
              generalize wr.alloc (.cells #[.int .u8 1, .int .u32 (hs k : Int)] 37) = W1 at F1 B1 cDo ⊢
              have cDo' : W1.cell? ⟨wr.heap.size, 0, none⟩ = some (.int .u8 1) := cDo
              clear cDo c1 c2 hsl
              have hlt32 : ((0 : Nat)) < 4294967296 := (by omega)
              have hf := HFL.out
              have HV := hide (show ∀ w, Calls Try.prog 9 #[.agg (bk f g), .int .u32 (((0 : Nat)) : Int)] w _ from void_any f g ((0 : Nat)) hf hlt32)
              have HRV := hide (show ∀ w, Calls Try.prog 10 #[.agg (rk f g), .int .i64 (((0 : Nat)) : Int)] w _ from rvoid_any f g ((0 : Nat)) hf)
              have HRES := hide (show ∀ W7, Four W7 P Q R S (bk (vf f g ((0 : Nat))) (vg f g ((0 : Nat)))) (rk (vf f g ((0 : Nat))) (vg f g ((0 : Nat)))) a b → Below w.heap.size w W7 → Inv w P Q R S a b W7 from fun W7 hF hB => ⟨_, _, vf_le hf, hF, hB⟩)
              have NA := hide (HS30.out f g)
              have NB := hide (HS34.out f g)
              have hza := HZA.out
              have hzb := HZB.out
              have NC := hide (HS30.out (vf f g ((0 : Nat))) (vg f g ((0 : Nat))))
              have ND := hide (HS34.out (vf f g ((0 : Nat))) (vg f g ((0 : Nat))))
              have OC := hide (bk_one (vf f g ((0 : Nat))) (vg f g ((0 : Nat))))
              have OD := hide (rk_one (vf f g ((0 : Nat))) (vg f g ((0 : Nat))))
              have TC := hide (show za.size = (bk (vf f g ((0 : Nat))) (vg f g ((0 : Nat)))).size by rw [bk_size]; exact hza)
              have TD := hide (show zb.size = (rk (vf f g ((0 : Nat))) (vg f g ((0 : Nat)))).size by rw [rk_size]; exact hzb)
              have TAC := hide (show (bk f g).size = (bk (vf f g ((0 : Nat))) (vg f g ((0 : Nat)))).size by rw [bk_size, bk_size])
              have TBD := hide (show (rk f g).size = (rk (vf f g ((0 : Nat))) (vg f g ((0 : Nat)))).size by rw [rk_size, rk_size])
              generalize bk (vf f g ((0 : Nat))) (vg f g ((0 : Nat))) = c1 at HV HRES NC OC TC TAC
              generalize rk (vf f g ((0 : Nat))) (vg f g ((0 : Nat))) = d1 at HRV HRES ND OD TD TBD
              generalize vb f g ((0 : Nat)) = v1 at HV HRV
              generalize bk f g = ba at *
              generalize rk f g = ra at *
              clear hf hza hzb
              go_upto_region 16 with (first | (refine wpList_load_rowW rfl 30 (.tmp 7) rfl P rfl 30 ba _ F1.out.p Try.underlying30 rfl NA.out ?_) | (go_at_call 9; refine (HV.out _).mono ?_; rintro e w5 ⟨rfl, hb⟩; have F2 := hide (F1.out.below hb); have B2 := hide (B1.out.trans (hb.mono B1.out.size)); clear hb) | (refine wpList_allocW rfl 30 rfl za Z0.out ?_) | (refine wpList_store_row rfl 30 (.tmp 14) (.tmp 78) rfl w5.heap.size c1 rfl rfl 30 za (Blk.new w5 30 za) NC.out TC.out OC.out ?_))
              have F3 := hide (F2.out.new za c1 30)
              have B3 := hide (below_new B2.out za c1 30)
              have E3 := hide ((Blk.new w5 30 za).row_ c1)
              have hE3 := B2.out.size
              generalize (w5.alloc (.cells za 30)).setRow w5.heap.size c1 = W3 at F3 B3 E3 ⊢
              generalize w5.heap.size = X at E3 hE3 ⊢
              clear F2 B2
              go_upto_region 17 with (first | (refine wpList_load_rowW rfl 34 (.tmp 8) rfl Q rfl 34 ra _ F3.out.q Try.underlying34 rfl NB.out ?_) | (go_at_call 10; refine (HRV.out _).mono ?_; rintro e w6 ⟨rfl, hb⟩; have F4 := hide (F3.out.below hb); have B4 := hide (B3.out.trans (hb.mono B3.out.size)); have E4 := hide (E3.out.below hb E3.out.lt); clear hb) | (refine wpList_allocW rfl 34 rfl zb Z1.out ?_) | (refine wpList_store_row rfl 34 (.tmp 16) (.tmp 84) rfl w6.heap.size d1 rfl rfl 34 zb (Blk.new w6 34 zb) ND.out TD.out OD.out ?_))
              have F5 := hide (F4.out.new zb d1 34)
              have B5 := hide (below_new B4.out zb d1 34)
              have E5 := hide ((E4.out.alloc (.cells zb 34)).rowFar (g' := w6.heap.size) (Nat.ne_of_lt E4.out.lt) d1)
              have G5 := hide ((Blk.new w6 34 zb).row_ d1)
              have hG5 := B4.out.size
              generalize (w6.alloc (.cells zb 34)).setRow w6.heap.size d1 = W5 at F5 B5 E5 G5 ⊢
              have hXY := E4.out.lt
              have hPY := F4.out.p.lt
              have hQY := F4.out.q.lt
              generalize w6.heap.size = Y at G5 hG5 hXY hPY hQY ⊢
              clear F4 B4 E4 F3 B3 E3
              go_upto_region 18 with (first | (refine wpList_load_rowW rfl 30 (.tmp 14) rfl X rfl 30 c1 _ E5.out Try.underlying30 rfl NC.out ?_) | (refine wpList_store_row rfl 30 (.tmp 7) (.tmp 86) rfl P c1 rfl rfl 30 ba F5.out.p NC.out TAC.out OC.out ?_))
              have F6 := hide (F5.out.setP hPR c1)
              have B6 := hide (below_row B5.out hP c1)
              have G6 := hide (G5.out.rowFar (Ne.symm (Nat.ne_of_lt hPY)) c1)
              generalize W5.setRow P c1 = W6 at F6 B6 G6 ⊢
              clear F5 B5 E5 G5
              go_upto_region 19 with (first | (refine wpList_load_rowW rfl 34 (.tmp 16) rfl Y rfl 34 d1 _ G6.out Try.underlying34 rfl ND.out ?_) | (refine wpList_store_row rfl 34 (.tmp 8) (.tmp 87) rfl Q d1 rfl rfl 34 ra F6.out.q ND.out TBD.out OD.out ?_))
              have F7 := hide (F6.out.setQ hQS d1)
              have B7 := hide (below_row B6.out hQ d1)
              generalize W6.setRow Q d1 = W7 at F7 B7 ⊢
              clear F6 B6 G6
              go_wp2
              go_roundw
              case rel => exact ⟨k + 1, by omega, by go_num, HRES.out _ F7.out B7.out⟩
              case measure => simp [intOf]; omega
          · have hd2 : ¬ (ds k : Int) < 2 := by omega
            have hd3 : ((ds k : Int) == 1) = false := by simp; omega
            clear hd0 hd1
            by_cases hpos : 0 < ih f g
            · have hib : ib g = true := by rw [ib_pos f g]; simp; omega
              have hf := HFL.out
              have HV := hide (show ∀ w, Calls Try.prog 11 #[.agg (bk f g)] w fun e w' => e = .returned (.tuple #[.agg (bk f (ig g)), .int .u32 (ih f g), .bool true]) ∧ Below w.heap.size w w' from hib ▸ issue_out f g hf)
              have HRV := hide (rissue_out f g hf)
              have HRES := hide (show ∀ W7, Four W7 P Q R S (bk f (ig g)) (rk f (ig g)) a b → Below w.heap.size w W7 → Inv w P Q R S a b W7 from fun W7 hF hB => ⟨f, ig g, hf, hF, hB⟩)
              have NA := hide (HS30.out f g)
              have NB := hide (HS34.out f g)
              have hza := HZA.out
              have hzb := HZB.out
              have NC := hide (HS30.out f (ig g))
              have ND := hide (HS34.out f (ig g))
              have OC := hide (bk_one f (ig g))
              have OD := hide (rk_one f (ig g))
              have TC := hide (show za.size = (bk f (ig g)).size by rw [bk_size]; exact hza)
              have TD := hide (show zb.size = (rk f (ig g)).size by rw [rk_size]; exact hzb)
              have TAC := hide (show (bk f g).size = (bk f (ig g)).size by rw [bk_size, bk_size])
              have TBD := hide (show (rk f g).size = (rk f (ig g)).size by rw [rk_size, rk_size])
              have hN32 := ih_lt f g hf
              generalize bk f (ig g) = c1 at HV HRES NC OC TC TAC
              generalize rk f (ig g) = d1 at HRV HRES ND OD TD TBD
              generalize ih f g = hN at HV HRV hN32 hpos
              generalize bk f g = ba at *
              generalize rk f g = ra at *
              clear hza hzb hf hib
              go_upto_region 21 with (fail)
              have F1 := hide (HF0.out.alloc (.cells #[.int .u8 (ds k : Int), .int .u32 (hs k : Int)] 37))
              have B1 := hide (HB0.out.alloc HB0.out.size (.cells #[.int .u8 (ds k : Int), .int .u32 (hs k : Int)] 37))
              generalize wr.alloc (.cells #[.int .u8 (ds k : Int), .int .u32 (hs k : Int)] 37) = W1 at F1 B1 ⊢
              clear c2
              go_upto_region 22 with (first | (refine wpList_load_rowW rfl 30 (.tmp 7) rfl P rfl 30 ba _ F1.out.p Try.underlying30 rfl NA.out ?_) | (go_at_call 11; refine (HV.out _).mono ?_; rintro e w5 ⟨rfl, hb⟩; have F2 := hide (F1.out.below hb); have B2 := hide (B1.out.trans (hb.mono B1.out.size)); clear hb) | (refine wpList_allocW rfl 30 rfl za Z0.out ?_) | (refine wpList_store_row rfl 30 (.tmp 18) (.tmp 94) rfl w5.heap.size c1 rfl rfl 30 za (Blk.new w5 30 za) NC.out TC.out OC.out ?_))
              have F3 := hide (F2.out.new za c1 30)
              have B3 := hide (below_new B2.out za c1 30)
              have E3 := hide ((Blk.new w5 30 za).row_ c1)
              have hE3 := B2.out.size
              generalize (w5.alloc (.cells za 30)).setRow w5.heap.size c1 = W3 at F3 B3 E3 ⊢
              generalize w5.heap.size = X at E3 hE3 ⊢
              clear F2 B2
              go_upto_region 23 with (first | (refine wpList_load_rowW rfl 34 (.tmp 8) rfl Q rfl 34 ra _ F3.out.q Try.underlying34 rfl NB.out ?_) | (go_at_call 12; refine (HRV.out _).mono ?_; rintro e w6 ⟨rfl, hb⟩; have F4 := hide (F3.out.below hb); have B4 := hide (B3.out.trans (hb.mono B3.out.size)); have E4 := hide (E3.out.below hb E3.out.lt); clear hb) | (refine wpList_allocW rfl 34 rfl zb Z1.out ?_) | (refine wpList_store_row rfl 34 (.tmp 21) (.tmp 100) rfl w6.heap.size d1 rfl rfl 34 zb (Blk.new w6 34 zb) ND.out TD.out OD.out ?_))
              have F5 := hide (F4.out.new zb d1 34)
              have B5 := hide (below_new B4.out zb d1 34)
              have E5 := hide ((E4.out.alloc (.cells zb 34)).rowFar (g' := w6.heap.size) (Nat.ne_of_lt E4.out.lt) d1)
              have G5 := hide ((Blk.new w6 34 zb).row_ d1)
              have hG5 := B4.out.size
              generalize (w6.alloc (.cells zb 34)).setRow w6.heap.size d1 = W5 at F5 B5 E5 G5 ⊢
              have hXY := E4.out.lt
              have hPY := F4.out.p.lt
              have hQY := F4.out.q.lt
              generalize w6.heap.size = Y at G5 hG5 hXY hPY hQY ⊢
              clear F4 B4 E4 F3 B3 E3
              go_upto_region 24 with (first | (refine wpList_load_rowW rfl 30 (.tmp 18) rfl X rfl 30 c1 _ E5.out Try.underlying30 rfl NC.out ?_) | (refine wpList_store_row rfl 30 (.tmp 7) (.tmp 102) rfl P c1 rfl rfl 30 ba F5.out.p NC.out TAC.out OC.out ?_))
              have F6 := hide (F5.out.setP hPR c1)
              have B6 := hide (below_row B5.out hP c1)
              have G6 := hide (G5.out.rowFar (Ne.symm (Nat.ne_of_lt hPY)) c1)
              generalize W5.setRow P c1 = W6 at F6 B6 G6 ⊢
              clear F5 B5 E5 G5
              go_upto_region 25 with (first | (refine wpList_load_rowW rfl 34 (.tmp 21) rfl Y rfl 34 d1 _ G6.out Try.underlying34 rfl ND.out ?_) | (refine wpList_store_row rfl 34 (.tmp 8) (.tmp 103) rfl Q d1 rfl rfl 34 ra F6.out.q ND.out TBD.out OD.out ?_))
              have F7 := hide (F6.out.setQ hQS d1)
              have B7 := hide (below_row B6.out hQ d1)
              generalize W6.setRow Q d1 = W7 at F7 B7 ⊢
              clear F6 B6 G6
              go_wp2
              go_roundw
              case rel => exact ⟨k + 1, by omega, by go_num, HRES.out _ F7.out B7.out⟩
              case measure => simp [intOf]; omega
            · have hib : ib g = false := by rw [ib_pos f g]; simp; omega
              have hf := HFL.out
              have HV := hide (show ∀ w, Calls Try.prog 11 #[.agg (bk f g)] w fun e w' => e = .returned (.tuple #[.agg (bk f (ig g)), .int .u32 (ih f g), .bool false]) ∧ Below w.heap.size w w' from hib ▸ issue_out f g hf)
              have HRV := hide (rissue_out f g hf)
              have HRES := hide (show ∀ W7, Four W7 P Q R S (bk f (ig g)) (rk f (ig g)) a b → Below w.heap.size w W7 → Inv w P Q R S a b W7 from fun W7 hF hB => ⟨f, ig g, hf, hF, hB⟩)
              have NA := hide (HS30.out f g)
              have NB := hide (HS34.out f g)
              have hza := HZA.out
              have hzb := HZB.out
              have NC := hide (HS30.out f (ig g))
              have ND := hide (HS34.out f (ig g))
              have OC := hide (bk_one f (ig g))
              have OD := hide (rk_one f (ig g))
              have TC := hide (show za.size = (bk f (ig g)).size by rw [bk_size]; exact hza)
              have TD := hide (show zb.size = (rk f (ig g)).size by rw [rk_size]; exact hzb)
              have TAC := hide (show (bk f g).size = (bk f (ig g)).size by rw [bk_size, bk_size])
              have TBD := hide (show (rk f g).size = (rk f (ig g)).size by rw [rk_size, rk_size])
              have hN32 := ih_lt f g hf
              generalize bk f (ig g) = c1 at HV HRES NC OC TC TAC
              generalize rk f (ig g) = d1 at HRV HRES ND OD TD TBD
              generalize ih f g = hN at HV HRV hN32 hpos
              generalize bk f g = ba at *
              generalize rk f g = ra at *
              clear hza hzb hf hib
              go_upto_region 21 with (fail)
              have F1 := hide (HF0.out.alloc (.cells #[.int .u8 (ds k : Int), .int .u32 (hs k : Int)] 37))
              have B1 := hide (HB0.out.alloc HB0.out.size (.cells #[.int .u8 (ds k : Int), .int .u32 (hs k : Int)] 37))
              generalize wr.alloc (.cells #[.int .u8 (ds k : Int), .int .u32 (hs k : Int)] 37) = W1 at F1 B1 ⊢
              clear c2
              go_upto_region 22 with (first | (refine wpList_load_rowW rfl 30 (.tmp 7) rfl P rfl 30 ba _ F1.out.p Try.underlying30 rfl NA.out ?_) | (go_at_call 11; refine (HV.out _).mono ?_; rintro e w5 ⟨rfl, hb⟩; have F2 := hide (F1.out.below hb); have B2 := hide (B1.out.trans (hb.mono B1.out.size)); clear hb) | (refine wpList_allocW rfl 30 rfl za Z0.out ?_) | (refine wpList_store_row rfl 30 (.tmp 18) (.tmp 94) rfl w5.heap.size c1 rfl rfl 30 za (Blk.new w5 30 za) NC.out TC.out OC.out ?_))
              have F3 := hide (F2.out.new za c1 30)
              have B3 := hide (below_new B2.out za c1 30)
              have E3 := hide ((Blk.new w5 30 za).row_ c1)
              have hE3 := B2.out.size
              generalize (w5.alloc (.cells za 30)).setRow w5.heap.size c1 = W3 at F3 B3 E3 ⊢
              generalize w5.heap.size = X at E3 hE3 ⊢
              clear F2 B2
              go_upto_region 23 with (first | (refine wpList_load_rowW rfl 34 (.tmp 8) rfl Q rfl 34 ra _ F3.out.q Try.underlying34 rfl NB.out ?_) | (go_at_call 12; refine (HRV.out _).mono ?_; rintro e w6 ⟨rfl, hb⟩; have F4 := hide (F3.out.below hb); have B4 := hide (B3.out.trans (hb.mono B3.out.size)); have E4 := hide (E3.out.below hb E3.out.lt); clear hb) | (refine wpList_allocW rfl 34 rfl zb Z1.out ?_) | (refine wpList_store_row rfl 34 (.tmp 21) (.tmp 100) rfl w6.heap.size d1 rfl rfl 34 zb (Blk.new w6 34 zb) ND.out TD.out OD.out ?_))
              have F5 := hide (F4.out.new zb d1 34)
              have B5 := hide (below_new B4.out zb d1 34)
              have E5 := hide ((E4.out.alloc (.cells zb 34)).rowFar (g' := w6.heap.size) (Nat.ne_of_lt E4.out.lt) d1)
              have G5 := hide ((Blk.new w6 34 zb).row_ d1)
              have hG5 := B4.out.size
              generalize (w6.alloc (.cells zb 34)).setRow w6.heap.size d1 = W5 at F5 B5 E5 G5 ⊢
              have hXY := E4.out.lt
              have hPY := F4.out.p.lt
              have hQY := F4.out.q.lt
              generalize w6.heap.size = Y at G5 hG5 hXY hPY hQY ⊢
              clear F4 B4 E4 F3 B3 E3
              go_upto_region 24 with (first | (refine wpList_load_rowW rfl 30 (.tmp 18) rfl X rfl 30 c1 _ E5.out Try.underlying30 rfl NC.out ?_) | (refine wpList_store_row rfl 30 (.tmp 7) (.tmp 102) rfl P c1 rfl rfl 30 ba F5.out.p NC.out TAC.out OC.out ?_))
              have F6 := hide (F5.out.setP hPR c1)
              have B6 := hide (below_row B5.out hP c1)
              have G6 := hide (G5.out.rowFar (Ne.symm (Nat.ne_of_lt hPY)) c1)
              generalize W5.setRow P c1 = W6 at F6 B6 G6 ⊢
              clear F5 B5 E5 G5
              go_upto_region 25 with (first | (refine wpList_load_rowW rfl 34 (.tmp 21) rfl Y rfl 34 d1 _ G6.out Try.underlying34 rfl ND.out ?_) | (refine wpList_store_row rfl 34 (.tmp 8) (.tmp 103) rfl Q d1 rfl rfl 34 ra F6.out.q ND.out TBD.out OD.out ?_))
              have F7 := hide (F6.out.setQ hQS d1)
              have B7 := hide (below_row B6.out hQ d1)
              generalize W6.setRow Q d1 = W7 at F7 B7 ⊢
              clear F6 B6 G6
              go_wp2
              go_roundw
              case rel => exact ⟨k + 1, by omega, by go_num, HRES.out _ F7.out B7.out⟩
              case measure => simp [intOf]; omega
      · obtain ⟨f, g, hf, F0, B0⟩ := HI.out
        have HS0 := hide (same_any (bk f g) (rk f g) f g rfl rfl hf)
        have HW := hide wakes_any
        have HB0 := hide (show Below w.heap.size w wr.drew from B0.drew)
        have FS0 := hide (show Four wr.drew P Q R S (bk f g) (rk f g) a b from ⟨F0.p, F0.q, F0.r, F0.s⟩)
        have hgz : ∃ (v : Bool) (z : Int), (v == decide (0 ≤ z)) = true ∧ (∀ w, Calls Try.prog 15 #[.agg (bk f g), .int .u32 ask] w fun e w' => e = .returned (.bool v) ∧ Below w.heap.size w w') ∧ (∀ w, Calls Try.prog 16 #[.agg (rk f g), .int .i64 ask] w fun e w' => e = .returned (.int .i64 z) ∧ Below w.heap.size w w') := by
          refine ⟨(rslot f g ask 32).isSome, rslotI f g ask, ?_, ?_, rslot_any _ f g ask rfl hf⟩
          · cases hr : rslot f g ask 32 with
            | none => rw [rslotI_none hr]; rfl
            | some i => rw [rslotI_some hr]; simp
          · cases hr : rslot f g ask 32 with
            | none => exact good_f _ f g ask rfl hf hask hr
            | some i => exact good_t _ f g ask i rfl hf hr
        obtain ⟨v, z, hvz, hg1, hg2⟩ := hgz
        have HG := hide hg1
        have HR := hide hg2
        have hLA : (Try.prog.info? 30).map (·.size) = some (bk f g).toList.length := HS30.out f g
        have hLB : (Try.prog.info? 34).map (·.size) = some (rk f g).toList.length := HS34.out f g
        have hLC : (Try.prog.info? 30).map (·.size) = some a.toList.length := N0.out
        have hLD : (Try.prog.info? 34).map (·.size) = some b.toList.length := N1.out
        have H1 := hide hLA
        have H2 := hide hLB
        have H3 := hide hLC
        have H4 := hide hLD
        have HVZ := hide hvz
        clear hg1 hg2 hLA hLB hLC hLD F0 B0 hf HI hvz
        generalize bk f g = ba at HS0 FS0 HG H1
        generalize rk f g = ra at HS0 FS0 HR H2
        by_cases hmay : 1 ≤ (ask : Int) % 256 ∧ (ask : Int) % 256 ≤ 32 ∧ (ask : Int) / 256 ≤ 8388607
        · obtain ⟨m1, m2, m3⟩ := hmay
          have hs := slot_yes ask (by omega) hask (by omega) (by omega)
          rw [show ((ask : Int) - 1) % 256 = (ask : Int) % 256 - 1 by omega] at hs
          have HSL := hide hs
          clear hs
          go_upto_region 29 with (go_at_call 13; refine (HSL.out _).mono ?_; rintro e w' ⟨rfl, rfl⟩)
          skip
          have hwt : (ask : Int).tmod 256 = (ask : Int) % 256 := by rw [Int.tmod_eq_emod_of_nonneg (by omega)]
          have hw1 : IntKind.i64.wrap (ask : Int) = ask := IntWalk.i64_in _ (by omega)
          have hw2 : IntKind.i64.wrap ((ask : Int) % 256) = (ask : Int) % 256 := IntWalk.i64_in _ (by omega)
          have hw3 : IntKind.i64.wrap ((ask : Int) % 256 - 1) = (ask : Int) % 256 - 1 := IntWalk.i64_in _ (by omega)
          have hu30 := Try.underlying30
          have hu34 := Try.underlying34
          have hLA := H1.out
          have hLB := H2.out
          have hLC := H3.out
          have hLD := H4.out
          have hvz := HVZ.out
          have FS := FS0.out
          refine wp_region_noPanic ?_
          refine wp_region_held_drew (S := fun w' => Four w' P Q R S ba ra a b) (by kernel_rfl) FS (fun _ => ?_)
          refine wpAnyH_take (i := 0) (v := .agg ba) rfl (by kernel_rfl) (by kernel_rfl) (by kernel_rfl) (fun _ _ _ h => h) (yieldsIf_load_mid (by rfl) 30 (.tmp 7) rfl P 0 rfl ba.toList _ (fun _ h => h.p.range) hu30 rfl hLA) FS ?_
          try simp only [Act.put, List.getElem_toArray, List.getElem_cons_succ, List.getElem_cons_zero, List.setIfInBounds_toArray, List.set_cons_zero, List.set_cons_succ]
          refine wpAnyH_take (i := 1) (v := .agg ra) rfl (by kernel_rfl) (by kernel_rfl) (by kernel_rfl) (fun _ _ _ h => h) (yieldsIf_load_mid (by rfl) 34 (.tmp 8) rfl Q 0 rfl ra.toList _ (fun _ h => h.q.range) hu34 rfl hLB) FS ?_
          try simp only [Act.put, List.getElem_toArray, List.getElem_cons_succ, List.getElem_cons_zero, List.setIfInBounds_toArray, List.set_cons_zero, List.set_cons_succ]
          refine wpAnyH_ready (rs := [2]) (by kernel_rfl) (by simp) ?_
          refine AllReadyH.cons rfl (fun K hK => ?_) AllReadyH.nil
          go_simp
          refine (HS0.out _).mono ?_
          rintro e w1 ⟨rfl, hb⟩
          have FSw1 := FS.below hb
          have HB1 := hide (HB0.out.trans (hb.mono HB0.out.size))
          clear hb FS
          refine hK.out _ _ FSw1 (fun _ => ?_)
          clear hK K
          try simp only [Act.put, List.getElem_toArray, List.getElem_cons_succ, List.getElem_cons_zero, List.setIfInBounds_toArray, List.set_cons_zero, List.set_cons_succ]
          refine wpAnyH_take (i := 3) (v := .bool true) rfl (by kernel_rfl) (by kernel_rfl) (by kernel_rfl) (fun _ _ _ h => h) (Or.inl ⟨by rfl, by intro w' _; go_simp⟩) FSw1 ?_
          try simp only [Act.put, List.getElem_toArray, List.getElem_cons_succ, List.getElem_cons_zero, List.setIfInBounds_toArray, List.set_cons_zero, List.set_cons_succ]
          refine wpAnyH_take (i := 4) (v := .agg a) rfl (by kernel_rfl) (by kernel_rfl) (by kernel_rfl) (fun _ _ _ h => h) (yieldsIf_load_mid (by rfl) 30 (.tmp 9) rfl R 0 rfl a.toList _ (fun _ h => h.r.range) hu30 rfl hLC) FSw1 ?_
          try simp only [Act.put, List.getElem_toArray, List.getElem_cons_succ, List.getElem_cons_zero, List.setIfInBounds_toArray, List.set_cons_zero, List.set_cons_succ]
          refine wpAnyH_take (i := 5) (v := .agg b) rfl (by kernel_rfl) (by kernel_rfl) (by kernel_rfl) (fun _ _ _ h => h) (yieldsIf_load_mid (by rfl) 34 (.tmp 10) rfl S 0 rfl b.toList _ (fun _ h => h.s.range) hu34 rfl hLD) FSw1 ?_
          try simp only [Act.put, List.getElem_toArray, List.getElem_cons_succ, List.getElem_cons_zero, List.setIfInBounds_toArray, List.set_cons_zero, List.set_cons_succ]
          refine wpAnyH_ready (rs := [6]) (by kernel_rfl) (by simp) ?_
          refine AllReadyH.cons rfl (fun K hK => ?_) AllReadyH.nil
          go_simp
          refine (HSM.out _).mono ?_
          rintro e w2 ⟨rfl, hb⟩
          have FSw2 := FSw1.below hb
          have HB2 := hide (HB1.out.trans (hb.mono HB1.out.size))
          clear hb FSw1
          refine hK.out _ _ FSw2 (fun _ => ?_)
          clear hK K
          try simp only [Act.put, List.getElem_toArray, List.getElem_cons_succ, List.getElem_cons_zero, List.setIfInBounds_toArray, List.set_cons_zero, List.set_cons_succ]
          refine wpAnyH_take (i := 7) (v := .bool true) rfl (by kernel_rfl) (by kernel_rfl) (by kernel_rfl) (fun _ _ _ h => h) (Or.inl ⟨by rfl, by intro w' _; go_simp⟩) FSw2 ?_
          try simp only [Act.put, List.getElem_toArray, List.getElem_cons_succ, List.getElem_cons_zero, List.setIfInBounds_toArray, List.set_cons_zero, List.set_cons_succ]
          refine wpAnyH_take (i := 8) (v := .bool true) rfl (by kernel_rfl) (by kernel_rfl) (by kernel_rfl) (fun _ _ _ h => h) (Or.inl ⟨by rfl, by intro w' _; go_simp⟩) FSw2 ?_
          try simp only [Act.put, List.getElem_toArray, List.getElem_cons_succ, List.getElem_cons_zero, List.setIfInBounds_toArray, List.set_cons_zero, List.set_cons_succ]
          refine wpAnyH_take (i := 9) (v := .agg ba) rfl (by kernel_rfl) (by kernel_rfl) (by kernel_rfl) (fun _ _ _ h => h) (yieldsIf_load_mid (by rfl) 30 (.tmp 7) rfl P 0 rfl ba.toList _ (fun _ h => h.p.range) hu30 rfl hLA) FSw2 ?_
          try simp only [Act.put, List.getElem_toArray, List.getElem_cons_succ, List.getElem_cons_zero, List.setIfInBounds_toArray, List.set_cons_zero, List.set_cons_succ]
          refine wpAnyH_take (i := 10) (v := .int .u32 (ask : Int)) rfl (by kernel_rfl) (by kernel_rfl) (by kernel_rfl) (fun _ _ _ h => h) (Or.inl ⟨by rfl, by intro w' _; go_simp⟩) FSw2 ?_
          try simp only [Act.put, List.getElem_toArray, List.getElem_cons_succ, List.getElem_cons_zero, List.setIfInBounds_toArray, List.set_cons_zero, List.set_cons_succ]
          refine wpAnyH_take (i := 12) (v := .agg ra) rfl (by kernel_rfl) (by kernel_rfl) (by kernel_rfl) (fun _ _ _ h => h) (yieldsIf_load_mid (by rfl) 34 (.tmp 8) rfl Q 0 rfl ra.toList _ (fun _ h => h.q.range) hu34 rfl hLB) FSw2 ?_
          try simp only [Act.put, List.getElem_toArray, List.getElem_cons_succ, List.getElem_cons_zero, List.setIfInBounds_toArray, List.set_cons_zero, List.set_cons_succ]
          refine wpAnyH_take (i := 13) (v := .int .u32 (ask : Int)) rfl (by kernel_rfl) (by kernel_rfl) (by kernel_rfl) (fun _ _ _ h => h) (Or.inl ⟨by rfl, by intro w' _; go_simp⟩) FSw2 ?_
          try simp only [Act.put, List.getElem_toArray, List.getElem_cons_succ, List.getElem_cons_zero, List.setIfInBounds_toArray, List.set_cons_zero, List.set_cons_succ]
          refine wpAnyH_take (i := 14) (v := .int .i64 (ask : Int)) rfl (by kernel_rfl) (by kernel_rfl) (by kernel_rfl) (fun _ _ _ h => h) (Or.inl ⟨by rfl, by intro w' _; go_simp⟩) FSw2 ?_
          try simp only [Act.put, List.getElem_toArray, List.getElem_cons_succ, List.getElem_cons_zero, List.setIfInBounds_toArray, List.set_cons_zero, List.set_cons_succ]
          refine wpAnyH_ready (rs := [11]) (by kernel_rfl) (by simp) ?_
          refine AllReadyH.cons rfl (fun K hK => ?_) AllReadyH.nil
          go_simp
          refine (HG.out _).mono ?_
          rintro e w3 ⟨rfl, hb⟩
          have FSw3 := FSw2.below hb
          have HB3 := hide (HB2.out.trans (hb.mono HB2.out.size))
          clear hb FSw2
          refine hK.out _ _ FSw3 (fun _ => ?_)
          clear hK K
          try simp only [Act.put, List.getElem_toArray, List.getElem_cons_succ, List.getElem_cons_zero, List.setIfInBounds_toArray, List.set_cons_zero, List.set_cons_succ]
          refine wpAnyH_ready (rs := [15]) (by kernel_rfl) (by simp) ?_
          refine AllReadyH.cons rfl (fun K hK => ?_) AllReadyH.nil
          go_simp
          refine (HR.out _).mono ?_
          rintro e w4 ⟨rfl, hb⟩
          have FSw4 := FSw3.below hb
          have HB4 := hide (HB3.out.trans (hb.mono HB3.out.size))
          clear hb FSw3
          refine hK.out _ _ FSw4 (fun _ => ?_)
          clear hK K
          try simp only [Act.put, List.getElem_toArray, List.getElem_cons_succ, List.getElem_cons_zero, List.setIfInBounds_toArray, List.set_cons_zero, List.set_cons_succ]
          refine wpAnyH_take (i := 16) (v := .bool (decide (0 ≤ z))) rfl (by kernel_rfl) (by kernel_rfl) (by kernel_rfl) (fun _ _ _ h => h) (Or.inl ⟨by rfl, by intro w' _; go_simp⟩) FSw4 ?_
          try simp only [Act.put, List.getElem_toArray, List.getElem_cons_succ, List.getElem_cons_zero, List.setIfInBounds_toArray, List.set_cons_zero, List.set_cons_succ]
          refine wpAnyH_take (i := 17) (v := .bool true) rfl (by kernel_rfl) (by kernel_rfl) (by kernel_rfl) (fun _ _ _ h => h) (Or.inl ⟨by rfl, by intro w' _; go_simp⟩) FSw4 ?_
          try simp only [Act.put, List.getElem_toArray, List.getElem_cons_succ, List.getElem_cons_zero, List.setIfInBounds_toArray, List.set_cons_zero, List.set_cons_succ]
          refine wpAnyH_take (i := 18) (v := .bool true) rfl (by kernel_rfl) (by kernel_rfl) (by kernel_rfl) (fun _ _ _ h => h) (Or.inl ⟨by rfl, by intro w' _; go_simp⟩) FSw4 ?_
          try simp only [Act.put, List.getElem_toArray, List.getElem_cons_succ, List.getElem_cons_zero, List.setIfInBounds_toArray, List.set_cons_zero, List.set_cons_succ]
          refine wpAnyH_take (i := 19) (v := .bool true) rfl (by kernel_rfl) (by kernel_rfl) (by kernel_rfl) (fun _ _ _ h => h) (Or.inl ⟨by rfl, by intro w' _; go_simp⟩) FSw4 ?_
          try simp only [Act.put, List.getElem_toArray, List.getElem_cons_succ, List.getElem_cons_zero, List.setIfInBounds_toArray, List.set_cons_zero, List.set_cons_succ]
          refine wpAnyH_take (i := 20) (v := .bool true) rfl (by kernel_rfl) (by kernel_rfl) (by kernel_rfl) (fun _ _ _ h => h) (Or.inl ⟨by rfl, by intro w' _; go_simp⟩) FSw4 ?_
          try simp only [Act.put, List.getElem_toArray, List.getElem_cons_succ, List.getElem_cons_zero, List.setIfInBounds_toArray, List.set_cons_zero, List.set_cons_succ]
          refine wpAnyH_take (i := 21) (v := .bool true) rfl (by kernel_rfl) (by kernel_rfl) (by kernel_rfl) (fun _ _ _ h => h) (Or.inl ⟨by rfl, by intro w' _; go_simp⟩) FSw4 ?_
          try simp only [Act.put, List.getElem_toArray, List.getElem_cons_succ, List.getElem_cons_zero, List.setIfInBounds_toArray, List.set_cons_zero, List.set_cons_succ]
          refine wpAnyH_take (i := 22) (v := .bool true) rfl (by kernel_rfl) (by kernel_rfl) (by kernel_rfl) (fun _ _ _ h => h) (Or.inl ⟨by rfl, by intro w' _; go_simp⟩) FSw4 ?_
          try simp only [Act.put, List.getElem_toArray, List.getElem_cons_succ, List.getElem_cons_zero, List.setIfInBounds_toArray, List.set_cons_zero, List.set_cons_succ]
          refine wpAnyH_take (i := 23) (v := .bool true) rfl (by kernel_rfl) (by kernel_rfl) (by kernel_rfl) (fun _ _ _ h => h) (Or.inl ⟨by rfl, by intro w' _; go_simp⟩) FSw4 ?_
          try simp only [Act.put, List.getElem_toArray, List.getElem_cons_succ, List.getElem_cons_zero, List.setIfInBounds_toArray, List.set_cons_zero, List.set_cons_succ]
          refine wpAnyH_take (i := 24) (v := .bool true) rfl (by kernel_rfl) (by kernel_rfl) (by kernel_rfl) (fun _ _ _ h => h) (Or.inl ⟨by rfl, by intro w' _; go_simp⟩) FSw4 ?_
          try simp only [Act.put, List.getElem_toArray, List.getElem_cons_succ, List.getElem_cons_zero, List.setIfInBounds_toArray, List.set_cons_zero, List.set_cons_succ]
          refine wpAnyH_take (i := 25) (v := .bool true) rfl (by kernel_rfl) (by kernel_rfl) (by kernel_rfl) (fun _ _ _ h => h) (Or.inl ⟨by rfl, by intro w' _; go_simp⟩) FSw4 ?_
          try simp only [Act.put, List.getElem_toArray, List.getElem_cons_succ, List.getElem_cons_zero, List.setIfInBounds_toArray, List.set_cons_zero, List.set_cons_succ]
          refine wpAnyH_take (i := 26) (v := .bool true) rfl (by kernel_rfl) (by kernel_rfl) (by kernel_rfl) (fun _ _ _ h => h) (Or.inl ⟨by rfl, by intro w' _; go_simp⟩) FSw4 ?_
          try simp only [Act.put, List.getElem_toArray, List.getElem_cons_succ, List.getElem_cons_zero, List.setIfInBounds_toArray, List.set_cons_zero, List.set_cons_succ]
          refine wpAnyH_take (i := 27) (v := .int .i64 ((ask : Int) % 256 - 1)) rfl (by kernel_rfl) (by kernel_rfl) (by kernel_rfl) (fun _ _ _ h => h) (Or.inl ⟨by rfl, by intro w' _; go_simp⟩) FSw4 ?_
          try simp only [Act.put, List.getElem_toArray, List.getElem_cons_succ, List.getElem_cons_zero, List.setIfInBounds_toArray, List.set_cons_zero, List.set_cons_succ]
          refine wpAnyH_take (i := 28) (v := .int .u32 (ask : Int)) rfl (by kernel_rfl) (by kernel_rfl) (by kernel_rfl) (fun _ _ _ h => h) (Or.inl ⟨by rfl, by intro w' _; go_simp⟩) FSw4 ?_
          try simp only [Act.put, List.getElem_toArray, List.getElem_cons_succ, List.getElem_cons_zero, List.setIfInBounds_toArray, List.set_cons_zero, List.set_cons_succ]
          refine wpAnyH_take (i := 29) (v := .int .u32 ((ask : Int) % 256)) rfl (by kernel_rfl) (by kernel_rfl) (by kernel_rfl) (fun _ _ _ h => h) (Or.inl ⟨by rfl, by intro w' _; go_simp⟩) FSw4 ?_
          try simp only [Act.put, List.getElem_toArray, List.getElem_cons_succ, List.getElem_cons_zero, List.setIfInBounds_toArray, List.set_cons_zero, List.set_cons_succ]
          refine wpAnyH_take (i := 30) (v := .int .i64 ((ask : Int) % 256)) rfl (by kernel_rfl) (by kernel_rfl) (by kernel_rfl) (fun _ _ _ h => h) (Or.inl ⟨by rfl, by intro w' _; go_simp⟩) FSw4 ?_
          try simp only [Act.put, List.getElem_toArray, List.getElem_cons_succ, List.getElem_cons_zero, List.setIfInBounds_toArray, List.set_cons_zero, List.set_cons_succ]
          refine wpAnyH_take (i := 31) (v := .int .i64 ((ask : Int) % 256 - 1)) rfl (by kernel_rfl) (by kernel_rfl) (by kernel_rfl) (fun _ _ _ h => h) (Or.inl ⟨by rfl, by intro w' _; go_simp⟩) FSw4 ?_
          try simp only [Act.put, List.getElem_toArray, List.getElem_cons_succ, List.getElem_cons_zero, List.setIfInBounds_toArray, List.set_cons_zero, List.set_cons_succ]
          refine wpAnyH_take (i := 32) (v := .bool true) rfl (by kernel_rfl) (by kernel_rfl) (by kernel_rfl) (fun _ _ _ h => h) (Or.inl ⟨by rfl, by intro w' _; go_simp⟩) FSw4 ?_
          try simp only [Act.put, List.getElem_toArray, List.getElem_cons_succ, List.getElem_cons_zero, List.setIfInBounds_toArray, List.set_cons_zero, List.set_cons_succ]
          refine wpAnyH_take (i := 33) (v := .bool true) rfl (by kernel_rfl) (by kernel_rfl) (by kernel_rfl) (fun _ _ _ h => h) (Or.inl ⟨by rfl, by intro w' _; go_simp⟩) FSw4 ?_
          try simp only [Act.put, List.getElem_toArray, List.getElem_cons_succ, List.getElem_cons_zero, List.setIfInBounds_toArray, List.set_cons_zero, List.set_cons_succ]
          refine wpAnyH_take (i := 34) (v := .bool true) rfl (by kernel_rfl) (by kernel_rfl) (by kernel_rfl) (fun _ _ _ h => h) (Or.inl ⟨by rfl, by intro w' _; go_simp⟩) FSw4 ?_
          try simp only [Act.put, List.getElem_toArray, List.getElem_cons_succ, List.getElem_cons_zero, List.setIfInBounds_toArray, List.set_cons_zero, List.set_cons_succ]
          refine wpAnyH_take (i := 35) (v := undef) rfl (by kernel_rfl) (by kernel_rfl) (by kernel_rfl) (fun _ _ _ h => h) (Or.inr ⟨by rfl, rfl⟩) FSw4 ?_
          try simp only [Act.put, List.getElem_toArray, List.getElem_cons_succ, List.getElem_cons_zero, List.setIfInBounds_toArray, List.set_cons_zero, List.set_cons_succ]
          refine wpAnyH_take (i := 36) (v := undef) rfl (by kernel_rfl) (by kernel_rfl) (by kernel_rfl) (fun _ _ _ h => h) (Or.inr ⟨by rfl, rfl⟩) FSw4 ?_
          try simp only [Act.put, List.getElem_toArray, List.getElem_cons_succ, List.getElem_cons_zero, List.setIfInBounds_toArray, List.set_cons_zero, List.set_cons_succ]
          refine wpAnyH_take (i := 37) (v := undef) rfl (by kernel_rfl) (by kernel_rfl) (by kernel_rfl) (fun _ _ _ h => h) (Or.inr ⟨by rfl, rfl⟩) FSw4 ?_
          try simp only [Act.put, List.getElem_toArray, List.getElem_cons_succ, List.getElem_cons_zero, List.setIfInBounds_toArray, List.set_cons_zero, List.set_cons_succ]
          refine wpAnyH_take (i := 38) (v := undef) rfl (by kernel_rfl) (by kernel_rfl) (by kernel_rfl) (fun _ _ _ h => h) (Or.inr ⟨by rfl, rfl⟩) FSw4 ?_
          try simp only [Act.put, List.getElem_toArray, List.getElem_cons_succ, List.getElem_cons_zero, List.setIfInBounds_toArray, List.set_cons_zero, List.set_cons_succ]
          refine wpAnyH_take (i := 39) (v := undef) rfl (by kernel_rfl) (by kernel_rfl) (by kernel_rfl) (fun _ _ _ h => h) (Or.inr ⟨by rfl, rfl⟩) FSw4 ?_
          try simp only [Act.put, List.getElem_toArray, List.getElem_cons_succ, List.getElem_cons_zero, List.setIfInBounds_toArray, List.set_cons_zero, List.set_cons_succ]
          refine wpAnyH_take (i := 40) (v := undef) rfl (by kernel_rfl) (by kernel_rfl) (by kernel_rfl) (fun _ _ _ h => h) (Or.inr ⟨by rfl, rfl⟩) FSw4 ?_
          try simp only [Act.put, List.getElem_toArray, List.getElem_cons_succ, List.getElem_cons_zero, List.setIfInBounds_toArray, List.set_cons_zero, List.set_cons_succ]
          refine wpAnyH_take (i := 41) (v := .bool true) rfl (by kernel_rfl) (by kernel_rfl) (by kernel_rfl) (fun _ _ _ h => h) (Or.inl ⟨by rfl, by intro w' _; go_simp⟩) FSw4 ?_
          try simp only [Act.put, List.getElem_toArray, List.getElem_cons_succ, List.getElem_cons_zero, List.setIfInBounds_toArray, List.set_cons_zero, List.set_cons_succ]
          refine wpAnyH_take (i := 42) (v := .bool true) rfl (by kernel_rfl) (by kernel_rfl) (by kernel_rfl) (fun _ _ _ h => h) (Or.inl ⟨by rfl, by intro w' _; go_simp⟩) FSw4 ?_
          try simp only [Act.put, List.getElem_toArray, List.getElem_cons_succ, List.getElem_cons_zero, List.setIfInBounds_toArray, List.set_cons_zero, List.set_cons_succ]
          refine wpAnyH_take (i := 43) (v := .bool true) rfl (by kernel_rfl) (by kernel_rfl) (by kernel_rfl) (fun _ _ _ h => h) (Or.inl ⟨by rfl, by intro w' _; go_simp⟩) FSw4 ?_
          try simp only [Act.put, List.getElem_toArray, List.getElem_cons_succ, List.getElem_cons_zero, List.setIfInBounds_toArray, List.set_cons_zero, List.set_cons_succ]
          refine wpAnyH_ready (rs := [44]) (by kernel_rfl) (by simp) ?_
          refine AllReadyH.cons rfl (fun K hK => ?_) AllReadyH.nil
          go_simp
          refine (HW.out _).mono ?_
          rintro e w5 ⟨rfl, hb⟩
          have FSw5 := FSw4.below hb
          have HB5 := hide (HB4.out.trans (hb.mono HB4.out.size))
          clear hb FSw4
          refine hK.out _ _ FSw5 (fun _ => ?_)
          clear hK K
          try simp only [Act.put, List.getElem_toArray, List.getElem_cons_succ, List.getElem_cons_zero, List.setIfInBounds_toArray, List.set_cons_zero, List.set_cons_succ]
          refine wpAnyH_take (i := 45) (v := .bool true) rfl (by kernel_rfl) (by kernel_rfl) (by kernel_rfl) (fun _ _ _ h => h) (Or.inl ⟨by rfl, by intro w' _; go_simp⟩) FSw5 ?_
          try simp only [Act.put, List.getElem_toArray, List.getElem_cons_succ, List.getElem_cons_zero, List.setIfInBounds_toArray, List.set_cons_zero, List.set_cons_succ]
          refine wpAnyH_ready (rs := [46]) (by kernel_rfl) (by simp) ?_
          refine AllReadyH.cons rfl (fun K hK => ?_) AllReadyH.nil
          go_simp
          refine hK.out _ _ FSw5 (fun _ => ?_)
          clear hK K
          try simp only [Act.put, List.getElem_toArray, List.getElem_cons_succ, List.getElem_cons_zero, List.setIfInBounds_toArray, List.set_cons_zero, List.set_cons_succ]
          refine wpAnyH_done (by kernel_rfl) ?_ _
          refine NoPanic.normal ?_
          go_wp2
          go_ret
          exact ⟨rfl, HB5.out⟩
        · have hs := slot_no ask hask (by omega)
          have HSL := hide hs
          clear hs
          go_upto_region 28 with (go_at_call 13; refine (HSL.out _).mono ?_; rintro e w' ⟨rfl, rfl⟩)
          try simp only [Act.put, List.setIfInBounds_toArray, List.set_cons_zero, List.set_cons_succ]
          go_cut [25] from 119 to 131 (fun y wx => y = .bool false ∧ wx = wr)
          case first =>
            by_cases m1 : 1 ≤ (ask : Int) % 256
            · by_cases m2 : (ask : Int) % 256 ≤ 32
              · have m3 : ¬ (ask : Int) / 256 ≤ 8388607 := fun m3 => hmay ⟨m1, m2, m3⟩
                clear hmay
                go_wp2_with fail
                go_meet
                exact ⟨rfl, rfl⟩
              · clear hmay
                go_wp2_with fail
                go_meet
                exact ⟨rfl, rfl⟩
            · clear hmay
              go_wp2_with fail
              go_meet
              exact ⟨rfl, rfl⟩
          case rest =>
            obtain ⟨rfl, rfl⟩ := hcut
            clear hmay
            go_upto_region 29 with (fail)
            have hwt : (ask : Int).tmod 256 = (ask : Int) % 256 := by rw [Int.tmod_eq_emod_of_nonneg (by omega)]
            have hw1 : IntKind.i64.wrap (ask : Int) = ask := IntWalk.i64_in _ (by omega)
            have hw2 : IntKind.i64.wrap ((ask : Int) % 256) = (ask : Int) % 256 := IntWalk.i64_in _ (by omega)
            have hw3 : IntKind.i64.wrap ((ask : Int) % 256 - 1) = (ask : Int) % 256 - 1 := IntWalk.i64_in _ (by omega)
            have hu30 := Try.underlying30
            have hu34 := Try.underlying34
            have hLA := H1.out
            have hLB := H2.out
            have hLC := H3.out
            have hLD := H4.out
            have hvz := HVZ.out
            have FS := FS0.out
            refine wp_region_noPanic ?_
            refine wp_region_held_drew (S := fun w' => Four w' P Q R S ba ra a b) (by kernel_rfl) FS (fun _ => ?_)
            refine wpAnyH_take (i := 0) (v := .agg ba) rfl (by kernel_rfl) (by kernel_rfl) (by kernel_rfl) (fun _ _ _ h => h) (yieldsIf_load_mid (by rfl) 30 (.tmp 7) rfl P 0 rfl ba.toList _ (fun _ h => h.p.range) hu30 rfl hLA) FS ?_
            try simp only [Act.put, List.getElem_toArray, List.getElem_cons_succ, List.getElem_cons_zero, List.setIfInBounds_toArray, List.set_cons_zero, List.set_cons_succ]
            refine wpAnyH_take (i := 1) (v := .agg ra) rfl (by kernel_rfl) (by kernel_rfl) (by kernel_rfl) (fun _ _ _ h => h) (yieldsIf_load_mid (by rfl) 34 (.tmp 8) rfl Q 0 rfl ra.toList _ (fun _ h => h.q.range) hu34 rfl hLB) FS ?_
            try simp only [Act.put, List.getElem_toArray, List.getElem_cons_succ, List.getElem_cons_zero, List.setIfInBounds_toArray, List.set_cons_zero, List.set_cons_succ]
            refine wpAnyH_ready (rs := [2]) (by kernel_rfl) (by simp) ?_
            refine AllReadyH.cons rfl (fun K hK => ?_) AllReadyH.nil
            go_simp
            refine (HS0.out _).mono ?_
            rintro e w1 ⟨rfl, hb⟩
            have FSw1 := FS.below hb
            have HB1 := hide (HB0.out.trans (hb.mono HB0.out.size))
            clear hb FS
            refine hK.out _ _ FSw1 (fun _ => ?_)
            clear hK K
            try simp only [Act.put, List.getElem_toArray, List.getElem_cons_succ, List.getElem_cons_zero, List.setIfInBounds_toArray, List.set_cons_zero, List.set_cons_succ]
            refine wpAnyH_take (i := 3) (v := .bool true) rfl (by kernel_rfl) (by kernel_rfl) (by kernel_rfl) (fun _ _ _ h => h) (Or.inl ⟨by rfl, by intro w' _; go_simp⟩) FSw1 ?_
            try simp only [Act.put, List.getElem_toArray, List.getElem_cons_succ, List.getElem_cons_zero, List.setIfInBounds_toArray, List.set_cons_zero, List.set_cons_succ]
            refine wpAnyH_take (i := 4) (v := .agg a) rfl (by kernel_rfl) (by kernel_rfl) (by kernel_rfl) (fun _ _ _ h => h) (yieldsIf_load_mid (by rfl) 30 (.tmp 9) rfl R 0 rfl a.toList _ (fun _ h => h.r.range) hu30 rfl hLC) FSw1 ?_
            try simp only [Act.put, List.getElem_toArray, List.getElem_cons_succ, List.getElem_cons_zero, List.setIfInBounds_toArray, List.set_cons_zero, List.set_cons_succ]
            refine wpAnyH_take (i := 5) (v := .agg b) rfl (by kernel_rfl) (by kernel_rfl) (by kernel_rfl) (fun _ _ _ h => h) (yieldsIf_load_mid (by rfl) 34 (.tmp 10) rfl S 0 rfl b.toList _ (fun _ h => h.s.range) hu34 rfl hLD) FSw1 ?_
            try simp only [Act.put, List.getElem_toArray, List.getElem_cons_succ, List.getElem_cons_zero, List.setIfInBounds_toArray, List.set_cons_zero, List.set_cons_succ]
            refine wpAnyH_ready (rs := [6]) (by kernel_rfl) (by simp) ?_
            refine AllReadyH.cons rfl (fun K hK => ?_) AllReadyH.nil
            go_simp
            refine (HSM.out _).mono ?_
            rintro e w2 ⟨rfl, hb⟩
            have FSw2 := FSw1.below hb
            have HB2 := hide (HB1.out.trans (hb.mono HB1.out.size))
            clear hb FSw1
            refine hK.out _ _ FSw2 (fun _ => ?_)
            clear hK K
            try simp only [Act.put, List.getElem_toArray, List.getElem_cons_succ, List.getElem_cons_zero, List.setIfInBounds_toArray, List.set_cons_zero, List.set_cons_succ]
            refine wpAnyH_take (i := 7) (v := .bool true) rfl (by kernel_rfl) (by kernel_rfl) (by kernel_rfl) (fun _ _ _ h => h) (Or.inl ⟨by rfl, by intro w' _; go_simp⟩) FSw2 ?_
            try simp only [Act.put, List.getElem_toArray, List.getElem_cons_succ, List.getElem_cons_zero, List.setIfInBounds_toArray, List.set_cons_zero, List.set_cons_succ]
            refine wpAnyH_take (i := 8) (v := .bool true) rfl (by kernel_rfl) (by kernel_rfl) (by kernel_rfl) (fun _ _ _ h => h) (Or.inl ⟨by rfl, by intro w' _; go_simp⟩) FSw2 ?_
            try simp only [Act.put, List.getElem_toArray, List.getElem_cons_succ, List.getElem_cons_zero, List.setIfInBounds_toArray, List.set_cons_zero, List.set_cons_succ]
            refine wpAnyH_take (i := 9) (v := .agg ba) rfl (by kernel_rfl) (by kernel_rfl) (by kernel_rfl) (fun _ _ _ h => h) (yieldsIf_load_mid (by rfl) 30 (.tmp 7) rfl P 0 rfl ba.toList _ (fun _ h => h.p.range) hu30 rfl hLA) FSw2 ?_
            try simp only [Act.put, List.getElem_toArray, List.getElem_cons_succ, List.getElem_cons_zero, List.setIfInBounds_toArray, List.set_cons_zero, List.set_cons_succ]
            refine wpAnyH_take (i := 10) (v := .int .u32 (ask : Int)) rfl (by kernel_rfl) (by kernel_rfl) (by kernel_rfl) (fun _ _ _ h => h) (Or.inl ⟨by rfl, by intro w' _; go_simp⟩) FSw2 ?_
            try simp only [Act.put, List.getElem_toArray, List.getElem_cons_succ, List.getElem_cons_zero, List.setIfInBounds_toArray, List.set_cons_zero, List.set_cons_succ]
            refine wpAnyH_take (i := 12) (v := .agg ra) rfl (by kernel_rfl) (by kernel_rfl) (by kernel_rfl) (fun _ _ _ h => h) (yieldsIf_load_mid (by rfl) 34 (.tmp 8) rfl Q 0 rfl ra.toList _ (fun _ h => h.q.range) hu34 rfl hLB) FSw2 ?_
            try simp only [Act.put, List.getElem_toArray, List.getElem_cons_succ, List.getElem_cons_zero, List.setIfInBounds_toArray, List.set_cons_zero, List.set_cons_succ]
            refine wpAnyH_take (i := 13) (v := .int .u32 (ask : Int)) rfl (by kernel_rfl) (by kernel_rfl) (by kernel_rfl) (fun _ _ _ h => h) (Or.inl ⟨by rfl, by intro w' _; go_simp⟩) FSw2 ?_
            try simp only [Act.put, List.getElem_toArray, List.getElem_cons_succ, List.getElem_cons_zero, List.setIfInBounds_toArray, List.set_cons_zero, List.set_cons_succ]
            refine wpAnyH_take (i := 14) (v := .int .i64 (ask : Int)) rfl (by kernel_rfl) (by kernel_rfl) (by kernel_rfl) (fun _ _ _ h => h) (Or.inl ⟨by rfl, by intro w' _; go_simp⟩) FSw2 ?_
            try simp only [Act.put, List.getElem_toArray, List.getElem_cons_succ, List.getElem_cons_zero, List.setIfInBounds_toArray, List.set_cons_zero, List.set_cons_succ]
            refine wpAnyH_ready (rs := [11]) (by kernel_rfl) (by simp) ?_
            refine AllReadyH.cons rfl (fun K hK => ?_) AllReadyH.nil
            go_simp
            refine (HG.out _).mono ?_
            rintro e w3 ⟨rfl, hb⟩
            have FSw3 := FSw2.below hb
            have HB3 := hide (HB2.out.trans (hb.mono HB2.out.size))
            clear hb FSw2
            refine hK.out _ _ FSw3 (fun _ => ?_)
            clear hK K
            try simp only [Act.put, List.getElem_toArray, List.getElem_cons_succ, List.getElem_cons_zero, List.setIfInBounds_toArray, List.set_cons_zero, List.set_cons_succ]
            refine wpAnyH_ready (rs := [15]) (by kernel_rfl) (by simp) ?_
            refine AllReadyH.cons rfl (fun K hK => ?_) AllReadyH.nil
            go_simp
            refine (HR.out _).mono ?_
            rintro e w4 ⟨rfl, hb⟩
            have FSw4 := FSw3.below hb
            have HB4 := hide (HB3.out.trans (hb.mono HB3.out.size))
            clear hb FSw3
            refine hK.out _ _ FSw4 (fun _ => ?_)
            clear hK K
            try simp only [Act.put, List.getElem_toArray, List.getElem_cons_succ, List.getElem_cons_zero, List.setIfInBounds_toArray, List.set_cons_zero, List.set_cons_succ]
            refine wpAnyH_take (i := 16) (v := .bool (decide (0 ≤ z))) rfl (by kernel_rfl) (by kernel_rfl) (by kernel_rfl) (fun _ _ _ h => h) (Or.inl ⟨by rfl, by intro w' _; go_simp⟩) FSw4 ?_
            try simp only [Act.put, List.getElem_toArray, List.getElem_cons_succ, List.getElem_cons_zero, List.setIfInBounds_toArray, List.set_cons_zero, List.set_cons_succ]
            refine wpAnyH_take (i := 17) (v := .bool true) rfl (by kernel_rfl) (by kernel_rfl) (by kernel_rfl) (fun _ _ _ h => h) (Or.inl ⟨by rfl, by intro w' _; go_simp⟩) FSw4 ?_
            try simp only [Act.put, List.getElem_toArray, List.getElem_cons_succ, List.getElem_cons_zero, List.setIfInBounds_toArray, List.set_cons_zero, List.set_cons_succ]
            refine wpAnyH_take (i := 18) (v := .bool true) rfl (by kernel_rfl) (by kernel_rfl) (by kernel_rfl) (fun _ _ _ h => h) (Or.inl ⟨by rfl, by intro w' _; go_simp⟩) FSw4 ?_
            try simp only [Act.put, List.getElem_toArray, List.getElem_cons_succ, List.getElem_cons_zero, List.setIfInBounds_toArray, List.set_cons_zero, List.set_cons_succ]
            refine wpAnyH_take (i := 19) (v := .bool true) rfl (by kernel_rfl) (by kernel_rfl) (by kernel_rfl) (fun _ _ _ h => h) (Or.inl ⟨by rfl, by intro w' _; go_simp⟩) FSw4 ?_
            try simp only [Act.put, List.getElem_toArray, List.getElem_cons_succ, List.getElem_cons_zero, List.setIfInBounds_toArray, List.set_cons_zero, List.set_cons_succ]
            refine wpAnyH_take (i := 20) (v := .bool false) rfl (by kernel_rfl) (by kernel_rfl) (by kernel_rfl) (fun _ _ _ h => h) (Or.inl ⟨by rfl, by intro w' _; go_simp⟩) FSw4 ?_
            try simp only [Act.put, List.getElem_toArray, List.getElem_cons_succ, List.getElem_cons_zero, List.setIfInBounds_toArray, List.set_cons_zero, List.set_cons_succ]
            refine wpAnyH_take (i := 21) (v := .bool false) rfl (by kernel_rfl) (by kernel_rfl) (by kernel_rfl) (fun _ _ _ h => h) (Or.inl ⟨by rfl, by intro w' _; go_simp⟩) FSw4 ?_
            try simp only [Act.put, List.getElem_toArray, List.getElem_cons_succ, List.getElem_cons_zero, List.setIfInBounds_toArray, List.set_cons_zero, List.set_cons_succ]
            refine wpAnyH_take (i := 22) (v := .bool true) rfl (by kernel_rfl) (by kernel_rfl) (by kernel_rfl) (fun _ _ _ h => h) (Or.inl ⟨by rfl, by intro w' _; go_simp⟩) FSw4 ?_
            try simp only [Act.put, List.getElem_toArray, List.getElem_cons_succ, List.getElem_cons_zero, List.setIfInBounds_toArray, List.set_cons_zero, List.set_cons_succ]
            refine wpAnyH_take (i := 23) (v := .bool true) rfl (by kernel_rfl) (by kernel_rfl) (by kernel_rfl) (fun _ _ _ h => h) (Or.inl ⟨by rfl, by intro w' _; go_simp⟩) FSw4 ?_
            try simp only [Act.put, List.getElem_toArray, List.getElem_cons_succ, List.getElem_cons_zero, List.setIfInBounds_toArray, List.set_cons_zero, List.set_cons_succ]
            refine wpAnyH_take (i := 24) (v := .bool true) rfl (by kernel_rfl) (by kernel_rfl) (by kernel_rfl) (fun _ _ _ h => h) (Or.inl ⟨by rfl, by intro w' _; go_simp⟩) FSw4 ?_
            try simp only [Act.put, List.getElem_toArray, List.getElem_cons_succ, List.getElem_cons_zero, List.setIfInBounds_toArray, List.set_cons_zero, List.set_cons_succ]
            refine wpAnyH_take (i := 25) (v := .bool false) rfl (by kernel_rfl) (by kernel_rfl) (by kernel_rfl) (fun _ _ _ h => h) (Or.inl ⟨by rfl, by intro w' _; go_simp⟩) FSw4 ?_
            try simp only [Act.put, List.getElem_toArray, List.getElem_cons_succ, List.getElem_cons_zero, List.setIfInBounds_toArray, List.set_cons_zero, List.set_cons_succ]
            refine wpAnyH_take (i := 26) (v := .bool false) rfl (by kernel_rfl) (by kernel_rfl) (by kernel_rfl) (fun _ _ _ h => h) (Or.inl ⟨by rfl, by intro w' _; go_simp⟩) FSw4 ?_
            try simp only [Act.put, List.getElem_toArray, List.getElem_cons_succ, List.getElem_cons_zero, List.setIfInBounds_toArray, List.set_cons_zero, List.set_cons_succ]
            refine wpAnyH_take (i := 27) (v := undef) rfl (by kernel_rfl) (by kernel_rfl) (by kernel_rfl) (fun _ _ _ h => h) (Or.inr ⟨by rfl, rfl⟩) FSw4 ?_
            try simp only [Act.put, List.getElem_toArray, List.getElem_cons_succ, List.getElem_cons_zero, List.setIfInBounds_toArray, List.set_cons_zero, List.set_cons_succ]
            refine wpAnyH_take (i := 28) (v := undef) rfl (by kernel_rfl) (by kernel_rfl) (by kernel_rfl) (fun _ _ _ h => h) (Or.inr ⟨by rfl, rfl⟩) FSw4 ?_
            try simp only [Act.put, List.getElem_toArray, List.getElem_cons_succ, List.getElem_cons_zero, List.setIfInBounds_toArray, List.set_cons_zero, List.set_cons_succ]
            refine wpAnyH_take (i := 29) (v := undef) rfl (by kernel_rfl) (by kernel_rfl) (by kernel_rfl) (fun _ _ _ h => h) (Or.inr ⟨by rfl, rfl⟩) FSw4 ?_
            try simp only [Act.put, List.getElem_toArray, List.getElem_cons_succ, List.getElem_cons_zero, List.setIfInBounds_toArray, List.set_cons_zero, List.set_cons_succ]
            refine wpAnyH_take (i := 30) (v := undef) rfl (by kernel_rfl) (by kernel_rfl) (by kernel_rfl) (fun _ _ _ h => h) (Or.inr ⟨by rfl, rfl⟩) FSw4 ?_
            try simp only [Act.put, List.getElem_toArray, List.getElem_cons_succ, List.getElem_cons_zero, List.setIfInBounds_toArray, List.set_cons_zero, List.set_cons_succ]
            refine wpAnyH_take (i := 31) (v := undef) rfl (by kernel_rfl) (by kernel_rfl) (by kernel_rfl) (fun _ _ _ h => h) (Or.inr ⟨by rfl, rfl⟩) FSw4 ?_
            try simp only [Act.put, List.getElem_toArray, List.getElem_cons_succ, List.getElem_cons_zero, List.setIfInBounds_toArray, List.set_cons_zero, List.set_cons_succ]
            refine wpAnyH_take (i := 32) (v := undef) rfl (by kernel_rfl) (by kernel_rfl) (by kernel_rfl) (fun _ _ _ h => h) (Or.inr ⟨by rfl, rfl⟩) FSw4 ?_
            try simp only [Act.put, List.getElem_toArray, List.getElem_cons_succ, List.getElem_cons_zero, List.setIfInBounds_toArray, List.set_cons_zero, List.set_cons_succ]
            refine wpAnyH_take (i := 33) (v := .bool false) rfl (by kernel_rfl) (by kernel_rfl) (by kernel_rfl) (fun _ _ _ h => h) (Or.inl ⟨by rfl, by intro w' _; go_simp⟩) FSw4 ?_
            try simp only [Act.put, List.getElem_toArray, List.getElem_cons_succ, List.getElem_cons_zero, List.setIfInBounds_toArray, List.set_cons_zero, List.set_cons_succ]
            refine wpAnyH_take (i := 34) (v := .bool false) rfl (by kernel_rfl) (by kernel_rfl) (by kernel_rfl) (fun _ _ _ h => h) (Or.inl ⟨by rfl, by intro w' _; go_simp⟩) FSw4 ?_
            try simp only [Act.put, List.getElem_toArray, List.getElem_cons_succ, List.getElem_cons_zero, List.setIfInBounds_toArray, List.set_cons_zero, List.set_cons_succ]
            refine wpAnyH_take (i := 35) (v := .bool false) rfl (by kernel_rfl) (by kernel_rfl) (by kernel_rfl) (fun _ _ _ h => h) (Or.inl ⟨by rfl, by intro w' _; go_simp⟩) FSw4 ?_
            try simp only [Act.put, List.getElem_toArray, List.getElem_cons_succ, List.getElem_cons_zero, List.setIfInBounds_toArray, List.set_cons_zero, List.set_cons_succ]
            refine wpAnyH_take (i := 36) (v := .bool true) rfl (by kernel_rfl) (by kernel_rfl) (by kernel_rfl) (fun _ _ _ h => h) (Or.inl ⟨by rfl, by intro w' _; go_simp⟩) FSw4 ?_
            try simp only [Act.put, List.getElem_toArray, List.getElem_cons_succ, List.getElem_cons_zero, List.setIfInBounds_toArray, List.set_cons_zero, List.set_cons_succ]
            refine wpAnyH_take (i := 37) (v := .bool true) rfl (by kernel_rfl) (by kernel_rfl) (by kernel_rfl) (fun _ _ _ h => h) (Or.inl ⟨by rfl, by intro w' _; go_simp⟩) FSw4 ?_
            try simp only [Act.put, List.getElem_toArray, List.getElem_cons_succ, List.getElem_cons_zero, List.setIfInBounds_toArray, List.set_cons_zero, List.set_cons_succ]
            refine wpAnyH_take (i := 38) (v := .int .i64 0) rfl (by kernel_rfl) (by kernel_rfl) (by kernel_rfl) (fun _ _ _ h => h) (Or.inl ⟨by rfl, by intro w' _; go_simp⟩) FSw4 ?_
            try simp only [Act.put, List.getElem_toArray, List.getElem_cons_succ, List.getElem_cons_zero, List.setIfInBounds_toArray, List.set_cons_zero, List.set_cons_succ]
            refine wpAnyH_take (i := 39) (v := .bool true) rfl (by kernel_rfl) (by kernel_rfl) (by kernel_rfl) (fun _ _ _ h => h) (Or.inl ⟨by rfl, by intro w' _; go_simp⟩) FSw4 ?_
            try simp only [Act.put, List.getElem_toArray, List.getElem_cons_succ, List.getElem_cons_zero, List.setIfInBounds_toArray, List.set_cons_zero, List.set_cons_succ]
            refine wpAnyH_take (i := 40) (v := .bool true) rfl (by kernel_rfl) (by kernel_rfl) (by kernel_rfl) (fun _ _ _ h => h) (Or.inl ⟨by rfl, by intro w' _; go_simp⟩) FSw4 ?_
            try simp only [Act.put, List.getElem_toArray, List.getElem_cons_succ, List.getElem_cons_zero, List.setIfInBounds_toArray, List.set_cons_zero, List.set_cons_succ]
            refine wpAnyH_take (i := 41) (v := .bool true) rfl (by kernel_rfl) (by kernel_rfl) (by kernel_rfl) (fun _ _ _ h => h) (Or.inl ⟨by rfl, by intro w' _; go_simp⟩) FSw4 ?_
            try simp only [Act.put, List.getElem_toArray, List.getElem_cons_succ, List.getElem_cons_zero, List.setIfInBounds_toArray, List.set_cons_zero, List.set_cons_succ]
            refine wpAnyH_take (i := 42) (v := .bool true) rfl (by kernel_rfl) (by kernel_rfl) (by kernel_rfl) (fun _ _ _ h => h) (Or.inl ⟨by rfl, by intro w' _; go_simp⟩) FSw4 ?_
            try simp only [Act.put, List.getElem_toArray, List.getElem_cons_succ, List.getElem_cons_zero, List.setIfInBounds_toArray, List.set_cons_zero, List.set_cons_succ]
            refine wpAnyH_take (i := 43) (v := .bool true) rfl (by kernel_rfl) (by kernel_rfl) (by kernel_rfl) (fun _ _ _ h => h) (Or.inl ⟨by rfl, by intro w' _; go_simp⟩) FSw4 ?_
            try simp only [Act.put, List.getElem_toArray, List.getElem_cons_succ, List.getElem_cons_zero, List.setIfInBounds_toArray, List.set_cons_zero, List.set_cons_succ]
            refine wpAnyH_ready (rs := [44]) (by kernel_rfl) (by simp) ?_
            refine AllReadyH.cons rfl (fun K hK => ?_) AllReadyH.nil
            go_simp
            refine (HW.out _).mono ?_
            rintro e w5 ⟨rfl, hb⟩
            have FSw5 := FSw4.below hb
            have HB5 := hide (HB4.out.trans (hb.mono HB4.out.size))
            clear hb FSw4
            refine hK.out _ _ FSw5 (fun _ => ?_)
            clear hK K
            try simp only [Act.put, List.getElem_toArray, List.getElem_cons_succ, List.getElem_cons_zero, List.setIfInBounds_toArray, List.set_cons_zero, List.set_cons_succ]
            refine wpAnyH_take (i := 45) (v := .bool true) rfl (by kernel_rfl) (by kernel_rfl) (by kernel_rfl) (fun _ _ _ h => h) (Or.inl ⟨by rfl, by intro w' _; go_simp⟩) FSw5 ?_
            try simp only [Act.put, List.getElem_toArray, List.getElem_cons_succ, List.getElem_cons_zero, List.setIfInBounds_toArray, List.set_cons_zero, List.set_cons_succ]
            refine wpAnyH_ready (rs := [46]) (by kernel_rfl) (by simp) ?_
            refine AllReadyH.cons rfl (fun K hK => ?_) AllReadyH.nil
            go_simp
            refine hK.out _ _ FSw5 (fun _ => ?_)
            clear hK K
            try simp only [Act.put, List.getElem_toArray, List.getElem_cons_succ, List.getElem_cons_zero, List.setIfInBounds_toArray, List.set_cons_zero, List.set_cons_succ]
            refine wpAnyH_done (by kernel_rfl) ?_ _
            refine NoPanic.normal ?_
            go_wp2
            go_ret
            exact ⟨rfl, HB5.out⟩
end Go.Proofs.Ytnicipemkcofpaa
