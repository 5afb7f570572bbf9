/- Of bailiwicklaw03 (handle): what Void answers, for every book. Conditions: generations at most the last one. -/
import Derived.Test.YtnicipemkcofpaaT4
namespace Go.Proofs.Ytnicipemkcofpaa
open Go.RowKit

theorem rslot_some {f g : Nat → Nat} {h : Int} {n i : Nat} (hr : rslot f g h n = some i) : i < n ∧ g i = 1 ∧ (i : Int) + 256 * f i + 1 = h := by
  refine ⟨rslot_lt hr, ?_⟩
  unfold rslot at hr
  have := List.find?_some hr
  simpa using this
theorem rslot_none {f g : Nat → Nat} {h : Int} {n : Nat} (hr : rslot f g h n = none) : ∀ i, i < n → ¬ (g i = 1 ∧ (i : Int) + 256 * f i + 1 = h) := by
  intro i hi
  unfold rslot at hr
  have := List.find?_eq_none.1 hr i (List.mem_range.2 hi)
  simpa using this

set_option maxHeartbeats 400000 in
theorem good_t (cs : Array Value) (f g : Nat → Nat) (h i : Nat) (hcs : cs = bk f g) (hf : ∀ j, f j ≤ 8388607) (hr : rslot f g h 32 = some i) (w : World) :
    Calls Try.prog 15 #[.agg cs, .int .u32 h] w fun e w' => e = .returned (.bool true) ∧ Below w.heap.size w w' := by
  obtain ⟨hi, hg, hh⟩ := rslot_some hr
  have h0 := hf i
  refine (good_at cs h i (f i) 1 (by omega) hi h0 (by omega) (f i) 1 (by rw [hcs, bk_kind f g hi, hg]) (by rw [hcs, bk_age f g hi]) w).mono ?_
  rintro e w' ⟨rfl, hb⟩
  exact ⟨ret_bool (by simp), hb⟩

set_option maxHeartbeats 400000 in
theorem good_f (cs : Array Value) (f g : Nat → Nat) (h : Nat) (hcs : cs = bk f g) (_hf : ∀ j, f j ≤ 8388607) (h2 : h < 4294967296) (hr : rslot f g h 32 = none) (w : World) :
    Calls Try.prog 15 #[.agg cs, .int .u32 h] w fun e w' => e = .returned (.bool false) ∧ Below w.heap.size w w' := by
  by_cases hn : 1 ≤ h ∧ ((h : Int) - 1) % 256 < 32 ∧ ((h : Int) - 1) / 256 ≤ 8388607
  · obtain ⟨a1, a2, a3⟩ := hn
    have e1 : ∃ i : Nat, (i : Int) = ((h : Int) - 1) % 256 := ⟨(((h : Int) - 1) % 256).toNat, by omega⟩
    have e2 : ∃ a : Nat, (a : Int) = ((h : Int) - 1) / 256 := ⟨(((h : Int) - 1) / 256).toNat, by omega⟩
    obtain ⟨i, hi⟩ := e1
    obtain ⟨a, ha⟩ := e2
    have hi32 : i < 32 := by omega
    refine (good_at cs h i a 1 (by omega) hi32 (by omega) (by omega) (f i) (g i) (by rw [hcs, bk_kind f g hi32]) (by rw [hcs, bk_age f g hi32]) w).mono ?_
    rintro e w' ⟨rfl, hb⟩
    refine ⟨ret_bool ?_, hb⟩
    have := rslot_none hr i hi32
    by_cases q1 : (f i : Int) = a
    · have q2 : ¬ ((g i : Int) = 1) := fun q2 => this ⟨by omega, by omega⟩
      simp [q2]
    · simp [q1]
  · exact good_none cs h h2 hn w

/-- What is behind Void: generations, kinds, and whether it was done. -/
def vf (f g : Nat → Nat) (h : Int) : Nat → Nat := match rslot f g h 32 with | some i => if f i = 8388607 then f else upd f i (f i + 1) | none => f
def vg (f g : Nat → Nat) (h : Int) : Nat → Nat := match rslot f g h 32 with | some i => if f i = 8388607 then upd g i 2 else upd g i 0 | none => g
def vb (f g : Nat → Nat) (h : Int) : Bool := (rslot f g h 32).isSome

theorem zero30 : ∃ zs : Array Value, zs.size = 64 ∧ ∀ w, (zeroValue 30).run Try.prog w = .ok (.agg zs) w := ⟨_, rfl, Try.zeroValue30⟩
theorem zero34 : ∃ zs : Array Value, zs.size = 64 ∧ ∀ w, (zeroValue 34).run Try.prog w = .ok (.agg zs) w := ⟨_, rfl, Try.zeroValue34⟩

set_option maxHeartbeats 1000000 in
theorem void_no (cs : Array Value) (f g : Nat → Nat) (h : Nat) (hcs : cs = bk f g) (hf : ∀ j, f j ≤ 8388607) (h2 : h < 4294967296) (hr : rslot f g h 32 = none) (w : World) :
    Calls Try.prog 9 #[.agg cs, .int .u32 h] w fun e w' => e = .returned (.tuple #[.agg cs, .bool false]) ∧ Below w.heap.size w w' := by
  obtain ⟨zs, hzs, hz⟩ := zero30
  have HI := hide (show (Try.prog.info? 30).map (·.size) = some cs.size by rw [hcs, bk_size]; exact info30)
  have HO := hide (show cs.all (·.oneCell') = true by rw [hcs]; exact bk_one f g)
  have HN := hide (show zs.size = cs.size by rw [hcs, bk_size]; exact hzs)
  have HG := hide (good_f cs f g h hcs hf h2 hr)
  have HZ := hide hz
  have B0 := hide (show ∀ o, Blk ((w.alloc (.cells cs 30)).alloc o) w.heap.size 30 cs from fun o => (Blk.new w 30 cs).alloc o)
  have B1 := hide (show Blk ((w.alloc (.cells cs 30)).alloc (.cells zs 30)) (w.heap.size + 1) 30 zs from heap_alloc2_new w _ _)
  have hB := hide (show Below w.heap.size w ((w.alloc (.cells cs 30)).alloc (.cells zs 30)) from ((Below.refl _ _).alloc (Nat.le_refl _) _).alloc (by simp) _)
  clear hcs hf hr hzs hz
  go_enter Try.func9, Try.ntmps9
  go_wp2_with (first
    | (refine wpList_allocW rfl 30 rfl zs HZ.out ?_)
    | (refine wpList_load_rowW rfl 30 (.tmp 2) rfl w.heap.size rfl 30 cs _ (B0.out _) Try.underlying30 rfl HI.out ?_)
    | (go_at_call 15; refine (HG.out _).mono ?_; rintro e w1 ⟨rfl, hb⟩; have C0 := hide ((B0.out _).below hb (by simp only [World.size_alloc]; omega)); have C1 := hide (B1.out.below hb (by simp only [World.size_alloc]; omega)); have hC := hide (hB.out.trans (hb.mono (by simp only [World.size_alloc]; omega))); clear hb)
    | (refine wpList_load_rowW rfl 30 (.tmp 2) rfl w.heap.size rfl 30 cs _ C0.out Try.underlying30 rfl HI.out ?_)
    | (refine wpList_store_row rfl 30 (.tmp 4) (.tmp 12) rfl (w.heap.size + 1) cs rfl rfl 30 zs C1.out HI.out HN.out HO.out ?_))
  refine bodyPost_ret (results_cell2 rfl _ _ (w.heap.size + 1) 30 cs _ rfl (C1.out.row_ cs) Try.underlying30 rfl HI.out) rfl ?_
  exact ⟨rfl, below_row hC.out (by omega) _⟩

set_option maxHeartbeats 2000000 in
theorem void_yes (cs : Array Value) (f g : Nat → Nat) (h i : Nat) (hcs : cs = bk f g) (hf : ∀ j, f j ≤ 8388607) (hr : rslot f g h 32 = some i) (w : World) :
    Calls Try.prog 9 #[.agg cs, .int .u32 h] w fun e w' => e = .returned (.tuple #[.agg (bk (vf f g h) (vg f g h)), .bool true]) ∧ Below w.heap.size w w' := by
  obtain ⟨zs, hzs, hz⟩ := zero30
  obtain ⟨hi, hg, hh⟩ := rslot_some hr
  have hfi := hf i
  have HI := hide (show (Try.prog.info? 30).map (·.size) = some cs.size by rw [hcs, bk_size]; exact info30)
  have HN := hide (show zs.size = 64 from hzs)
  have HG := hide (good_t cs f g h i hcs hf hr)
  have HZ := hide hz
  have B0 := hide (show ∀ o, Blk ((w.alloc (.cells cs 30)).alloc o) w.heap.size 30 cs from fun o => (Blk.new w 30 cs).alloc o)
  have B1 := hide (show Blk ((w.alloc (.cells cs 30)).alloc (.cells zs 30)) (w.heap.size + 1) 30 zs from heap_alloc2_new w _ _)
  have hB := hide (show Below w.heap.size w ((w.alloc (.cells cs 30)).alloc (.cells zs 30)) from ((Below.refl _ _).alloc (Nat.le_refl _) _).alloc (by simp) _)
  have e1 : ((h : Int) - 1) % 256 = i := by omega
  have hs := slot_yes h (by omega) (by omega) (by omega) (by omega)
  rw [e1] at hs
  have HSL := hide hs
  have HC := hide hcs
  have cA : cs[i * 2]? = some (.int .u32 (f i)) := by rw [hcs, bk_age f g hi]
  have HA := hide cA
  have HK := hide (show cs[i * 2 + 1]? = some (.int .u8 1) by rw [hcs, bk_kind f g hi, hg]; rfl)
  by_cases hl : f i = 8388607
  · have hv : bk (vf f g h) (vg f g h) = bk f (upd g i 2) := by unfold vf vg; rw [hr]; simp [hl]
    have hset : cs.setIfInBounds (i * 2 + 1) (.int .u8 2) = bk (vf f g h) (vg f g h) := by rw [hv, hcs]; exact bk_setk f g 2 hi
    have hq : ((f i : Int) == 8388607) = true := by simp; omega
    have h1 := bk_one (vf f g h) (vg f g h)
    have h2 : (Try.prog.info? 30).map (·.size) = some (bk (vf f g h) (vg f g h)).size := by rw [bk_size]; exact info30
    have h3 : zs.size = (bk (vf f g h) (vg f g h)).size := by rw [bk_size]; exact hzs
    generalize bk (vf f g h) (vg f g h) = c2 at hset h1 h2 h3 ⊢
    have HD := hide (show ∀ w1 : World, Blk w1 w.heap.size 30 cs → Blk (w1.setCell ⟨w.heap.size, i * 2 + 1, none⟩ (.int .u8 2)) w.heap.size 30 c2 from fun w1 hb => hset ▸ hb.set_ (i * 2 + 1) (.int .u8 2))
    have H1 := hide h1
    have H2 := hide h2
    have H3 := hide h3
    clear hcs hf hr hzs hz hs e1 hh hg cA hv hl hset h1 h2 h3
    go_enter Try.func9, Try.ntmps9
    go_wp2_with (first
      | (refine wpList_allocW rfl 30 rfl zs HZ.out ?_)
      | (refine wpList_load_rowW rfl 30 (.tmp 2) rfl w.heap.size rfl 30 cs _ (B0.out _) Try.underlying30 rfl HI.out ?_)
      | (go_at_call 15; refine (HG.out _).mono ?_; rintro e w1 ⟨rfl, hb⟩; have C0 := hide ((B0.out _).below hb (by simp only [World.size_alloc]; omega)); have C1 := hide (B1.out.below hb (by simp only [World.size_alloc]; omega)); have hC := hide (hB.out.trans (hb.mono (by simp only [World.size_alloc]; omega))); clear hb; have hcell := (C0.out.cell (i * 2)).trans HA.out; have hfz := C0.out.frozen (i * 2 + 1); have hcell2 := (C0.out.cell (i * 2 + 1)).trans HK.out)
      | (go_at_call 13; refine (HSL.out _).mono ?_; rintro e w' ⟨rfl, rfl⟩)
      | (refine wpList_load_rowW rfl 30 (.tmp 2) rfl w.heap.size rfl 30 c2 _ (HD.out _ C0.out) Try.underlying30 rfl H2.out ?_)
      | (refine wpList_store_row rfl 30 (.tmp 4) (.tmp 38) rfl (w.heap.size + 1) c2 rfl rfl 30 zs (C1.out.far (by simp) _) H2.out H3.out H1.out ?_))
    refine bodyPost_ret (results_cell2 rfl _ _ (w.heap.size + 1) 30 c2 _ rfl ((C1.out.far (by simp) _).row_ c2) Try.underlying30 rfl H2.out) rfl ?_
    exact ⟨rfl, below_row (hC.out.setCell (by simp) _) (by omega) _⟩
  · have hv : bk (vf f g h) (vg f g h) = bk (upd f i (f i + 1)) (upd g i 0) := by unfold vf vg; rw [hr]; simp [hl]
    have hset : (cs.setIfInBounds (i * 2) (.int .u32 ((f i + 1 : Nat) : Int))).setIfInBounds (i * 2 + 1) (.int .u8 0) = bk (vf f g h) (vg f g h) := by
      rw [hv, hcs, bk_seta f g (f i + 1) hi]; exact bk_setk (upd f i (f i + 1)) g 0 hi
    have hq : ((f i : Int) == 8388607) = false := by simp; omega
    have h1 := bk_one (vf f g h) (vg f g h)
    have h2 : (Try.prog.info? 30).map (·.size) = some (bk (vf f g h) (vg f g h)).size := by rw [bk_size]; exact info30
    have h3 : zs.size = (bk (vf f g h) (vg f g h)).size := by rw [bk_size]; exact hzs
    generalize bk (vf f g h) (vg f g h) = c2 at hset h1 h2 h3 ⊢
    have HD := hide (show ∀ w1 : World, Blk w1 w.heap.size 30 cs → Blk ((w1.setCell ⟨w.heap.size, i * 2, none⟩ (.int .u32 ((f i : Int) + 1))).setCell ⟨w.heap.size, i * 2 + 1, none⟩ (.int .u8 0)) w.heap.size 30 c2 from fun w1 hb => hset ▸ (hb.set_ (i * 2) (.int .u32 ((f i : Int) + 1))).set_ (i * 2 + 1) (.int .u8 0))
    have H1 := hide h1
    have H2 := hide h2
    have H3 := hide h3
    clear hcs hf hr hzs hz hs e1 hh hg cA hv hl hset h1 h2 h3
    go_enter Try.func9, Try.ntmps9
    go_wp2_with (first
      | (refine wpList_allocW rfl 30 rfl zs HZ.out ?_)
      | (refine wpList_load_rowW rfl 30 (.tmp 2) rfl w.heap.size rfl 30 cs _ (B0.out _) Try.underlying30 rfl HI.out ?_)
      | (go_at_call 15; refine (HG.out _).mono ?_; rintro e w1 ⟨rfl, hb⟩; have C0 := hide ((B0.out _).below hb (by simp only [World.size_alloc]; omega)); have C1 := hide (B1.out.below hb (by simp only [World.size_alloc]; omega)); have hC := hide (hB.out.trans (hb.mono (by simp only [World.size_alloc]; omega))); clear hb; have hcell := (C0.out.cell (i * 2)).trans HA.out; have hfz := C0.out.frozen (i * 2 + 1); have hfz0 := C0.out.frozen (i * 2); have hcell2 := (C0.out.cell (i * 2 + 1)).trans HK.out)
      | (go_at_call 13; refine (HSL.out _).mono ?_; rintro e w' ⟨rfl, rfl⟩)
      | (refine wpList_load_rowW rfl 30 (.tmp 2) rfl w.heap.size rfl 30 c2 _ (HD.out _ C0.out) Try.underlying30 rfl H2.out ?_)
      | (refine wpList_store_row rfl 30 (.tmp 4) (.tmp 38) rfl (w.heap.size + 1) c2 rfl rfl 30 zs ((C1.out.far (by simp) _).far (by simp) _) H2.out H3.out H1.out ?_))
    refine bodyPost_ret (results_cell2 rfl _ _ (w.heap.size + 1) 30 c2 _ rfl (((C1.out.far (by simp) _).far (by simp) _).row_ c2) Try.underlying30 rfl H2.out) rfl ?_
    exact ⟨rfl, below_row ((hC.out.setCell (by simp) _).setCell (by simp) _) (by omega) _⟩
end Go.Proofs.Ytnicipemkcofpaa
