/- Of bailiwicklaw03 (handle): what the document's Void answers, if there is none, or at the last generation. Conditions: generations at most the last one. -/
import Derived.Test.YtnicipemkcofpaaT5
namespace Go.Proofs.Ytnicipemkcofpaa
open Go.RowKit

theorem upd_upd (f : Nat → Nat) (i a b : Nat) : upd (upd f i a) i b = upd f i b := by
  funext j; unfold upd; split <;> rfl
theorem rslotI_some {f g : Nat → Nat} {h : Int} {i : Nat} (hr : rslot f g h 32 = some i) : rslotI f g h = i := by unfold rslotI; rw [hr]
theorem rslotI_none {f g : Nat → Nat} {h : Int} (hr : rslot f g h 32 = none) : rslotI f g h = -1 := by unfold rslotI; rw [hr]

set_option maxHeartbeats 1000000 in
theorem rvoid_no (cs : Array Value) (f g : Nat → Nat) (h : Int) (hcs : cs = rk f g) (hf : ∀ j, f j ≤ 8388607) (hr : rslot f g h 32 = none) (w : World) :
    Calls Try.prog 10 #[.agg cs, .int .i64 h] w fun e w' => e = .returned (.tuple #[.agg cs, .bool false]) ∧ Below w.heap.size w w' := by
  obtain ⟨zs, hzs, hz⟩ := zero34
  have HI := hide (show (Try.prog.info? 34).map (·.size) = some cs.size by rw [hcs, rk_size]; exact info34)
  have HO := hide (show cs.all (·.oneCell') = true by rw [hcs]; exact rk_one f g)
  have HN := hide (show zs.size = cs.size by rw [hcs, rk_size]; exact hzs)
  have hg := rslot_any cs f g h hcs hf
  rw [rslotI_none hr] at hg
  have HG := hide hg
  have HZ := hide hz
  have B0 := hide (show ∀ o, Blk ((w.alloc (.cells cs 34)).alloc o) w.heap.size 34 cs from fun o => (Blk.new w 34 cs).alloc o)
  have B1 := hide (show Blk ((w.alloc (.cells cs 34)).alloc (.cells zs 34)) (w.heap.size + 1) 34 zs from heap_alloc2_new w _ _)
  have hB := hide (show Below w.heap.size w ((w.alloc (.cells cs 34)).alloc (.cells zs 34)) from ((Below.refl _ _).alloc (Nat.le_refl _) _).alloc (by simp) _)
  clear hcs hf hr hzs hz hg
  go_enter Try.func10, Try.ntmps10
  go_wp2_with (first
    | (refine wpList_allocW rfl 34 rfl zs HZ.out ?_)
    | (refine wpList_load_rowW rfl 34 (.tmp 2) rfl w.heap.size rfl 34 cs _ (B0.out _) Try.underlying34 rfl HI.out ?_)
    | (go_at_call 16; refine (HG.out _).mono ?_; rintro e w1 ⟨rfl, hb⟩; have C0 := hide ((B0.out _).below hb (by simp only [World.size_alloc]; omega)); have C1 := hide (B1.out.below hb (by simp only [World.size_alloc]; omega)); have hC := hide (hB.out.trans (hb.mono (by simp only [World.size_alloc]; omega))); clear hb)
    | (refine wpList_load_rowW rfl 34 (.tmp 2) rfl w.heap.size rfl 34 cs _ C0.out Try.underlying34 rfl HI.out ?_)
    | (refine wpList_store_row rfl 34 (.tmp 4) (.tmp 12) rfl (w.heap.size + 1) cs rfl rfl 34 zs C1.out HI.out HN.out HO.out ?_))
  refine bodyPost_ret (results_cell2 rfl _ _ (w.heap.size + 1) 34 cs _ rfl (C1.out.row_ cs) Try.underlying34 rfl HI.out) rfl ?_
  exact ⟨rfl, below_row hC.out (by omega) _⟩

set_option maxHeartbeats 2000000 in
theorem rvoid_last (cs : Array Value) (f g : Nat → Nat) (h : Int) (i : Nat) (hcs : cs = rk f g) (hf : ∀ j, f j ≤ 8388607) (hr : rslot f g h 32 = some i) (hl : f i = 8388607) (w : World) :
    Calls Try.prog 10 #[.agg cs, .int .i64 h] w fun e w' => e = .returned (.tuple #[.agg (rk (vf f g h) (vg f g h)), .bool true]) ∧ Below w.heap.size w w' := by
  obtain ⟨zs, hzs, hz⟩ := zero34
  obtain ⟨hi, hg1, hh⟩ := rslot_some hr
  have hfi := hf i
  have HI := hide (show (Try.prog.info? 34).map (·.size) = some cs.size by rw [hcs, rk_size]; exact info34)
  have HN := hide (show zs.size = 64 from hzs)
  have hg := rslot_any cs f g h hcs hf
  rw [rslotI_some hr] at hg
  have HG := hide hg
  have HZ := hide hz
  have B0 := hide (show ∀ o, Blk ((w.alloc (.cells cs 34)).alloc o) w.heap.size 34 cs from fun o => (Blk.new w 34 cs).alloc o)
  have B1 := hide (show Blk ((w.alloc (.cells cs 34)).alloc (.cells zs 34)) (w.heap.size + 1) 34 zs from heap_alloc2_new w _ _)
  have hB := hide (show Below w.heap.size w ((w.alloc (.cells cs 34)).alloc (.cells zs 34)) from ((Below.refl _ _).alloc (Nat.le_refl _) _).alloc (by simp) _)
  have HC := hide hcs
  have HA := hide (show cs[i]? = some (.int .i64 (f i)) by rw [hcs, rk_gen f g hi])
  have HK := hide (show cs[32 + i]? = some (.int .i64 1) by rw [hcs, rk_is f g hi, hg1]; rfl)
  have hv : rk (vf f g h) (vg f g h) = rk f (upd g i 2) := by unfold vf vg; rw [hr]; simp [hl]
  have hset : (cs.setIfInBounds (32 + i) (.int .i64 0)).setIfInBounds (32 + i) (.int .i64 2) = rk (vf f g h) (vg f g h) := by
    have e1 : cs.setIfInBounds (32 + i) (.int .i64 0) = rk f (upd g i 0) := by rw [hcs]; exact rk_seti f g 0 hi
    have e2 : (rk f (upd g i 0)).setIfInBounds (32 + i) (.int .i64 2) = rk f (upd (upd g i 0) i 2) := rk_seti f (upd g i 0) 2 hi
    rw [hv, e1, e2, upd_upd]
  have hq : ((f i : Int) == 8388607) = true := by simp; omega
  have h1 := rk_one (vf f g h) (vg f g h)
  have h2 : (Try.prog.info? 34).map (·.size) = some (rk (vf f g h) (vg f g h)).size := by rw [rk_size]; exact info34
  have h3 : zs.size = (rk (vf f g h) (vg f g h)).size := by rw [rk_size]; exact hzs
  generalize rk (vf f g h) (vg f g h) = c2 at hset h1 h2 h3 ⊢
  have HD := hide (show ∀ w1 : World, Blk w1 w.heap.size 34 cs → Blk ((w1.setCell ⟨w.heap.size, 32 + i, none⟩ (.int .i64 0)).setCell ⟨w.heap.size, 32 + i, none⟩ (.int .i64 2)) w.heap.size 34 c2 from fun w1 hb => hset ▸ (hb.set_ (32 + i) (.int .i64 0)).set_ (32 + i) (.int .i64 2))
  have HE := hide (show ∀ w1 : World, Blk w1 (w.heap.size + 1) 34 zs → Blk ((w1.setCell ⟨w.heap.size, 32 + i, none⟩ (.int .i64 0)).setCell ⟨w.heap.size, 32 + i, none⟩ (.int .i64 2)) (w.heap.size + 1) 34 zs from fun w1 hb => (hb.far (p := ⟨w.heap.size, 32 + i, none⟩) (by simp) _).far (p := ⟨w.heap.size, 32 + i, none⟩) (by simp) _)
  have H1 := hide h1
  have H2 := hide h2
  have H3 := hide h3
  clear hcs hf hr hzs hz hh hg hg1 hv hl hset h1 h2 h3
  go_enter Try.func10, Try.ntmps10
  go_wp2_with (first
    | (refine wpList_allocW rfl 34 rfl zs HZ.out ?_)
    | (refine wpList_load_rowW rfl 34 (.tmp 2) rfl w.heap.size rfl 34 c2 _ (HD.out _ C0.out) Try.underlying34 rfl H2.out ?_)
    | (refine wpList_load_rowW rfl 34 (.tmp 2) rfl w.heap.size rfl 34 cs _ (B0.out _) Try.underlying34 rfl HI.out ?_)
    | (go_at_call 16; refine (HG.out _).mono ?_; rintro e w1 ⟨rfl, hb⟩; have C0 := hide ((B0.out _).below hb (by simp only [World.size_alloc]; omega)); have C1 := hide (B1.out.below hb (by simp only [World.size_alloc]; omega)); have hC := hide (hB.out.trans (hb.mono (by simp only [World.size_alloc]; omega))); clear hb; have hcell := (C0.out.cell i).trans HA.out; have hfz := C0.out.frozen (32 + i); have hcell2 := (C0.out.cell (32 + i)).trans HK.out)
    | (refine wpList_store_row rfl 34 (.tmp 4) (.tmp 32) rfl (w.heap.size + 1) c2 rfl rfl 34 zs (HE.out _ C1.out) H2.out H3.out H1.out ?_))
  refine bodyPost_ret (results_cell2 rfl _ _ (w.heap.size + 1) 34 c2 _ rfl ((HE.out _ C1.out).row_ c2) Try.underlying34 rfl H2.out) rfl ?_
  exact ⟨rfl, below_row ((hC.out.setCell (by simp) _).setCell (by simp) _) (by omega) _⟩
end Go.Proofs.Ytnicipemkcofpaa
