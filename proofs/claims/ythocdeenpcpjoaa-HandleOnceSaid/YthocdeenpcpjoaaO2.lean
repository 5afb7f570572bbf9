/- Of bailiwicklaw03 (handle): the body of the law HandleOnce. Conditions: at most 300 acts, at most 100 generations. -/
import Derived.Test.YthocdeenpcpjoaaO1
import Derived.Deep.CutRange
import Derived.Deep.LoopGhost
import Derived.IntWalk
import Derived.Deep.RegionHeld3
namespace Go.Proofs.Ythocdeenpcpjoaa
open Go.RowKit

/-- Behind k acts. -/
def Once (w : World) (P BI BG k : Nat) (W : World) : Prop :=
  ∃ f g MI szI, (∀ j, f j ≤ 8388607) ∧ Past f g MI ∧ Blk W P 30 (bk f g) ∧ Mp W BI k MI szI ∧ Mp W BG k (fun y => vb f g y) (issuedOf f g 32).length ∧ Below w.heap.size w W

/-- What the end needs. -/
structure Ben (w : World) (P BG ng : Nat) (x : Array Value) (MG : Nat → Bool) (szG : Nat) (W : World) : Prop where
  b : Blk W P 30 x
  g : Mp W BG ng MG szG
  u : Below w.heap.size w W
theorem Ben.below {w W W' : World} {P BG ng : Nat} {x : Array Value} {MG : Nat → Bool} {szG : Nat} (h : Ben w P BG ng x MG szG W) (hb : Below W.heap.size W W') : Ben w P BG ng x MG szG W' :=
  ⟨h.b.below hb h.b.lt, h.g.below hb, h.u.trans (hb.mono h.u.size)⟩
theorem Ben.drew {w W : World} {P BG ng : Nat} {x : Array Value} {MG : Nat → Bool} {szG : Nat} (h : Ben w P BG ng x MG szG W) : Ben w P BG ng x MG szG W.drew := ⟨h.b, h.g, h.u.drew⟩
/-- What goes on from region to region. -/
structure Bun (w : World) (P BI BG ni ng : Nat) (x : Array Value) (MI : Nat → Bool) (szI : Nat) (MG : Nat → Bool) (szG : Nat) (W : World) : Prop where
  b : Blk W P 30 x
  i : Mp W BI ni MI szI
  g : Mp W BG ng MG szG
  u : Below w.heap.size w W
section
variable {w W W' : World} {P BI BG ni ng : Nat} {x : Array Value} {MI : Nat → Bool} {szI : Nat} {MG : Nat → Bool} {szG : Nat}
theorem Bun.below (h : Bun w P BI BG ni ng x MI szI MG szG W) (hb : Below W.heap.size W W') : Bun w P BI BG ni ng x MI szI MG szG W' :=
  ⟨h.b.below hb h.b.lt, h.i.below hb, h.g.below hb, h.u.trans (hb.mono h.u.size)⟩
theorem Bun.drew (h : Bun w P BI BG ni ng x MI szI MG szG W) : Bun w P BI BG ni ng x MI szI MG szG W.drew := ⟨h.b, h.i, h.g, h.u.drew⟩
theorem Bun.new (h : Bun w P BI BG ni ng x MI szI MG szG W) (z y : Array Value) (t : TypeId) : Bun w P BI BG ni ng x MI szI MG szG ((W.alloc (.cells z t)).setRow W.heap.size y) :=
  ⟨(h.b.alloc _).rowFar (Nat.ne_of_lt h.b.lt) y, (h.i.alloc _).row (Blk.new W t z) y, (h.g.alloc _).row (Blk.new W t z) y, below_new h.u z y t⟩
theorem Bun.setP (h : Bun w P BI BG ni ng x MI szI MG szG W) (hP : w.heap.size ≤ P) (y : Array Value) : Bun w P BI BG ni ng y MI szI MG szG (W.setRow P y) :=
  ⟨h.b.row_ y, h.i.row h.b y, h.g.row h.b y, below_row h.u hP y⟩
end

theorem once_start {w W : World} {P BI BG : Nat} {f : Nat → Nat} (hf : ∀ j, f j ≤ 8388607) (h1 : Blk W P 30 (bk f (fun _ => 0))) (h2 : Mp W BI 0 (fun _ => false) 0) (h3 : Mp W BG 0 (fun _ => false) 0) (h4 : Below w.heap.size w W) : Once w P BI BG 0 W := by
  refine ⟨f, fun _ => 0, fun _ => false, 0, hf, fun h hh => by simp at hh, h1, h2, ?_, h4⟩
  have e1 : (fun y : Nat => vb f (fun _ => 0) y) = fun _ => false := by
    funext y
    rw [Bool.eq_false_iff]
    intro hv
    obtain ⟨i, _, h0, _⟩ := vb_iff.1 hv
    omega
  have e2 : (issuedOf f (fun _ => 0) 32).length = 0 := by simp [issuedOf]
  rw [e1, e2]
  exact h3

set_option maxRecDepth 100000 in
set_option maxHeartbeats 40000000 in
theorem once_head (A : Option Addr) (len cap m : Nat) (zs : List Int) (A2 : Option Addr) (n cap2 : Nat) (ds hs : Nat → Nat) (w : World) (hn : n ≤ 300) (hlen : len ≤ 100) (hm : (len ≤ 32 ∧ m = len) ∨ (33 ≤ len ∧ m = 32))
    (hz : Nums w .u32 A len zs) (hw : ∀ j, 0 ≤ zs.getD j 0 ∧ zs.getD j 0 < 4294967296) (hacts : Acts w A2 n ds hs) (hhs : ∀ j, hs j < 4294967296) :
    Calls Try.prog 4 #[.slice A len cap, .slice A2 n cap2] w fun e w' => e = .returned (.bool true) ∧ Below w.heap.size w w' := by
  have hA : Calls Try.prog 6 #[.slice A len cap] w fun e w' => e = .returned (.agg (bk (agesOf zs m) (fun _ => 0))) ∧ Below w.heap.size w w' := by
    rcases hm with ⟨h1, rfl⟩ | ⟨h1, rfl⟩
    · exact aged_few A m cap zs w (by omega) h1 hz hw
    · exact aged_many A len cap zs w (by omega) h1 hz hw
  have HA := hide hA
  have HACT := hide hacts
  have HHS := hide hhs
  have Z0 := hide zero30b
  have N0 := hide (show (Try.prog.info? 30).map (·.size) = some (bk (agesOf zs m) (fun _ => 0)).size by rw [bk_size]; exact info30)
  have O0 := hide (bk_one (agesOf zs m) (fun _ => 0))
  have T0 := hide (show (bk (fun _ => 0) (fun _ => 0)).size = (bk (agesOf zs m) (fun _ => 0)).size by rw [bk_size, bk_size])
  have T64 := hide (bk_size (fun _ => 0) (fun _ => 0))
  have HE := hide (show ∃ f : Nat → Nat, bk (agesOf zs m) (fun _ => 0) = bk f (fun _ => 0) ∧ ∀ j, f j ≤ 8388607 from ⟨_, rfl, agesOf_le zs m⟩)
  generalize bk (agesOf zs m) (fun _ => 0) = a at *
  generalize bk (fun _ => 0) (fun _ => 0) = za at *
  have hmm := @run_makeMap Try.prog
  clear hA hz hw hacts hhs hm
  go_enter Try.func4, Try.ntmps4
  go_upto_region 4 with (first
    | (go_at_call 6; refine HA.out.mono ?_; rintro e w1 ⟨rfl, hb⟩; have L1 := hide hb; clear hb)
    | (refine wpList_allocW rfl 30 rfl za Z0.out ?_)
    | (refine wpList_store_row rfl 30 (.tmp 5) (.tmp 29) rfl w1.heap.size a rfl rfl 30 za (Blk.new w1 30 za) N0.out T0.out O0.out ?_))
  have F1 := hide ((Blk.new w1 30 za).row_ a)
  have L2 := hide (below_new L1.out za a 30)
  have hP := L1.out.size
  generalize (w1.alloc (.cells za 30)).setRow w1.heap.size a = W1 at F1 L2 ⊢
  generalize w1.heap.size = P at F1 hP ⊢
  go_upto_region 6 with (fail)
  have MI0 := hide ((Mp.made W1).alloc (.map #[] 0))
  have MG0 := hide (Mp.made (W1.alloc (.map #[] 0)))
  have F2 := hide ((F1.out.alloc (.map #[] 0)).alloc (.map #[] 0))
  have L3 := hide ((L2.out.alloc L2.out.size (.map #[] 0)).alloc (by have := L2.out.size; simp; omega) (.map #[] 0))
  have hBI := L2.out.size
  have hBG := World.size_alloc W1 (.map #[] 0)
  have HBG := hide hBG
  have MG1 := MG0.out
  rw [hBG] at MG1
  clear hBG MG0
  have hST : ∃ f : Nat → Nat, (∀ j, f j ≤ 8388607) ∧ Once w P W1.heap.size (W1.heap.size + 1) 0 ((W1.alloc (.map #[] 0)).alloc (.map #[] 0)) := by
    obtain ⟨f, e, hf⟩ := HE.out
    exact ⟨f, hf, once_start hf (e ▸ F2.out) MI0.out MG1 L3.out⟩
  obtain ⟨_, _, hst⟩ := hST
  have HST := hide hst
  have hBG : w.heap.size ≤ W1.heap.size + 1 := by omega
  have hlt1 := F1.out.lt
  have hPI : P < W1.heap.size := hlt1
  have hPG : P < W1.heap.size + 1 := by omega
  have hIG : W1.heap.size < W1.heap.size + 1 := by omega
  clear MI0 MG1 F2 L3 HE hst F1 L2 HBG hlt1
  generalize (W1.alloc (.map #[] 0)).alloc (.map #[] 0) = W2 at HST ⊢
  generalize W1.heap.size + 1 = BG at HST hBG hPG hIG ⊢
  generalize W1.heap.size = BI at HST hBI hPI hIG ⊢
  go_wp2
  go_loopg [8] n (fun gk i wr => ∃ k : Nat, k ≤ n ∧ gk = n - k ∧ i = .int .i64 k ∧ Once w P BI BG k wr)
  case atStart => exact ⟨0, Nat.zero_le _, rfl, rfl, HST.out⟩
  case round =>
    obtain ⟨k, hk, rfl, rfl, hinv⟩ := hrel
    have HI := hide hinv
    clear hinv HST
    by_cases hlt : k < n
    · obtain ⟨f, g, MI, szI, hf, hp, F, mi, mg, B⟩ := HI.out
      obtain ⟨ab, off, rfl, hab, hcs⟩ := HACT.out (by omega)
      have c1 := (B.cell (p := ⟨ab, off + k * 2, none⟩) hab).trans (hcs k hlt).1
      have c2 := (B.cell (p := ⟨ab, off + k * 2 + 1, none⟩) hab).trans (hcs k hlt).2
      have hh := HHS.out k
      have HBU := hide (show Bun w P BI BG k k (bk f g) MI szI (fun y => vb f g y) (issuedOf f g 32).length wr from ⟨F, mi, mg, B⟩)
      have CW1 := hide (hcs k hlt).1
      have CW2 := hide (hcs k hlt).2
      have HP := hide hp
      have HFL := hide hf
      have C1 := hide c1
      have C2 := hide c2
      have hk2 : k < 100000 := by omega
      clear hcs F B HI mi mg hp hf c2
      go_upto_if 43 with (fail)
      go_cut [12] from 32 to 123 (fun _ wx => Once w P BI BG (k + 1) wx)
      case first =>
        by_cases hd2 : 2 ≤ ds k
        · have hd3 : 1 < (ds k : Int) := by omega
          clear hd2 C1 c1
          cases hfr : freeAt g 32 with
          | none =>
            have HV := hide (show ∀ w, Calls Try.prog 11 #[.agg (bk f g)] w fun e w' => e = .returned (.tuple #[.agg (bk f g), .int .u32 0, .bool false]) ∧ Below w.heap.size w w' from fun w => by
              have q := issue_out f g HFL.out w
              have q1 : ig g = g := by unfold ig; rw [hfr]
              have q2 : ih f g = 0 := by unfold ih; rw [hfr]
              have q3 : ib g = false := by unfold ib; rw [hfr]; rfl
              rw [q1, q2, q3] at q
              exact q)
            have HRES := hide (show ∀ W7, Bun w P BI BG k k (bk f g) MI szI (fun y => vb f g y) (issuedOf f g 32).length W7 → Once w P BI BG (k + 1) W7 from fun W7 u => ⟨f, g, _, _, HFL.out, HP.out, u.b, u.i.more (by omega), u.g.more (by omega), u.u⟩)
            have OC := hide (bk_one f g)
            have NC := hide (show (Try.prog.info? 30).map (·.size) = some (bk f g).size by rw [bk_size]; exact info30)
            have TC := hide (show za.size = (bk f g).size by rw [bk_size]; exact T64.out)
            have TAC := hide (show (bk f g).size = (bk f g).size from rfl)
            have NA := hide (show (Try.prog.info? 30).map (·.size) = some (bk f g).size by rw [bk_size]; exact info30)
            clear hfr
            generalize bk f g = ba at *
            go_upto_region 11 with (first | (refine wpList_load_rowW rfl 30 (.tmp 5) rfl P rfl 30 ba _ HBU.out.b Try.underlying30 rfl NA.out ?_) | (go_at_call 11; refine (HV.out _).mono ?_; rintro e w5 ⟨rfl, hb⟩; have U2 := hide (HBU.out.below hb); clear hb) | (refine wpList_allocW rfl 30 rfl za Z0.out ?_) | (refine wpList_store_row rfl 30 (.tmp 9) (.tmp 47) rfl w5.heap.size ba rfl rfl 30 za (Blk.new w5 30 za) NC.out TC.out OC.out ?_))
            have U3 := hide (U2.out.new za ba 30)
            have E3 := hide ((Blk.new w5 30 za).row_ ba)
            generalize (w5.alloc (.cells za 30)).setRow w5.heap.size ba = W3 at U3 E3 ⊢
            generalize w5.heap.size = X at E3 ⊢
            clear U2
            go_upto_region 12 with (first | (refine wpList_load_rowW rfl 30 (.tmp 9) rfl X rfl 30 ba _ E3.out Try.underlying30 rfl NC.out ?_) | (refine wpList_store_row rfl 30 (.tmp 5) (.tmp 50) rfl P ba rfl rfl 30 ba U3.out.b NC.out rfl OC.out ?_))
            have U4 := hide (U3.out.setP hP ba)
            generalize W3.setRow P ba = W4 at U4 ⊢
            clear U3 E3
            go_wp2
            go_meet
            exact HRES.out _ U4.out
          | some i =>
            have e2 := vb_new (f := f) hfr
            have e3 := Past.new HP.out hfr
            have hN32 := ih_lt f g HFL.out
            have hN0 : 0 < ih f g := by unfold ih; rw [hfr]; exact Nat.succ_pos _
            have HV := hide (show ∀ w, Calls Try.prog 11 #[.agg (bk f g)] w fun e w' => e = .returned (.tuple #[.agg (bk f (ig g)), .int .u32 (ih f g), .bool true]) ∧ Below w.heap.size w w' from (show ib g = true by unfold ib; rw [hfr]; rfl) ▸ issue_out f g HFL.out)
            have HRES := hide (show ∀ W7, Blk W7 P 30 (bk f (ig g)) → Mp W7 BI (k + 1) (fun y => y == ih f g || MI y) (if MI (ih f g) then szI else szI + 1) → Mp W7 BG (k + 1) (fun y => y == ih f g || vb f g y) (if vb f g (ih f g) then (issuedOf f g 32).length else (issuedOf f g 32).length + 1) → Below w.heap.size w W7 → Once w P BI BG (k + 1) W7 from fun W7 b i gg u => ⟨f, ig g, _, _, HFL.out, Past.issue HP.out hfr, b, i, by
              rw [e2, if_neg (by simp)] at gg
              have q1 : (fun y : Nat => vb f (ig g) y) = fun y => y == ih f g || vb f g y := by funext y; exact vb_issue hfr y
              rw [q1, len_issue hfr]
              exact gg, u⟩)
            have NC := hide (show (Try.prog.info? 30).map (·.size) = some (bk f (ig g)).size by rw [bk_size]; exact info30)
            have OC := hide (bk_one f (ig g))
            have TC := hide (show za.size = (bk f (ig g)).size by rw [bk_size]; exact T64.out)
            have TAC := hide (show (bk f g).size = (bk f (ig g)).size by rw [bk_size, bk_size])
            have NA := hide (show (Try.prog.info? 30).map (·.size) = some (bk f g).size by rw [bk_size]; exact info30)
            clear hfr e2 
            generalize bk f (ig g) = c1 at HV HRES NC OC TC TAC
            generalize ih f g = hN at HV HRES hN32 hN0 e3
            generalize bk f g = ba at *
            skip
            go_upto_region 11 with (first | (refine wpList_load_rowW rfl 30 (.tmp 5) rfl P rfl 30 ba _ HBU.out.b Try.underlying30 rfl NA.out ?_) | (go_at_call 11; refine (HV.out _).mono ?_; rintro e w5 ⟨rfl, hb⟩; have U2 := hide (HBU.out.below hb); clear hb) | (refine wpList_allocW rfl 30 rfl za Z0.out ?_) | (refine wpList_store_row rfl 30 (.tmp 9) (.tmp 47) rfl w5.heap.size c1 rfl rfl 30 za (Blk.new w5 30 za) NC.out TC.out OC.out ?_))
            have U3 := hide (U2.out.new za c1 30)
            have E3 := hide ((Blk.new w5 30 za).row_ c1)
            generalize (w5.alloc (.cells za 30)).setRow w5.heap.size c1 = W3 at U3 E3 ⊢
            generalize w5.heap.size = X at E3 ⊢
            clear U2
            go_upto_region 12 with (first | (refine wpList_load_rowW rfl 30 (.tmp 9) rfl X rfl 30 c1 _ E3.out Try.underlying30 rfl NC.out ?_) | (refine wpList_store_row rfl 30 (.tmp 5) (.tmp 50) rfl P c1 rfl rfl 30 ba U3.out.b NC.out TAC.out OC.out ?_))
            have U4 := hide (U3.out.setP hP c1)
            generalize W3.setRow P c1 = W4 at U4 ⊢
            clear U3 E3
            go_upto_region 15 with (first | (refine wpList_look rfl (.tmp 53) (.tmp 54) rfl BI k MI szI hN hN32 rfl rfl U4.out.i ?_))
            clear e3 hN0
            go_upto_region 16 with (first | (refine wpList_mark rfl (.tmp 70) (.tmp 71) rfl BI k MI szI hN hN32 hk2 rfl rfl U4.out.i ?_; intro w6 hm6 hg6))
            have V1 := hide (U4.out.b.grown hg6 (by simp; omega))
            have V2 := hide (U4.out.g.kept hg6 (by simp; omega))
            have V3 := hide (U4.out.u.grown hg6 U4.out.u.size (fun q hq => by cases hq; exact hBI))
            have V4 := hide hm6
            clear U4 hm6 hg6
            go_wp2_with (first | (refine wpList_mark rfl (.tmp 72) (.tmp 73) rfl BG k _ _ hN hN32 hk2 rfl rfl V2.out ?_; intro w7 hm7 hg7))
            have X1 := hide (V1.out.grown hg7 (by simp; omega))
            have X2 := hide (V4.out.kept hg7 (by simp; omega))
            have X3 := hide (V3.out.grown hg7 V3.out.size (fun q hq => by cases hq; exact hBG))
            have X4 := hide hm7
            clear hm7 hg7
            try simp only [Act.put, List.setIfInBounds_toArray, List.set_cons_zero, List.set_cons_succ]
            go_meet
            exact HRES.out _ X1.out X2.out X4.out X3.out
        · have hd3 : ¬ 1 < (ds k : Int) := by omega
          clear C1 c1
          go_upto_region 17 with (fail)
          have hsl0 : ∃ sl : Nat, (hs k : Int).tmod 32 = (sl : Int) ∧ sl < 32 := by
            rw [Int.tmod_eq_emod_of_nonneg (by omega)]
            exact ⟨hs k % 32, by omega, by omega⟩
          obtain ⟨sl, hmt, hsl32⟩ := hsl0
          have hat : ∃ (hA : Nat) (isA : Bool), hA < 4294967296 ∧ vb f g (hA : Int) = isA ∧ ∀ w, Calls Try.prog 17 #[.agg (bk f g), .int .i64 sl] w fun e w' => e = .returned (.tuple #[.int .u32 hA, .bool isA]) ∧ Below w.heap.size w w' := by
            by_cases hg1 : g sl = 1
            · have := HFL.out sl
              refine ⟨256 * f sl + sl + 1, true, by omega, vb_some (rslot_of hsl32 hg1), at_yes _ sl (f sl) hsl32 this (by rw [bk_kind f g hsl32, hg1]; rfl) (bk_age f g hsl32)⟩
            · refine ⟨0, false, by omega, ?_, at_no _ sl (g sl) hsl32 (by simp; omega) (bk_kind f g hsl32)⟩
              rw [Bool.eq_false_iff]
              intro hv
              obtain ⟨j, h1, h2, h3⟩ := vb_iff.1 hv
              omega
          obtain ⟨hA, isA, hA32, hisA, hat⟩ := hat
          have HAT := hide hat
          have HIS := hide hisA
          have hh := HHS.out k
          have hw1 : IntKind.i64.wrap (sl : Int) = sl := IntWalk.i64_in _ (by omega)
          have hLA : (Try.prog.info? 30).map (·.size) = some (bk f g).toList.length := by have := bk_size f g; rw [Array.length_toList, this]; exact info30
          have HLA := hide hLA
          have hu30 := Try.underlying30
          clear hat hisA
          have hba : ∃ ba, ba = bk f g := ⟨_, rfl⟩
          obtain ⟨ba, hba⟩ := hba
          rw [← hba] at hLA
          have HB2 := HBU.out
          rw [← hba] at HB2
          have HBU2 := hide HB2
          clear HB2
          have HA2 := HAT.out
          rw [← hba] at HA2
          have HAT2 := hide HA2
          clear HA2
          have HBA := hide hba
          clear hba HLA HAT HBU
          have FS := HBU2.out.drew
          refine wp_region_noPanic ?_
          refine wp_region_held_drew (S := fun w' => Bun w P BI BG k k ba MI szI (fun y => vb f g y) (issuedOf f g 32).length w') (by kernel_rfl) FS (fun _ => ?_)
          refine wpAnyH_take (i := 0) (v := .agg ba) rfl (by kernel_rfl) (by kernel_rfl) (by kernel_rfl) (fun _ _ _ h => h) (yieldsIf_load_mid (by rfl) 30 (.tmp 5) rfl P 0 rfl ba.toList _ (fun _ h => h.b.range) hu30 rfl hLA) FS ?_
          try simp only [Act.put, List.getElem_toArray, List.getElem_cons_succ, List.getElem_cons_zero, List.setIfInBounds_toArray, List.set_cons_zero, List.set_cons_succ]
          refine wpAnyH_take (i := 1) (v := .slice (some ⟨ab, off, none⟩) n cap2) rfl (by kernel_rfl) (by kernel_rfl) (by kernel_rfl) (fun _ _ _ h => h) (Or.inl ⟨by rfl, by intro w' hw'; go_simp⟩) FS ?_
          try simp only [Act.put, List.getElem_toArray, List.getElem_cons_succ, List.getElem_cons_zero, List.setIfInBounds_toArray, List.set_cons_zero, List.set_cons_succ]
          refine wpAnyH_take (i := 2) (v := .int .i64 k) rfl (by kernel_rfl) (by kernel_rfl) (by kernel_rfl) (fun _ _ _ h => h) (Or.inl ⟨by rfl, by intro w' hw'; go_simp⟩) FS ?_
          try simp only [Act.put, List.getElem_toArray, List.getElem_cons_succ, List.getElem_cons_zero, List.setIfInBounds_toArray, List.set_cons_zero, List.set_cons_succ]
          refine wpAnyH_take (i := 3) (v := .pointer (some ⟨ab, off + k * 2, none⟩)) rfl (by kernel_rfl) (by kernel_rfl) (by kernel_rfl) (fun _ _ _ h => h) (Or.inl ⟨by rfl, by intro w' hw'; go_simp⟩) FS ?_
          try simp only [Act.put, List.getElem_toArray, List.getElem_cons_succ, List.getElem_cons_zero, List.setIfInBounds_toArray, List.set_cons_zero, List.set_cons_succ]
          refine wpAnyH_take (i := 4) (v := .pointer (some ⟨ab, off + k * 2 + 1, none⟩)) rfl (by kernel_rfl) (by kernel_rfl) (by kernel_rfl) (fun _ _ _ h => h) (Or.inl ⟨by rfl, by intro w' hw'; go_simp⟩) FS ?_
          try simp only [Act.put, List.getElem_toArray, List.getElem_cons_succ, List.getElem_cons_zero, List.setIfInBounds_toArray, List.set_cons_zero, List.set_cons_succ]
          refine wpAnyH_take (i := 5) (v := .int .u32 (hs k : Int)) rfl (by kernel_rfl) (by kernel_rfl) (by kernel_rfl) (fun _ _ _ h => h) (Or.inl ⟨by rfl, by intro w' hw'; have hc := (hw'.u.cell (p := ⟨ab, off + k * 2 + 1, none⟩) hab).trans CW2.out; go_simp⟩) FS ?_
          try simp only [Act.put, List.getElem_toArray, List.getElem_cons_succ, List.getElem_cons_zero, List.setIfInBounds_toArray, List.set_cons_zero, List.set_cons_succ]
          refine wpAnyH_take (i := 6) (v := .int .u32 (sl : Int)) rfl (by kernel_rfl) (by kernel_rfl) (by kernel_rfl) (fun _ _ _ h => h) (Or.inl ⟨by rfl, by intro w' hw'; go_simp⟩) FS ?_
          try simp only [Act.put, List.getElem_toArray, List.getElem_cons_succ, List.getElem_cons_zero, List.setIfInBounds_toArray, List.set_cons_zero, List.set_cons_succ]
          refine wpAnyH_take (i := 7) (v := .int .i64 (sl : Int)) rfl (by kernel_rfl) (by kernel_rfl) (by kernel_rfl) (fun _ _ _ h => h) (Or.inl ⟨by rfl, by intro w' hw'; go_simp⟩) FS ?_
          try simp only [Act.put, List.getElem_toArray, List.getElem_cons_succ, List.getElem_cons_zero, List.setIfInBounds_toArray, List.set_cons_zero, List.set_cons_succ]
          refine wpAnyH_ready (rs := [8]) (by kernel_rfl) (by simp) ?_
          refine AllReadyH.cons rfl (fun K hK => ?_) AllReadyH.nil
          go_simp
          refine (HAT2.out _).mono ?_
          rintro e w1 ⟨rfl, hb⟩
          have FS1 := FS.below hb
          clear hb FS
          refine hK.out _ _ FS1 (fun _ => ?_)
          clear hK K
          try simp only [Act.put, List.getElem_toArray, List.getElem_cons_succ, List.getElem_cons_zero, List.setIfInBounds_toArray, List.set_cons_zero, List.set_cons_succ]
          refine wpAnyH_take (i := 9) (v := .tuple #[.int .u32 (hA : Int), .bool isA]) rfl (by kernel_rfl) (by kernel_rfl) (by kernel_rfl) (fun _ _ _ h => h) (Or.inl ⟨by rfl, by intro w' hw'; go_simp⟩) FS1 ?_
          try simp only [Act.put, List.getElem_toArray, List.getElem_cons_succ, List.getElem_cons_zero, List.setIfInBounds_toArray, List.set_cons_zero, List.set_cons_succ]
          refine wpAnyH_take (i := 10) (v := .int .u32 (hA : Int)) rfl (by kernel_rfl) (by kernel_rfl) (by kernel_rfl) (fun _ _ _ h => h) (Or.inl ⟨by rfl, by intro w' hw'; go_simp⟩) FS1 ?_
          try simp only [Act.put, List.getElem_toArray, List.getElem_cons_succ, List.getElem_cons_zero, List.setIfInBounds_toArray, List.set_cons_zero, List.set_cons_succ]
          refine wpAnyH_take (i := 11) (v := .bool isA) rfl (by kernel_rfl) (by kernel_rfl) (by kernel_rfl) (fun _ _ _ h => h) (Or.inl ⟨by rfl, by intro w' hw'; go_simp⟩) FS1 ?_
          try simp only [Act.put, List.getElem_toArray, List.getElem_cons_succ, List.getElem_cons_zero, List.setIfInBounds_toArray, List.set_cons_zero, List.set_cons_succ]
          refine wpAnyH_ready (rs := [12]) (by kernel_rfl) (by simp) ?_
          refine AllReadyH.cons rfl (fun K hK => ?_) AllReadyH.nil
          go_simp
          refine hK.out _ _ FS1 (fun _ => ?_)
          clear hK K
          try simp only [Act.put, List.getElem_toArray, List.getElem_cons_succ, List.getElem_cons_zero, List.setIfInBounds_toArray, List.set_cons_zero, List.set_cons_succ]
          refine wpAnyH_ready (rs := [13]) (by kernel_rfl) (by simp) ?_
          refine AllReadyH.cons rfl (fun K hK => ?_) AllReadyH.nil
          go_simp
          refine hK.out _ _ FS1 (fun _ => ?_)
          clear hK K
          try simp only [Act.put, List.getElem_toArray, List.getElem_cons_succ, List.getElem_cons_zero, List.setIfInBounds_toArray, List.set_cons_zero, List.set_cons_succ]
          refine wpAnyH_done (by kernel_rfl) ?_ _
          refine NoPanic.normal ?_
          have U1 := hide FS1
          have cD := (U1.out.u.cell (p := ⟨ab, off + k * 2, none⟩) hab).trans CW1.out
          have cH := (U1.out.u.cell (p := ⟨ab, off + k * 2 + 1, none⟩) hab).trans CW2.out
          clear FS1 hLA hmt hw1
          by_cases hd0 : ds k = 0
          · have hq0 : ((ds k : Int) == 0) = true := by simp; omega
            have hq1 : ((ds k : Int) == 1) = false := by simp; omega
            clear hd0 hd2 hd3
            go_upto_region 20 with (fail)
            have hM0 : ∃ v, vb f g (hs k : Int) = v := ⟨_, rfl⟩
            obtain ⟨v, hM⟩ := hM0
            have HV := hide (show ∀ w, Calls Try.prog 9 #[.agg ba, .int .u32 ((hs k) : Int)] w fun e w' => e = .returned (.tuple #[.agg (bk (vf f g (hs k)) (vg f g (hs k))), .bool v]) ∧ Below w.heap.size w w' from HBA.out ▸ hM ▸ void_any f g (hs k) HFL.out (HHS.out k))
            have HRES := hide (show ∀ W7, Blk W7 P 30 (bk (vf f g (hs k)) (vg f g (hs k))) → Mp W7 BI k MI szI → Mp W7 BG k (fun y => !(y == (hs k)) && vb f g y) ((issuedOf f g 32).length - (if vb f g ((hs k) : Nat) then 1 else 0)) → Below w.heap.size w W7 → Once w P BI BG (k + 1) W7 from fun W7 b i gg u => ⟨vf f g (hs k), vg f g (hs k), MI, szI, vf_le HFL.out, Past.void HP.out (hs k), b, i.more (by omega), by
              have q1 : (fun y : Nat => vb (vf f g ((hs k) : Nat)) (vg f g ((hs k) : Nat)) y) = fun y => !(y == (hs k)) && vb f g y := by funext y; exact vb_void (hs k) y
              rw [q1, len_void (hs k)]
              exact gg.more (by omega), u⟩)
            have NA := hide (show (Try.prog.info? 30).map (·.size) = some ba.size by rw [HBA.out, bk_size]; exact info30)
            have NC := hide (show (Try.prog.info? 30).map (·.size) = some (bk (vf f g (hs k)) (vg f g (hs k))).size by rw [bk_size]; exact info30)
            have OC := hide (bk_one (vf f g (hs k)) (vg f g (hs k)))
            have TC := hide (show za.size = (bk (vf f g (hs k)) (vg f g (hs k))).size by rw [bk_size]; exact T64.out)
            have TAC := hide (show ba.size = (bk (vf f g (hs k)) (vg f g (hs k))).size by rw [HBA.out, bk_size, bk_size])
            generalize bk (vf f g (hs k)) (vg f g (hs k)) = c1 at HV HRES NC OC TC TAC
            have hv32 := (HHS.out k)
            clear cD cH
            go_upto_region 21 with (first | (refine wpList_load_rowW rfl 30 (.tmp 5) rfl P rfl 30 ba _ U1.out.b Try.underlying30 rfl NA.out ?_) | (go_at_call 9; refine (HV.out _).mono ?_; rintro e w5 ⟨rfl, hb⟩; have U2 := hide (U1.out.below hb); clear hb) | (refine wpList_allocW rfl 30 rfl za Z0.out ?_) | (refine wpList_store_row rfl 30 (.tmp 14) (.tmp 101) rfl w5.heap.size c1 rfl rfl 30 za (Blk.new w5 30 za) NC.out TC.out OC.out ?_))
            have U3 := hide (U2.out.new za c1 30)
            have E3 := hide ((Blk.new w5 30 za).row_ c1)
            generalize (w5.alloc (.cells za 30)).setRow w5.heap.size c1 = W3 at U3 E3 ⊢
            generalize w5.heap.size = X at E3 ⊢
            clear U2
            go_upto_region 22 with (first | (refine wpList_load_rowW rfl 30 (.tmp 14) rfl X rfl 30 c1 _ E3.out Try.underlying30 rfl NC.out ?_) | (refine wpList_store_row rfl 30 (.tmp 5) (.tmp 103) rfl P c1 rfl rfl 30 ba U3.out.b NC.out TAC.out OC.out ?_))
            have U4 := hide (U3.out.setP hP c1)
            generalize W3.setRow P c1 = W4 at U4 ⊢
            clear U3 E3
            have cD := (U4.out.u.cell (p := ⟨ab, off + k * 2, none⟩) hab).trans CW1.out
            go_upto_region 24 with (first | (refine wpList_look rfl (.tmp 105) (.tmp 106) rfl BG k (fun y => vb f g y) (issuedOf f g 32).length (hs k) hv32 rfl rfl U4.out.g ?_))
            clear hM cD
            go_wp2_with (first | (refine wpList_unmark rfl (.tmp 122) (.tmp 123) rfl BG k (fun y => vb f g y) (issuedOf f g 32).length (hs k) hv32 rfl rfl U4.out.g ?_; intro w6 hm6 hg6))
            have V1 := hide (U4.out.b.grown hg6 (by simp; omega))
            have V2 := hide (U4.out.i.kept hg6 (by simp; omega))
            have V3 := hide (U4.out.u.grown hg6 U4.out.u.size (fun q hq => by cases hq; exact hBG))
            have V4 := hide hm6
            clear hm6 hg6
            try simp only [Act.put, List.setIfInBounds_toArray, List.set_cons_zero, List.set_cons_succ]
            go_meet
            exact HRES.out _ V1.out V2.out V4.out V3.out
          · have hq0 : ((ds k : Int) == 0) = false := by simp; omega
            have hq1 : ((ds k : Int) == 1) = true := by simp; omega
            clear hd0 hd2 hd3
            go_upto_region 20 with (fail)
            have hM := HIS.out
            have HV := hide (show ∀ w, Calls Try.prog 9 #[.agg ba, .int .u32 (hA : Int)] w fun e w' => e = .returned (.tuple #[.agg (bk (vf f g hA) (vg f g hA)), .bool isA]) ∧ Below w.heap.size w w' from HBA.out ▸ hM ▸ void_any f g hA HFL.out hA32)
            have HRES := hide (show ∀ W7, Blk W7 P 30 (bk (vf f g hA) (vg f g hA)) → Mp W7 BI k MI szI → Mp W7 BG k (fun y => !(y == hA) && vb f g y) ((issuedOf f g 32).length - (if vb f g (hA : Nat) then 1 else 0)) → Below w.heap.size w W7 → Once w P BI BG (k + 1) W7 from fun W7 b i gg u => ⟨vf f g hA, vg f g hA, MI, szI, vf_le HFL.out, Past.void HP.out hA, b, i.more (by omega), by
              have q1 : (fun y : Nat => vb (vf f g (hA : Nat)) (vg f g (hA : Nat)) y) = fun y => !(y == hA) && vb f g y := by funext y; exact vb_void hA y
              rw [q1, len_void hA]
              exact gg.more (by omega), u⟩)
            have NA := hide (show (Try.prog.info? 30).map (·.size) = some ba.size by rw [HBA.out, bk_size]; exact info30)
            have NC := hide (show (Try.prog.info? 30).map (·.size) = some (bk (vf f g hA) (vg f g hA)).size by rw [bk_size]; exact info30)
            have OC := hide (bk_one (vf f g hA) (vg f g hA))
            have TC := hide (show za.size = (bk (vf f g hA) (vg f g hA)).size by rw [bk_size]; exact T64.out)
            have TAC := hide (show ba.size = (bk (vf f g hA) (vg f g hA)).size by rw [HBA.out, bk_size, bk_size])
            generalize bk (vf f g hA) (vg f g hA) = c1 at HV HRES NC OC TC TAC
            have hv32 := hA32
            clear cD cH
            go_upto_region 21 with (first | (refine wpList_load_rowW rfl 30 (.tmp 5) rfl P rfl 30 ba _ U1.out.b Try.underlying30 rfl NA.out ?_) | (go_at_call 9; refine (HV.out _).mono ?_; rintro e w5 ⟨rfl, hb⟩; have U2 := hide (U1.out.below hb); clear hb) | (refine wpList_allocW rfl 30 rfl za Z0.out ?_) | (refine wpList_store_row rfl 30 (.tmp 14) (.tmp 101) rfl w5.heap.size c1 rfl rfl 30 za (Blk.new w5 30 za) NC.out TC.out OC.out ?_))
            have U3 := hide (U2.out.new za c1 30)
            have E3 := hide ((Blk.new w5 30 za).row_ c1)
            generalize (w5.alloc (.cells za 30)).setRow w5.heap.size c1 = W3 at U3 E3 ⊢
            generalize w5.heap.size = X at E3 ⊢
            clear U2
            go_upto_region 22 with (first | (refine wpList_load_rowW rfl 30 (.tmp 14) rfl X rfl 30 c1 _ E3.out Try.underlying30 rfl NC.out ?_) | (refine wpList_store_row rfl 30 (.tmp 5) (.tmp 103) rfl P c1 rfl rfl 30 ba U3.out.b NC.out TAC.out OC.out ?_))
            have U4 := hide (U3.out.setP hP c1)
            generalize W3.setRow P c1 = W4 at U4 ⊢
            clear U3 E3
            have cD := (U4.out.u.cell (p := ⟨ab, off + k * 2, none⟩) hab).trans CW1.out
            go_upto_region 24 with (first | (refine wpList_look rfl (.tmp 105) (.tmp 106) rfl BG k (fun y => vb f g y) (issuedOf f g 32).length hA hv32 rfl rfl U4.out.g ?_))
            clear hM cD
            go_wp2_with (first | (refine wpList_unmark rfl (.tmp 122) (.tmp 123) rfl BG k (fun y => vb f g y) (issuedOf f g 32).length hA hv32 rfl rfl U4.out.g ?_; intro w6 hm6 hg6))
            have V1 := hide (U4.out.b.grown hg6 (by simp; omega))
            have V2 := hide (U4.out.i.kept hg6 (by simp; omega))
            have V3 := hide (U4.out.u.grown hg6 U4.out.u.size (fun q hq => by cases hq; exact hBG))
            have V4 := hide hm6
            clear hm6 hg6
            try simp only [Act.put, List.setIfInBounds_toArray, List.set_cons_zero, List.set_cons_succ]
            go_meet
            exact HRES.out _ V1.out V2.out V4.out V3.out
      case rest =>
        obtain ⟨f2, g2, MI2, sz2, hf2, hp2, F, mi, mg, B⟩ := hcut
        have HIS := hide (issued_at _ f2 g2 rfl hf2)
        have HGO := hide (show ∀ x : Nat, x < 4294967296 → ∀ w, Calls Try.prog 15 #[.agg (bk f2 g2), .int .u32 x] w fun e w' => e = .returned (.bool (vb f2 g2 x)) ∧ Below w.heap.size w w' from fun x hx w => good_any f2 g2 x hf2 hx w)
        have HMEM := hide (show ∀ x : Nat, x ∈ issuedOf f2 g2 32 → vb f2 g2 x = true ∧ x < 4294967296 from fun x hx => ⟨mem_issued.1 hx, by
          obtain ⟨i, h1, h2, h3⟩ := vb_iff.1 (mem_issued.1 hx)
          have := hf2 i
          omega⟩)
        have hL32 : (issuedOf f2 g2 32).length ≤ 32 := issuedOf_len f2 g2 32
        have HRES := hide (show ∀ W7, Bun w P BI BG (k + 1) (k + 1) (bk f2 g2) MI2 sz2 (fun y => vb f2 g2 y) (issuedOf f2 g2 32).length W7 → Once w P BI BG (k + 1) W7 from fun W7 u => ⟨f2, g2, MI2, sz2, hf2, hp2, u.b, u.i, u.g, u.u⟩)
        have U0 := hide (show Bun w P BI BG (k + 1) (k + 1) (bk f2 g2) MI2 sz2 (fun y => vb f2 g2 y) (issuedOf f2 g2 32).length wc from ⟨F, mi, mg, B⟩)
        have NA := hide (show (Try.prog.info? 30).map (·.size) = some (bk f2 g2).size by rw [bk_size]; exact info30)
        clear F mi mg B hf2 hp2 HP HFL HBU CW1 CW2 C1 c1
        generalize bk f2 g2 = ba at HIS HGO HRES U0 NA
        generalize issuedOf f2 g2 32 = L at HIS HMEM HRES U0 hL32
        go_upto_region 28 with (first | (refine wpList_load_rowW rfl 30 (.tmp 5) rfl P rfl 30 ba _ U0.out.b Try.underlying30 rfl NA.out ?_) | (go_at_call 18; refine (HIS.out _).mono ?_; rintro e w1 ⟨A3, cap3, rfl, hrow, hb⟩; have U1 := hide (U0.out.below hb); have R1 := hide hrow; clear hb hrow) | (refine wpList_count rfl (.tmp 128) rfl BG (k + 1) _ _ rfl U1.out.g ?_))
        clear U0
        go_wp2
        go_loopw [17] (fun i wr2 => ∃ j : Nat, j ≤ L.length ∧ i = .int .i64 j ∧ Bun w P BI BG (k + 1) (k + 1) ba MI2 sz2 (fun y => vb f2 g2 y) L.length wr2 ∧ RowAt wr2 wc.heap.size A3 L) (fun i _ => L.length - (intOf i).toNat)
        case atStart => exact ⟨0, Nat.zero_le _, rfl, U1.out, R1.out⟩
        case round =>
          obtain ⟨j, hj, rfl, hU, hR⟩ := hrel
          have UJ := hide hU
          have RJ := hide hR
          clear hU hR U1 R1
          by_cases hjl : j < L.length
          · obtain ⟨gb, rfl, _, hgb, x, hx, hcell⟩ := RJ.out j hjl
            obtain ⟨hvx, hx32⟩ := HMEM.out x (List.mem_of_getElem? hx)
            go_upto_region 31 with (fail)
            have HV := hide (show ∀ w, Calls Try.prog 15 #[.agg ba, .int .u32 x] w fun e w' => e = .returned (.bool true) ∧ Below w.heap.size w w' from hvx ▸ HGO.out x hx32)
            have hcS := hide (show ∀ w' : World, RowAt w' wc.heap.size (some ⟨gb, 0, none⟩) L → w'.cell? ⟨gb, j, none⟩ = some (.int .u32 (x : Int)) from fun w' h => by
              obtain ⟨g', e', _, _, x', hx', hc'⟩ := h j hjl
              cases e'
              obtain rfl : x' = x := Option.some.inj (hx'.symm.trans hx)
              exact hc')
            have hv := hvx
            have HVX := hide hvx
            have hLA : (Try.prog.info? 30).map (·.size) = some ba.toList.length := by rw [Array.length_toList]; exact NA.out
            have hu30 := Try.underlying30
            clear hvx hcell hx
            refine wp_region_noPanic ?_
            refine wp_region_held_drew (S := fun w' => Bun w P BI BG (k + 1) (k + 1) ba MI2 sz2 (fun y => vb f2 g2 y) L.length w' ∧ RowAt w' wc.heap.size (some ⟨gb, 0, none⟩) L) (by kernel_rfl) ⟨UJ.out.drew, RJ.out⟩ (fun _ => ?_)
            have FS : Bun w P BI BG (k + 1) (k + 1) ba MI2 sz2 (fun y => vb f2 g2 y) L.length (World.drew _) ∧ RowAt (World.drew _) wc.heap.size (some ⟨gb, 0, none⟩) L := ⟨UJ.out.drew, RJ.out⟩
            clear UJ RJ
            refine wpAnyH_take (i := 0) (v := .map (some BG)) rfl (by kernel_rfl) (by kernel_rfl) (by kernel_rfl) (fun _ _ _ h => h) (Or.inl ⟨by rfl, by intro w' hw'; go_simp⟩) FS ?_
            try simp only [Act.put, List.getElem_toArray, List.getElem_cons_succ, List.getElem_cons_zero, List.setIfInBounds_toArray, List.set_cons_zero, List.set_cons_succ]
            refine wpAnyH_take (i := 1) (v := .slice (some ⟨gb, 0, none⟩) L.length cap3) rfl (by kernel_rfl) (by kernel_rfl) (by kernel_rfl) (fun _ _ _ h => h) (Or.inl ⟨by rfl, by intro w' hw'; go_simp⟩) FS ?_
            try simp only [Act.put, List.getElem_toArray, List.getElem_cons_succ, List.getElem_cons_zero, List.setIfInBounds_toArray, List.set_cons_zero, List.set_cons_succ]
            refine wpAnyH_take (i := 2) (v := .int .i64 j) rfl (by kernel_rfl) (by kernel_rfl) (by kernel_rfl) (fun _ _ _ h => h) (Or.inl ⟨by rfl, by intro w' hw'; go_simp⟩) FS ?_
            try simp only [Act.put, List.getElem_toArray, List.getElem_cons_succ, List.getElem_cons_zero, List.setIfInBounds_toArray, List.set_cons_zero, List.set_cons_succ]
            refine wpAnyH_take (i := 3) (v := .pointer (some ⟨gb, j, none⟩)) rfl (by kernel_rfl) (by kernel_rfl) (by kernel_rfl) (fun _ _ _ h => h) (Or.inl ⟨by rfl, by intro w' hw'; go_simp⟩) FS ?_
            try simp only [Act.put, List.getElem_toArray, List.getElem_cons_succ, List.getElem_cons_zero, List.setIfInBounds_toArray, List.set_cons_zero, List.set_cons_succ]
            refine wpAnyH_take (i := 4) (v := .int .u32 x) rfl (by kernel_rfl) (by kernel_rfl) (by kernel_rfl) (fun _ _ _ h => h) (Or.inl ⟨by rfl, by intro w' hw'; have hc := hcS.out _ hw'.2; go_simp⟩) FS ?_
            try simp only [Act.put, List.getElem_toArray, List.getElem_cons_succ, List.getElem_cons_zero, List.setIfInBounds_toArray, List.set_cons_zero, List.set_cons_succ]
            refine wpAnyH_take (i := 5) (v := .bool true) rfl (by kernel_rfl) (by kernel_rfl) (by kernel_rfl) (fun _ _ _ h => h) (yieldsIf_look (by rfl) (.tmp 137) (.tmp 141) rfl BG _ _ _ x hx32 rfl rfl (fun _ h => h.1.g) hv) FS ?_
            try simp only [Act.put, List.getElem_toArray, List.getElem_cons_succ, List.getElem_cons_zero, List.setIfInBounds_toArray, List.set_cons_zero, List.set_cons_succ]
            refine wpAnyH_take (i := 6) (v := .bool false) rfl (by kernel_rfl) (by kernel_rfl) (by kernel_rfl) (fun _ _ _ h => h) (Or.inl ⟨by rfl, by intro w' hw'; go_simp⟩) FS ?_
            try simp only [Act.put, List.getElem_toArray, List.getElem_cons_succ, List.getElem_cons_zero, List.setIfInBounds_toArray, List.set_cons_zero, List.set_cons_succ]
            refine wpAnyH_take (i := 7) (v := .bool false) rfl (by kernel_rfl) (by kernel_rfl) (by kernel_rfl) (fun _ _ _ h => h) (Or.inl ⟨by rfl, by intro w' hw'; go_simp⟩) FS ?_
            try simp only [Act.put, List.getElem_toArray, List.getElem_cons_succ, List.getElem_cons_zero, List.setIfInBounds_toArray, List.set_cons_zero, List.set_cons_succ]
            refine wpAnyH_take (i := 8) (v := .agg ba) rfl (by kernel_rfl) (by kernel_rfl) (by kernel_rfl) (fun _ _ _ h => h) (yieldsIf_load_mid (by rfl) 30 (.tmp 5) rfl P 0 rfl ba.toList _ (fun _ h => h.1.b.range) hu30 rfl hLA) FS ?_
            try simp only [Act.put, List.getElem_toArray, List.getElem_cons_succ, List.getElem_cons_zero, List.setIfInBounds_toArray, List.set_cons_zero, List.set_cons_succ]
            refine wpAnyH_take (i := 9) (v := .slice (some ⟨gb, 0, none⟩) L.length cap3) rfl (by kernel_rfl) (by kernel_rfl) (by kernel_rfl) (fun _ _ _ h => h) (Or.inl ⟨by rfl, by intro w' hw'; go_simp⟩) FS ?_
            try simp only [Act.put, List.getElem_toArray, List.getElem_cons_succ, List.getElem_cons_zero, List.setIfInBounds_toArray, List.set_cons_zero, List.set_cons_succ]
            refine wpAnyH_take (i := 10) (v := .int .i64 j) rfl (by kernel_rfl) (by kernel_rfl) (by kernel_rfl) (fun _ _ _ h => h) (Or.inl ⟨by rfl, by intro w' hw'; go_simp⟩) FS ?_
            try simp only [Act.put, List.getElem_toArray, List.getElem_cons_succ, List.getElem_cons_zero, List.setIfInBounds_toArray, List.set_cons_zero, List.set_cons_succ]
            refine wpAnyH_take (i := 11) (v := .pointer (some ⟨gb, j, none⟩)) rfl (by kernel_rfl) (by kernel_rfl) (by kernel_rfl) (fun _ _ _ h => h) (Or.inl ⟨by rfl, by intro w' hw'; go_simp⟩) FS ?_
            try simp only [Act.put, List.getElem_toArray, List.getElem_cons_succ, List.getElem_cons_zero, List.setIfInBounds_toArray, List.set_cons_zero, List.set_cons_succ]
            refine wpAnyH_take (i := 12) (v := .int .u32 x) rfl (by kernel_rfl) (by kernel_rfl) (by kernel_rfl) (fun _ _ _ h => h) (Or.inl ⟨by rfl, by intro w' hw'; have hc := hcS.out _ hw'.2; go_simp⟩) FS ?_
            try simp only [Act.put, List.getElem_toArray, List.getElem_cons_succ, List.getElem_cons_zero, List.setIfInBounds_toArray, List.set_cons_zero, List.set_cons_succ]
            refine wpAnyH_ready (rs := [13]) (by kernel_rfl) (by simp) ?_
            refine AllReadyH.cons rfl (fun K hK => ?_) AllReadyH.nil
            go_simp
            refine (HV.out _).mono ?_
            rintro e w1 ⟨rfl, hb⟩
            have FS1 : Bun w P BI BG (k + 1) (k + 1) ba MI2 sz2 (fun y => vb f2 g2 y) L.length w1 ∧ RowAt w1 wc.heap.size (some ⟨gb, 0, none⟩) L := ⟨FS.1.below hb, FS.2.below hb⟩
            clear hb FS
            refine hK.out _ _ FS1 (fun _ => ?_)
            clear hK K
            try simp only [Act.put, List.getElem_toArray, List.getElem_cons_succ, List.getElem_cons_zero, List.setIfInBounds_toArray, List.set_cons_zero, List.set_cons_succ]
            refine wpAnyH_take (i := 14) (v := .bool false) rfl (by kernel_rfl) (by kernel_rfl) (by kernel_rfl) (fun _ _ _ h => h) (Or.inl ⟨by rfl, by intro w' hw'; go_simp⟩) FS1 ?_
            try simp only [Act.put, List.getElem_toArray, List.getElem_cons_succ, List.getElem_cons_zero, List.setIfInBounds_toArray, List.set_cons_zero, List.set_cons_succ]
            refine wpAnyH_take (i := 15) (v := .bool false) rfl (by kernel_rfl) (by kernel_rfl) (by kernel_rfl) (fun _ _ _ h => h) (Or.inl ⟨by rfl, by intro w' hw'; go_simp⟩) FS1 ?_
            try simp only [Act.put, List.getElem_toArray, List.getElem_cons_succ, List.getElem_cons_zero, List.setIfInBounds_toArray, List.set_cons_zero, List.set_cons_succ]
            refine wpAnyH_done (by kernel_rfl) ?_ _
            refine NoPanic.normal ?_
            have U3 := hide FS1.1
            have R3 := hide FS1.2
            clear FS1 hLA hv hcS
            go_wp2_with fail
            go_roundw
            case rel => exact ⟨j + 1, by omega, by go_num, U3.out, R3.out⟩
            case measure => simp [intOf]; omega
          · obtain rfl : j = L.length := by omega
            go_wp2_with fail
            go_roundg (n - (k + 1))
            case measure => omega
            case rel => exact ⟨k + 1, by omega, rfl, by go_num, HRES.out _ UJ.out⟩
    · obtain ⟨f, g, MI, szI, hf, hp, F, mi, mg, B⟩ := HI.out
      obtain rfl : k = n := by omega
      have HGO := hide (show ∀ x : Nat, x < 4294967296 → ∀ w, Calls Try.prog 15 #[.agg (bk f g), .int .u32 x] w fun e w' => e = .returned (.bool (vb f g x)) ∧ Below w.heap.size w w' from fun x hx w => good_any f g x hf hx w)
      have NA := hide (show (Try.prog.info? 30).map (·.size) = some (bk f g).size by rw [bk_size]; exact info30)
      obtain ⟨D, mi1, _⟩ := mi
      have HD := hide mi1
      have E0 := hide (show Ben w P BG k (bk f g) (fun y => vb f g y) (issuedOf f g 32).length wr from ⟨F, mg, B⟩)
      clear hf hp mi1 F mg B HI T64 T0 Z0 N0 O0 HA HACT HHS
      generalize bk f g = ba at HGO NA E0
      generalize (issuedOf f g 32).length = szG at E0
      go_wp2_with (first | (at_range; refine wpList_range_own _ rfl _ 53 rfl 41 4 keyed41 Try.underlying53 _ BI k D rfl HD.out ?_; intro w0 hrg0 hg0 hs0; have E1 := hide (show Ben w P BG k ba (fun y => vb f g y) szG w0 from ⟨E0.out.b.grown hg0 (by simp), E0.out.g.kept hg0 (by simp), E0.out.u.grown hg0 E0.out.u.size (fun q hq => by cases hq)⟩); have HRG := hide hrg0; clear hrg0 hg0 hs0))
      have hPr := E0.out.b.lt
      have hBr := E0.out.g.lt
      have hWr := E0.out.u.size
      have HPR := hide hPr
      have HBR := hide hBr
      have HWR := hide hWr
      clear E0 HD hPr hBr hWr
      generalize wr.heap.size = r at HRG HPR HBR HWR ⊢
      go_frame
      go_loopw [18] (fun _ wr2 => ∃ (left : Lit → Bool) (cnt : Nat), wr2.ranges Try.prog 41 (plainElem Try.prog 4) BI r k D left cnt ∧ Ben w P BG k ba (fun y => vb f g y) szG wr2) (fun _ wr2 => wr2.rangeLeft BI r)
      case atStart => exact ⟨_, _, HRG.out, E1.out⟩
      case round =>
        obtain ⟨left, cnt, hrg, hE⟩ := hrel
        have R1 := hide hrg
        have EJ := hide hE
        clear hrg hE HRG E1
        go_wp2_with (first | (at_next; refine wpList_next41 rfl (.tmp 154) rfl BI r k D left cnt rfl R1.out ?_ ?_))
        · intro _
          have HW := hide (fun w => wakes_any w)
          go_wp2_with (go_at_call 5; refine (HW.out _).mono ?_; rintro e w5 ⟨rfl, hb⟩; have E2 := hide (EJ.out.below hb); clear hb)
          go_ret
          exact ⟨rfl, E2.out.u⟩
        · intro x cv left' w1 cnt1 hx32 hrg1 hlt1 hg1 hen
          have E2 := hide (show Ben w P BG k ba (fun y => vb f g y) szG w1 from ⟨EJ.out.b.grown hg1 (by simp; have := HPR.out; omega), EJ.out.g.kept hg1 (by simp; have := HBR.out; omega), EJ.out.u.grown hg1 EJ.out.u.size (fun q hq => by cases hq; exact HWR.out)⟩)
          have R2 := hide hrg1
          have hm0 := R1.out.left_eq
          have HM0 := hide hm0
          obtain ⟨v, hv⟩ : ∃ v, vb f g (x : Nat) = v := ⟨_, rfl⟩
          have HV := hide (show ∀ w, Calls Try.prog 15 #[.agg ba, .int .u32 x] w fun e w' => e = .returned (.bool v) ∧ Below w.heap.size w w' from hv ▸ HGO.out x hx32)
          have HVE := hide hv
          clear R1 EJ hrg1 hg1 hm0 hv
          go_upto_region 36 with (fail)
          clear hen
          have hv := HVE.out
          have hLA : (Try.prog.info? 30).map (·.size) = some ba.toList.length := by rw [Array.length_toList]; exact NA.out
          have hu30 := Try.underlying30
          clear HVE
          refine wp_region_noPanic ?_
          refine wp_region_held_drew (S := fun w' => Ben w P BG k ba (fun y => vb f g y) szG w' ∧ w'.ranges Try.prog 41 (plainElem Try.prog 4) BI r k D left' cnt1) (by kernel_rfl) ⟨E2.out.drew, R2.out⟩ (fun _ => ?_)
          have FS : Ben w P BG k ba (fun y => vb f g y) szG (World.drew _) ∧ (World.drew _).ranges Try.prog 41 (plainElem Try.prog 4) BI r k D left' cnt1 := ⟨E2.out.drew, R2.out⟩
          clear E2 R2
          refine wpAnyH_take (i := 0) (v := .agg ba) rfl (by kernel_rfl) (by kernel_rfl) (by kernel_rfl) (fun _ _ _ h => h) (yieldsIf_load_mid (by rfl) 30 (.tmp 5) rfl P 0 rfl ba.toList _ (fun _ h => h.1.b.range) hu30 rfl hLA) FS ?_
          try simp only [Act.put, List.getElem_toArray, List.getElem_cons_succ, List.getElem_cons_zero, List.setIfInBounds_toArray, List.set_cons_zero, List.set_cons_succ]
          refine wpAnyH_take (i := 1) (v := .int .u32 x) rfl (by kernel_rfl) (by kernel_rfl) (by kernel_rfl) (fun _ _ _ h => h) (Or.inl ⟨by rfl, by intro w' hw'; go_simp⟩) FS ?_
          try simp only [Act.put, List.getElem_toArray, List.getElem_cons_succ, List.getElem_cons_zero, List.setIfInBounds_toArray, List.set_cons_zero, List.set_cons_succ]
          refine wpAnyH_take (i := 3) (v := .map (some BG)) rfl (by kernel_rfl) (by kernel_rfl) (by kernel_rfl) (fun _ _ _ h => h) (Or.inl ⟨by rfl, by intro w' hw'; go_simp⟩) FS ?_
          try simp only [Act.put, List.getElem_toArray, List.getElem_cons_succ, List.getElem_cons_zero, List.setIfInBounds_toArray, List.set_cons_zero, List.set_cons_succ]
          refine wpAnyH_take (i := 4) (v := .int .u32 x) rfl (by kernel_rfl) (by kernel_rfl) (by kernel_rfl) (fun _ _ _ h => h) (Or.inl ⟨by rfl, by intro w' hw'; go_simp⟩) FS ?_
          try simp only [Act.put, List.getElem_toArray, List.getElem_cons_succ, List.getElem_cons_zero, List.setIfInBounds_toArray, List.set_cons_zero, List.set_cons_succ]
          refine wpAnyH_take (i := 5) (v := .bool v) rfl (by kernel_rfl) (by kernel_rfl) (by kernel_rfl) (fun _ _ _ h => h) (yieldsIf_look (by rfl) (.tmp 162) (.tmp 163) rfl BG _ _ _ x hx32 rfl rfl (fun _ h => h.1.g) hv) FS ?_
          try simp only [Act.put, List.getElem_toArray, List.getElem_cons_succ, List.getElem_cons_zero, List.setIfInBounds_toArray, List.set_cons_zero, List.set_cons_succ]
          refine wpAnyH_ready (rs := [2]) (by kernel_rfl) (by simp) ?_
          refine AllReadyH.cons rfl (fun K hK => ?_) AllReadyH.nil
          go_simp
          refine (HV.out _).mono ?_
          rintro e w2 ⟨rfl, hb⟩
          have FS1 : Ben w P BG k ba (fun y => vb f g y) szG w2 ∧ w2.ranges Try.prog 41 (plainElem Try.prog 4) BI r k D left' cnt1 := ⟨FS.1.below hb, FS.2.kept (grown_of_below hb none) (by simp) (by simp)⟩
          clear hb FS
          refine hK.out _ _ FS1 (fun _ => ?_)
          clear hK K
          try simp only [Act.put, List.getElem_toArray, List.getElem_cons_succ, List.getElem_cons_zero, List.setIfInBounds_toArray, List.set_cons_zero, List.set_cons_succ]
          refine wpAnyH_take (i := 6) (v := .bool false) rfl (by kernel_rfl) (by kernel_rfl) (by kernel_rfl) (fun _ _ _ h => h) (Or.inl ⟨by rfl, by intro w' hw'; go_simp⟩) FS1 ?_
          try simp only [Act.put, List.getElem_toArray, List.getElem_cons_succ, List.getElem_cons_zero, List.setIfInBounds_toArray, List.set_cons_zero, List.set_cons_succ]
          refine wpAnyH_done (by kernel_rfl) ?_ _
          refine NoPanic.normal ?_
          have U3 := hide FS1.1
          have R3 := hide FS1.2
          clear FS1 hLA hv
          go_wp2_with fail
          go_roundw
          case rel => exact ⟨left', cnt1, R3.out, U3.out⟩
          case measure => rw [R3.out.left_eq, HM0.out]; exact hlt1
end Go.Proofs.Ythocdeenpcpjoaa
