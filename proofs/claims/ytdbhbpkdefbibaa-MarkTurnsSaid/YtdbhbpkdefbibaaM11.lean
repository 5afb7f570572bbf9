/- Of mark: Gone. No condition. -/
import Derived.Test.YtdbhbpkdefbibaaM10
namespace Go.Proofs.Ytdbhbpkdefbibaa

theorem mk_list (h : Nat → Option Nat) (l : Nat → List Nat) : mk h l = ((List.range 352).map (mkc h l)).toArray := by
  apply Array.ext_getElem?
  intro k
  rw [mk_get, List.getElem?_toArray, List.getElem?_map]
  by_cases hk : k < 352
  · rw [if_pos hk, List.getElem?_range hk]; rfl
  · rw [if_neg hk, List.getElem?_eq_none (by rw [List.length_range]; omega)]; rfl
def zeroA : Array Value := ((List.range 352).map (mkc (fun _ => none) fun _ => [])).toArray
theorem zeroA_mk : zeroA = mk (fun _ => none) fun _ => [] := (mk_list _ _).symm
theorem zeroA_size : zeroA.size = 352 := by rw [zeroA_mk, mk_size]
theorem Fine.zero : Fine (fun _ => none) fun _ => [] := ⟨fun _ _ h => by (cases h), fun _ _ h => by (cases h), fun _ => List.nodup_nil, fun _ _ h => by (cases h), fun _ _ => ⟨rfl, rfl⟩⟩

noncomputable def goneTodo : List Item := (run E4 1000 ⟨9, padN Try.f9.ntmps ((two #[] 0).map some), [.code (Try.f9.body.getD .skip)], 0⟩ ⟨0, []⟩).todo
noncomputable def goneI (t : Int) (k : Nat) (td : List Item) : SFr :=
  ⟨9, tmOf 24 [(1, i64 (.o t)), (2, ptr 0 (.l 0)), (4, ptr 1 (.l 0)), (10, i64 (.o k))], td, 0⟩
def goneMem (cs : Array Value) : SMem := ⟨2, [⟨0, .op cs, 29, true⟩, ⟨1, .op zeroA, 29, true⟩]⟩
def gEnd (Y X : Array Value) : Prop := (Y.size = 352 ∧ True) ∧ (Y.size = 352 ∧ Y.size = zeroA.size ∧ True) ∧ (Y.size = 352 ∧ True) ∧ X = Y ∧ True
section
variable (cs X : Array Value) (t : Int) (k : Nat)
theorem gone_n1 : (run E4 1000 ⟨9, padN Try.f9.ntmps ((two cs t).map some), [.code (Try.f9.body.getD .skip)], 0⟩ ⟨0, []⟩).follow (retOk 0 [] (agg X) ⟨0, []⟩) (fun _ _ => False) [false] =
    ((decide (t ≥ 0) == true) = false ∧ fEnd cs X) := by kernel_rfl
theorem gone_n2 : (run E4 1000 ⟨9, padN Try.f9.ntmps ((two cs t).map some), [.code (Try.f9.body.getD .skip)], 0⟩ ⟨0, []⟩).follow (retOk 0 [] (agg X) ⟨0, []⟩) (fun _ _ => False) [true, true] =
    ((decide (t ≥ 0) == true) = true ∧ (!decide (t < 8)) = true ∧ fEnd cs X) := by kernel_rfl
theorem gone_y : (run E4 1000 ⟨9, padN Try.f9.ntmps ((two cs t).map some), [.code (Try.f9.body.getD .skip)], 0⟩ ⟨0, []⟩).follow (fun _ _ => False) (subOk [(0, 0), (1, 1)] (goneI t 0 goneTodo) (goneMem cs)) [true, false] =
    ((decide (t ≥ 0) == true) = true ∧ (!decide (t < 8)) = false ∧ TodoOk goneTodo goneTodo ∧ t = t ∧ ((0 : Nat) : Int) = 0 ∧ (29 : Nat) = 29 ∧ cs = cs ∧ (29 : Nat) = 29 ∧ zeroA = zeroA ∧ True) := by kernel_rfl
theorem gone_go : (stepT E4.go (run E4 1000) (goneI t k (headL goneTodo)) (goneMem cs) (goneI t k (headL goneTodo)).todo).follow (fun _ _ => False) (subOk [(0, 0), (1, 1)] (goneI t (k + 1) (headL goneTodo)) (goneMem X)) [true] =
    (decide ((k : Int) < 32) = true ∧ (cs.size = 352 ∧ True) ∧ (IsM cs ∧ True) ∧ ((freeM cs k t).size = 352 ∧ (freeM cs k t).size = cs.size ∧ True) ∧ ((0 ≤ (k : Int) ∧ (k : Int) < (32 : Nat)) ∧ True) ∧ (LeaveOk (freeM cs k t) (so k) t ∧ True) ∧
    TodoOk (headL goneTodo) (headL goneTodo) ∧ t = t ∧ ((k + 1 : Nat) : Int) = IntKind.i64.wrap (k + 1) ∧ (29 : Nat) = 29 ∧ X = leaveOf (freeM cs k t) (so k) t ∧ (29 : Nat) = 29 ∧ zeroA = zeroA ∧ True) := by kernel_rfl
theorem gone_end : (stepT E4.go (run E4 1000) (goneI t k (headL goneTodo)) (goneMem cs) (goneI t k (headL goneTodo)).todo).follow (retOk 0 [] (agg X) ⟨0, []⟩) (fun _ _ => False) [false] =
    (decide ((k : Int) < 32) = false ∧ gEnd cs X) := by kernel_rfl
end

def goneOn (t : Int) : Bool := decide (0 ≤ t ∧ t < 8)
def goneM (cs : Array Value) (t : Int) : Array Value := if goneOn t then mk (goneH (hOf cs) t.toNat 32) (goneL (lOf cs) t.toNat 32) else cs
section
variable {h : Nat → Option Nat} {l : Nat → List Nat}
theorem goneH_step (u k : Nat) : freeH (goneH h u k) k u = goneH h u (k + 1) := by
  have e0 : goneH h u k k = h k := by unfold goneH; rw [if_neg (by omega)]
  unfold freeH
  rw [e0]
  funext j
  by_cases e : j = k
  · subst e
    split
    · rename_i hh
      rw [upd_same]
      unfold goneH
      rw [if_pos ⟨by omega, hh⟩]
    · rename_i hh
      rw [e0]
      unfold goneH
      rw [if_neg fun hc => hh hc.2]
  · have ej : goneH h u k j = goneH h u (k + 1) j := by
      unfold goneH
      by_cases hc : j < k ∧ h j = some u
      · rw [if_pos hc, if_pos ⟨by omega, hc.2⟩]
      · rw [if_neg hc, if_neg fun hd => hc ⟨by omega, hd.2⟩]
    split
    · rw [upd_other _ _ e, ej]
    · exact ej
theorem goneL_step (u k : Nat) : upd (goneL l u k) k ((goneL l u k k).erase u) = goneL l u (k + 1) := by
  funext j
  by_cases e : j = k
  · subst e
    rw [upd_same]
    unfold goneL
    rw [if_neg (by omega), if_pos (by omega)]
  · rw [upd_other _ _ e]
    unfold goneL
    by_cases hc : j < k
    · rw [if_pos hc, if_pos (by omega)]
    · rw [if_neg hc, if_neg (by omega)]
theorem free_mk (F : Fine h l) (k u : Nat) (hk : k < 32) : freeM (mk h l) k u = mk (freeH h k u) l := by
  have e : freeOn k u = true := by unfold freeOn; exact decide_eq_true (by omega)
  unfold freeM
  rw [e, hOf_eq F, lOf_eq F, if_pos rfl, Int.toNat_natCast, Int.toNat_natCast]
theorem gone_loop (F : Fine h l) {u : Nat} (_hu : u < 8) : ∀ r k, k + r = 32 →
    Good Try.prog (retOk 0 [] (agg (mk (goneH h u 32) (goneL l u 32))) ⟨0, []⟩) (goneI u k (headL goneTodo)) (goneMem (mk (goneH h u k) (goneL l u k))) := by
  intro r
  induction r with
  | zero =>
    intro k hk
    have hk : k = 32 := by omega
    subst hk
    have e := mk_size (goneH h u 32) (goneL l u 32)
    exact past_way E4_ok 1000 (gone_end (mk (goneH h u 32) (goneL l u 32)) (mk (goneH h u 32) (goneL l u 32)) u 32) ⟨rfl, ⟨e, trivial⟩, ⟨e, e.trans zeroA_size.symm, trivial⟩, ⟨e, trivial⟩, rfl, trivial⟩ (fun _ _ h => h) (fun f m h => h.elim)
  | succ r ih =>
    intro k hk
    have e := mk_size (goneH h u k) (goneL l u k)
    have G := F.gone u k
    have hf := free_mk G k u (by omega)
    have hl := leaveOf_mk (G.free k u) k u
    rw [goneH_step, goneL_step] at hl
    rw [goneH_step] at hf
    have G2 := G.free k u
    rw [goneH_step] at G2
    refine past_way E4_ok 1000 (gone_go (mk (goneH h u k) (goneL l u k)) (mk (goneH h u (k + 1)) (goneL l u (k + 1))) u k) ?_ (fun _ _ h => h.elim) (fun f m h => Good.of_sub h (ih (k + 1) (by omega)))
    rw [hf, so_at, hl, mk_size, mk_size]
    exact ⟨decide_eq_true (by omega), ⟨rfl, trivial⟩, ⟨⟨_, _, G, rfl⟩, trivial⟩, ⟨rfl, rfl, trivial⟩, ⟨⟨by omega, by omega⟩, trivial⟩, ⟨⟨_, _, k, u, G2, rfl, by omega, rfl, rfl⟩, trivial⟩, rfl, rfl, (wrap64_of (by omega) (by omega)).symm, rfl, rfl, rfl, rfl, trivial⟩
theorem gone_good (F : Fine h l) (t : Int) : Good Try.prog (fun sv m => sv = agg (goneM (mk h l) t) ∧ m = ⟨0, []⟩) ⟨9, padN Try.f9.ntmps ((two (mk h l) t).map some), [.code (Try.f9.body.getD .skip)], 0⟩ ⟨0, []⟩ := by
  have off : ¬ (0 ≤ t ∧ t < 8) → goneM (mk h l) t = mk h l := fun hc => by
    have e : goneOn t = false := by unfold goneOn; exact decide_eq_false hc
    unfold goneM
    rw [e, if_neg (by decide)]
  by_cases h1 : 0 ≤ t
  case neg => exact Good.ret [] (run_way E4_ok 1000 (gone_n1 (mk h l) (goneM (mk h l) t) t) ⟨not_ge0 h1, fEnd_mk rfl (off (by omega))⟩ (fun _ _ h => h) (fun _ _ h => h.elim))
  by_cases h2 : t < 8
  case neg => exact Good.ret [] (run_way E4_ok 1000 (gone_n2 (mk h l) (goneM (mk h l) t) t) ⟨ge0 h1, by simp [h2], fEnd_mk rfl (off (by omega))⟩ (fun _ _ h => h) (fun _ _ h => h.elim))
  obtain ⟨u, rfl⟩ := Int.eq_ofNat_of_zero_le h1
  have e : goneM (mk h l) u = mk (goneH h u 32) (goneL l u 32) := by
    have e : goneOn u = true := by unfold goneOn; exact decide_eq_true (by omega)
    unfold goneM
    rw [e, hOf_eq F, lOf_eq F, if_pos rfl, Int.toNat_natCast]
  have hz : mk (goneH h u 0) (goneL l u 0) = mk h l := by
    apply mk_ext
    · intro i _; unfold goneH; rw [if_neg (by omega)]
    · intro i _; unfold goneL; rw [if_neg (by omega)]
  have hlp := gone_loop F (u := u) (by omega) 32 0 rfl
  rw [hz] at hlp
  rw [e]
  exact Good.ret [] (run_way E4_ok 1000 (gone_y (mk h l) u) ⟨ge0 h1, by simp [h2], rfl, rfl, rfl, rfl, rfl, rfl, rfl, trivial⟩ (fun _ _ h => h.elim) (fun f m h => Good.of_sub h (Good.head hlp)))
end
def conGone (l : List SV) (m : SMem) : Option Tree :=
  match l with
  | [.s (.agg (.op cs)), .s (.c (.f (.int .i64 t)))] => some (needs [IsM cs] (.ret (agg (goneM cs t.den)) m))
  | _ => none
theorem conGone_ok {l : List SV} {m : SMem} {t : Tree} {A : SV → SMem → Prop} {n0 : Nat} {F : Nat → Prop} {w0 w : World} {R : Ren} {args : Array Value}
    (h : conGone l m = some t) (hs : t.sat A (fun _ _ => False)) (hl : All2 (SV.ok R) l args.toList) (hR : Rel n0 F w0 R m w) :
    Answers Try.prog 9 args w fun u w' => ∃ s m' R', A s m' ∧ ExtN w w' m.next m'.next R R' ∧ Rel n0 F w0 R' m' w' ∧ s.ok R' u := by
  unfold conGone at h
  split at h
  case h_2 => cases h
  cases h
  obtain ⟨hq, hA⟩ := Tree.sat_needs hs
  obtain ⟨hh, ll, hf, rfl⟩ : IsM _ := hq _ (List.mem_singleton.2 rfl)
  have hbody : Try.f9.body = some (Try.f9.body.getD .skip) := rfl
  exact pure_ok Try.func9 hbody (gone_good hf _) (two_no _ _) rfl hA (all2_two hl) hR
end Go.Proofs.Ytdbhbpkdefbibaa
