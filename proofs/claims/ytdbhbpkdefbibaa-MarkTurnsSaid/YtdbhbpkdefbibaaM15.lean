/- Of mark: whoever waits has it in turn. No condition. -/
import Derived.Test.YtdbhbpkdefbibaaM14
namespace Go.Proofs.Ytdbhbpkdefbibaa

section
variable {h : Nat → Option Nat} {l : Nat → List Nat} {j : Nat}
theorem holdB_mk (F : Fine h l) (hj : j < 32) : holdB (mk h l) j = (h j).isSome := by
  unfold holdB
  rw [decide_eq_true (by omega), hOf_eq F, Bool.true_and, Int.toNat_natCast]
theorem holdV_mk (F : Fine h l) (hj : j < 32) {x : Nat} (hx : h j = some x) : holdV (mk h l) j = (x : Nat) := by
  unfold holdV
  rw [holdB_mk F hj, hx, hOf_eq F, Int.toNat_natCast, hx]
  rfl
theorem waitR_mk (F : Fine h l) (hj : j < 32) : waitR (mk h l) j = l j := by
  unfold waitR
  rw [decide_eq_true (by omega), if_pos rfl, lOf_eq F, Int.toNat_natCast]
theorem wAt_row {row : List Nat} {k : Nat} (hk : k < row.length) : IsInt .i64 (waitA row) (0 + (k : Int).toNat * 1) ∧ wAt (waitA row) k = (row[k] : Nat) := by
  have e : 0 + (k : Int).toNat * 1 = k := by omega
  have e2 : (waitA row)[k]? = some (.int .i64 (row[k] : Nat)) := by
    unfold waitA
    rw [List.getElem?_toArray, List.getElem?_map, List.getElem?_eq_getElem hk]
    rfl
  unfold wAt
  rw [e]
  exact ⟨isInt_of e2, intAt_of e2⟩
theorem z_eq {cs : Array Value} (e : ∃ h l, cs = mk h l) : cs.size = 352 := by obtain ⟨h, l, rfl⟩ := e; exact mk_size h l

/-- Behind the row's head nobody has it. -/
theorem turn_loop {row : List Nat} (hj : j < 32) (_hnd : row.Nodup) (ht : ∀ t ∈ row, t < 8) (hlen : row.length ≤ 8) : ∀ r i (h : Nat → Option Nat) (l : Nat → List Nat), i + r = row.length → Fine h l → h j = none → l j = row.drop i →
    Good Try.prog trueR (w2I j (wSlice row.length) i (headL w2Todo)) (wM (mk h l) (waitA row)) := by
  intro r
  induction r with
  | zero =>
    intro i h l hi F hh hl
    have hl : l j = [] := by rw [hl, List.drop_eq_nil_iff]; omega
    refine past_way E5_ok 1000 (v2_end j row.length i (mk h l) (waitA row)) ⟨decide_eq_false (by omega), ⟨mk_size h l, trivial⟩, ⟨⟨h, l, F, rfl⟩, trivial⟩, ?_, ⟨mk_size h l, trivial⟩, ⟨⟨h, l, F, rfl⟩, trivial⟩, ?_, trivial⟩ (fun _ _ h => h) (fun _ _ h => h.elim)
    · rw [holdB_mk F hj, hh]; rfl
    · rw [waitR_mk F hj, hl]; rfl
  | succ r ih =>
    intro i h l hi F hh hl
    have hin : i < row.length := by omega
    have hlc : l j = row[i] :: row.drop (i + 1) := by rw [hl, List.drop_eq_getElem_cons hin]
    have hz := mk_size h l
    have inner : ∀ q, i + q < row.length → Good Try.prog trueR (w3I j (wSlice row.length) i ((i + q : Nat) : Int) (headL w3Todo)) (wM (mk h l) (waitA row)) := by
      intro q
      induction q with
      | zero =>
        intro _
        obtain ⟨a1, a2⟩ := wAt_row hin
        have hu : row[i] < 8 := ht _ (List.getElem_mem hin)
        obtain ⟨eM, eB⟩ := mkTry F hj hu
        have eb : tryB h l j row[i] = true := by unfold tryB; rw [hh, hlc]; simp
        have FT := F.try hj hu
        have eH : tryH h l j row[i] = upd h j (some row[i]) := by unfold tryH; rw [eb]; rfl
        have eL : tryL h l j row[i] = upd l j (row.drop (i + 1)) := by unfold tryL; rw [eb, if_pos rfl, hlc, List.erase_cons_head]
        rw [eH, eL] at eM FT
        have eF := free_mk FT j row[i] hj
        have FF := FT.free j row[i]
        have eh : freeH (upd h j (some row[i])) j row[i] = upd (upd h j (some row[i])) j none := by unfold freeH; rw [if_pos (upd_same _ _ _)]
        rw [eh] at eF FF
        refine past_way E5_ok 1000 (v3_out j ((i + 0 : Nat) : Int) row.length i (mk h l) (waitA row) (mk (upd (upd h j (some row[i])) j none) (upd l j (row.drop (i + 1))))) ?_ (fun _ _ h => h.elim)
          (fun f m hb => Good.of_sub hb (ih (i + 1) _ _ (by omega) FF (upd_same _ _ _) (upd_same _ _ _)))
        rw [a2, eM, eF, eB, eb, mk_size, mk_size, mk_size]
        exact ⟨decide_eq_false (by omega), ⟨rfl, ⟨by omega, by omega⟩, a1, ⟨h, l, F, rfl⟩, rfl, rfl, trivial⟩, rfl, ⟨rfl, ⟨by omega, by omega⟩, a1, ⟨_, _, FT, rfl⟩, rfl, rfl, trivial⟩, rfl, rfl, rfl, (wrap64_of (by omega) (by omega)).symm, rfl, rfl, rfl, rfl, trivial⟩
      | succ q ihq =>
        intro hq
        have hk : i + (q + 1) < row.length := hq
        obtain ⟨a1, a2⟩ := wAt_row hk
        have hu : row[i + (q + 1)] < 8 := ht _ (List.getElem_mem hk)
        obtain ⟨eM, eB⟩ := mkTry F hj hu
        have hd : row[i + (q + 1)] ∈ row.drop (i + 1) := by
          have hlt : q < (row.drop (i + 1)).length := by rw [List.length_drop]; omega
          have e : (row.drop (i + 1))[q] = row[i + (q + 1)] := by
            rw [List.getElem_drop]
            have e2 : i + 1 + q = i + (q + 1) := by omega
            simp only [e2]
          rw [← e]
          exact List.getElem_mem hlt
        have hne : row[i] ≠ row[i + (q + 1)] := by
          intro e
          have := F.once j
          rw [hlc] at this
          exact (List.nodup_cons.1 this).1 (e ▸ hd)
        have hmem : row[i + (q + 1)] ∈ l j := by
          rw [hlc]
          exact List.mem_cons_of_mem _ hd
        have eb : tryB h l j row[i + (q + 1)] = false := by
          unfold tryB
          rw [hh, hlc]
          generalize row.drop (i + 1) = z
          simp [hne]
        have eH : tryH h l j row[i + (q + 1)] = h := by unfold tryH; rw [eb]; rfl
        have eL : tryL h l j row[i + (q + 1)] = l := by unfold tryL; rw [eb, if_pos hmem]; rfl
        rw [eH, eL] at eM
        have hk1 : ((i + (q + 1) : Nat) : Int) - 1 = ((i + q : Nat) : Int) := by omega
        refine past_way E5_ok 1000 (v3_go j ((i + (q + 1) : Nat) : Int) row.length i (mk h l) (waitA row) (mk h l)) ?_ (fun _ _ h => h.elim)
          (fun f m hb => Good.of_sub hb (by rw [hk1]; exact ihq (by omega)))
        have hw : waitR (mk h l) j = l j := waitR_mk F hj
        have hwl : (l j).length = row.length - i := by rw [hl, List.length_drop]
        rw [a2, eM, eB, eb, hw, hwl, hz]
        refine ⟨decide_eq_true (by omega), ⟨rfl, ⟨by omega, by omega⟩, a1, ⟨h, l, F, rfl⟩, rfl, rfl, trivial⟩, rfl, ⟨rfl, trivial⟩, ⟨⟨h, l, F, rfl⟩, trivial⟩, decide_eq_false (by rw [hlc]; exact List.cons_ne_nil _ _), ?_, ⟨rfl, trivial⟩, ⟨rfl, rfl, trivial⟩, rfl, rfl, rfl, rfl, ?_, rfl, rfl, rfl, rfl, trivial⟩
        · rw [wrap64_of (by omega) (by omega)]
          have : ((row.length - i : Nat) : Int) = (row.length : Int) - i := by omega
          rw [this]
          simp
        · exact (wrap64_of (by omega) (by omega)).symm
    have hlast := inner (row.length - 1 - i) (by omega)
    have e1 : i + (row.length - 1 - i) = row.length - 1 := by omega
    rw [e1] at hlast
    exact past_way E5_ok 1000 (v2_in j ((row.length - 1 : Nat) : Int) row.length i (mk h l) (waitA row)) ⟨decide_eq_true (by omega), rfl, rfl, rfl, rfl, by rw [wrap64_of (by omega) (by omega)]; omega, rfl, rfl, rfl, rfl, trivial⟩ (fun _ _ h => h.elim)
      (fun f m hb => Good.of_sub hb (Good.head hlast))
/-- Nobody has, and waits for, one slot. -/
theorem apart_loop (F : Fine h l) (hj : j < 32) : ∀ r k, k + r = (l j).length → Good Try.prog trueR (w1I j (holdV (mk h l) j) (holdB (mk h l) j) (wSlice (l j).length) k (headL w1Todo)) (wM (mk h l) (waitA (l j))) := by
  have hz := mk_size h l
  have hlen := F.len j
  intro r
  induction r with
  | zero =>
    intro k hk
    cases hh : h j with
    | none =>
      have hb : holdB (mk h l) j = false := by rw [holdB_mk F hj, hh]; rfl
      exact past_way E5_ok 1000 (v1_endN j (holdV (mk h l) j) (l j).length k (holdB (mk h l) j) (mk h l) (waitA (l j)) (mk h l)) ⟨decide_eq_false (by omega), hb, rfl, rfl, rfl, rfl, rfl, rfl, rfl, rfl, trivial⟩ (fun _ _ h => h.elim)
        (fun f m hb => Good.of_sub hb (Good.head (turn_loop hj (F.once j) (F.task j) hlen (l j).length 0 h l (by omega) F hh rfl)))
    | some x =>
      have hb : holdB (mk h l) j = true := by rw [holdB_mk F hj, hh]; rfl
      have hv := holdV_mk F hj hh
      have eF := free_mk F j x hj
      have FF := F.free j x
      have eh : freeH h j x = upd h j none := by unfold freeH; rw [if_pos hh]
      rw [eh] at eF FF
      refine past_way E5_ok 1000 (v1_endY j (holdV (mk h l) j) (l j).length k (holdB (mk h l) j) (mk h l) (waitA (l j)) (mk (upd h j none) l)) ?_ (fun _ _ h => h.elim)
        (fun f m hb => Good.of_sub hb (Good.head (turn_loop hj (F.once j) (F.task j) hlen (l j).length 0 _ l (by omega) FF (upd_same _ _ _) rfl)))
      rw [hb, hv, eF, mk_size, mk_size]
      exact ⟨decide_eq_false (by omega), rfl, ⟨rfl, trivial⟩, ⟨⟨h, l, F, rfl⟩, trivial⟩, ⟨rfl, rfl, trivial⟩, rfl, rfl, rfl, rfl, rfl, rfl, rfl, rfl, trivial⟩
  | succ r ih =>
    intro k hk
    have hk' : k < (l j).length := by omega
    obtain ⟨a1, a2⟩ := wAt_row hk'
    have hw : ((k + 1 : Nat) : Int) = IntKind.i64.wrap (k + 1) := (wrap64_of (by omega) (by omega)).symm
    cases hh : h j with
    | none =>
      have hb : (holdB (mk h l) j == true) = false := by rw [holdB_mk F hj, hh]; rfl
      exact past_way E5_ok 1000 (v1_free j (holdV (mk h l) j) (l j).length k (holdB (mk h l) j) (mk h l) (waitA (l j))) ⟨decide_eq_true (by omega), hb, rfl, rfl, rfl, rfl, rfl, hw, rfl, rfl, rfl, rfl, trivial⟩ (fun _ _ h => h.elim)
        (fun f m hb => Good.of_sub hb (ih (k + 1) (by omega)))
    | some x =>
      have hb : (holdB (mk h l) j == true) = true := by rw [holdB_mk F hj, hh]; rfl
      have hv := holdV_mk F hj hh
      have hne : (wAt (waitA (l j)) k == holdV (mk h l) j) = false := by
        rw [a2, hv, beq_eq_false_iff_ne]
        intro e
        have e : (l j)[k] = x := by omega
        exact F.apart j x hh (e ▸ List.getElem_mem hk')
      exact past_way E5_ok 1000 (v1_held j (holdV (mk h l) j) (l j).length k (holdB (mk h l) j) (mk h l) (waitA (l j))) ⟨decide_eq_true (by omega), hb, ⟨⟨by omega, by omega⟩, trivial⟩, ⟨a1, trivial⟩, hne, rfl, rfl, rfl, rfl, rfl, hw, rfl, rfl, rfl, rfl, trivial⟩ (fun _ _ h => h.elim)
        (fun f m hb => Good.of_sub hb (ih (k + 1) (by omega)))
/-- Behind all acts. -/
theorem behind_acts (F : Fine h l) (hj : j < 32) (off n : Nat) (ds : Array Value) (ty : TypeId) : Good Try.prog trueR (actsI off n j n (headL turnsTodo)) (actsM ds ty (mk h l)) := by
  have hz := mk_size h l
  have hw := waitR_mk F hj
  by_cases hl : l j = []
  · have nil2 : ∀ h' : Nat → Option Nat, Fine h' l → h' j = none → Good Try.prog trueR (w2I j nilS 0 (headL w2Todo)) (wN (mk h' l)) := fun h' F' hh' => by
      refine past_way E5_ok 1000 (v2_nil j (mk h' l)) ⟨rfl, ⟨mk_size h' l, trivial⟩, ⟨⟨h', l, F', rfl⟩, trivial⟩, ?_, ⟨mk_size h' l, trivial⟩, ⟨⟨h', l, F', rfl⟩, trivial⟩, ?_, trivial⟩ (fun _ _ h => h) (fun _ _ h => h.elim)
      · rw [holdB_mk F' hj, hh']; rfl
      · rw [waitR_mk F' hj, hl]; rfl
    refine past_way E5_ok 1000 (v0_nil j off n ds (mk h l) ty) ⟨decide_eq_false (by omega), ⟨hz, trivial⟩, ⟨⟨h, l, F, rfl⟩, trivial⟩, ⟨hz, trivial⟩, ⟨⟨h, l, F, rfl⟩, trivial⟩, decide_eq_true (by rw [hw, hl]), rfl, rfl, rfl, rfl, rfl, rfl, rfl, rfl, trivial⟩ (fun _ _ h => h.elim)
      (fun f m hb => Good.of_sub hb (Good.head ?_))
    cases hh : h j with
    | none =>
      have hb : holdB (mk h l) j = false := by rw [holdB_mk F hj, hh]; rfl
      exact past_way E5_ok 1000 (v1_nilN j (holdV (mk h l) j) (holdB (mk h l) j) (mk h l) (mk h l)) ⟨rfl, hb, rfl, rfl, rfl, rfl, rfl, rfl, trivial⟩ (fun _ _ h => h.elim) (fun f m hb => Good.of_sub hb (Good.head (nil2 h F hh)))
    | some x =>
      have hb : holdB (mk h l) j = true := by rw [holdB_mk F hj, hh]; rfl
      have hv := holdV_mk F hj hh
      have eF := free_mk F j x hj
      have FF := F.free j x
      have eh : freeH h j x = upd h j none := by unfold freeH; rw [if_pos hh]
      rw [eh] at eF FF
      refine past_way E5_ok 1000 (v1_nilY j (holdV (mk h l) j) (holdB (mk h l) j) (mk h l) (mk (upd h j none) l)) ?_ (fun _ _ h => h.elim) (fun f m hb => Good.of_sub hb (Good.head (nil2 _ FF (upd_same _ _ _))))
      rw [hb, hv, eF, mk_size, mk_size]
      exact ⟨rfl, rfl, ⟨rfl, trivial⟩, ⟨⟨h, l, F, rfl⟩, trivial⟩, ⟨rfl, rfl, trivial⟩, rfl, rfl, rfl, rfl, rfl, rfl, trivial⟩
  · exact past_way E5_ok 1000 (v0_row j off n (l j).length ds (mk h l) (waitA (l j)) ty) ⟨decide_eq_false (by omega), ⟨hz, trivial⟩, ⟨⟨h, l, F, rfl⟩, trivial⟩, ⟨hz, trivial⟩, ⟨⟨h, l, F, rfl⟩, trivial⟩, decide_eq_false (by rw [hw]; exact hl), rfl, rfl, rfl, rfl, by rw [hw], rfl, rfl, rfl, rfl, by rw [hw], trivial⟩ (fun _ _ h => h.elim)
      (fun f m hb => Good.of_sub hb (Good.head (apart_loop F hj (l j).length 0 (by omega))))
end
/-- The law, of acts that may be read. -/
theorem turns_good {ds : Array Value} {off n : Nat} {s : Int} {ty : TypeId} (hd : n ≤ 200 → ActsOk ds off n) : Good Try.prog (fun sv _ => sv = sB (.l true)) ⟨4, padN Try.f4.ntmps [some (actsS off n), some (i64 (.o s))], [.code (Try.f4.body.getD .skip)], 1⟩ (oneD ds ty) := by
  have fin : ∀ {f : SFr} {m : SMem}, f.base = 1 → Good Try.prog trueR f m → Good Try.prog (fun sv _ => sv = sB (.l true)) f m := fun {f m} hb hg =>
    (Good.ret (s0m := ⟨1, []⟩) (s0 := sB (.l true)) [] (by rw [hb]; exact hg)).mono fun _ _ h => h.1
  have fin2 : ∀ {f : SFr} {m : SMem}, f.base = 1 → Good Try.prog (retOk 1 [] (sB (.l true)) (oneD ds ty)) f m → Good Try.prog (fun sv _ => sv = sB (.l true)) f m := fun {f m} hb hg =>
    (Good.ret (s0m := oneD ds ty) (s0 := sB (.l true)) [] (by rw [hb]; exact hg)).mono fun _ _ h => h.1
  by_cases h1 : (n : Int) > 200
  · exact fin2 rfl (run_way E5_ok 1000 (law_n1 ds s off n ty) ⟨by simp [h1], rfl, rfl, trivial⟩ (fun _ _ h => h) (fun _ _ h => h.elim))
  by_cases h2 : s < 0
  · exact fin2 rfl (run_way E5_ok 1000 (law_n2 ds s off n ty) ⟨by simp [h1], by simp [h2], rfl, rfl, trivial⟩ (fun _ _ h => h) (fun _ _ h => h.elim))
  by_cases h3 : s > 31
  · exact fin2 rfl (run_way E5_ok 1000 (law_n3 ds s off n ty) ⟨by simp [h1], by simp [h2], decide_eq_true h3, rfl, rfl, trivial⟩ (fun _ _ h => h) (fun _ _ h => h.elim))
  obtain ⟨j, rfl⟩ := Int.eq_ofNat_of_zero_le (show 0 ≤ s by omega)
  have hj : j < 32 := by omega
  have hlp := acts_loop (s := j) (ty := ty) (hd (by omega)) (by omega) (fun h l F => behind_acts F hj off n ds ty) n 0 _ _ (by omega) Fine.zero
  rw [← zeroA_mk] at hlp
  exact fin rfl (run_way E5_ok 1000 (law_y ds j off n ty) ⟨by simp [h1], by simp [h2], decide_eq_false h3, rfl, rfl, rfl, rfl, rfl, rfl, rfl, rfl, rfl, trivial⟩ (fun _ _ h => h.elim) (fun f m hb => Good.of_sub hb (Good.head hlp)))
end Go.Proofs.Ytdbhbpkdefbibaa
