/- Regions that draw their order, of which the last operation comes behind all others: these are drawn, that one is left. No condition. -/
import Derived.Test.YtdopckcockgefaaDoorK11
set_option linter.unusedVariables false
set_option linter.unusedSimpArgs false
namespace Go.Proofs.YtdopckcockgefaaDoor
theorem meet_mem {a b : List Nat} (h : meet a b = true) : ∃ x, x ∈ a ∧ x ∈ b := by
 unfold meet at h
 refine Classical.byContradiction fun hn => ?_
 have : allB (fun x => !memB b x) a = true := allB_iff.2 fun x hx => by
  cases e : memB b x with
  | false => rfl
  | true => exact (hn ⟨x, hx, memB_iff.1 e⟩).elim
 rw [this] at h
 cases h
theorem clash_big {x y : DRec} (h : clash x y = true) : clash (bigF x) (bigF y) = true := by
 unfold clash at h ⊢
 simp only [Bool.or_eq_true] at h ⊢
 rcases h with ((h | h) | h) | h
 ·exact .inl (.inl (.inl h))
 ·exact .inl (.inl (.inr h))
 ·obtain ⟨z, h1, h2⟩ := meet_mem h
  refine .inl (.inr (meet_of (x := z) h1 ?_))
  rcases List.mem_append.1 h2 with h2 | h2
  ·exact List.mem_append_left _ (List.mem_cons_of_mem _ h2)
  ·exact List.mem_append_right _ h2
 ·obtain ⟨z, h1, h2⟩ := meet_mem h
  exact .inr (meet_of (x := z) h1 (List.mem_cons_of_mem _ h2))
theorem clash_last (x : DRec) : clash (bigF x) lastD = true := by
 unfold clash
 rw [Bool.or_eq_true]
 exact .inr (meet_of (x := 0) (List.mem_append_right _ (List.mem_cons_self ..)) (List.mem_cons_self ..))
theorem go_none {ops : Array Oper} {listed : Array Bool} (h : Region.ready .any ops listed = []) (fuel t : Nat) : Region.linearise.go .any ops fuel t listed [] = [] := by
 cases fuel with
 | zero => rfl
 | succ fuel =>
  unfold Region.linearise.go
  change (match (Region.ready .any ops listed)[t % (Region.ready .any ops listed).length]? with | some i => Region.linearise.go .any ops fuel (t / (Region.ready .any ops listed).length) (listed.setIfInBounds i true) [i] | Option.none => [].reverse) = []
  rw [h]
  rfl
section
variable {E : Env} (hE : EnvOk E) {r : Nat → List SFr → SMem → Tree} (hr : RunOk E r)
include hE hr
theorem drawH_ok : DrawHOk E r := by
 intro id tag base ops T m n0 F w0 w R a next A B hpos h hT hR
 unfold drawH at h
 obtain ⟨n, hn1⟩ : ∃ n, n + 1 = ops.size := ⟨ops.size - 1, by omega⟩
 have hn0 : ops.size - 1 = n := by omega
 rw [hn0] at h ⊢
 have htk : (ops.toList.take n).length = n := by rw [List.length_take, Array.length_toList]; omega
 obtain ⟨ds, T', m', h, hlen, Ts, ms, eT0, em0, eTn, emn, htr⟩ := drawG_trace (fun _ _ h => by cases h) h
 split at h
 case h_2 => exact h.elim
 rename_i hord
 refine ⟨T', _, h, fun b hb k cs => ?_⟩
 clear h
 have hn : ds.length = n := by rw [hlen, htk]
 have htr' : ∀ j d, ds[j]? = some d → ∃ o T0, ops[j]? = some o ∧ Refn (onlyT (o.looksAt ops) (ms j).next (Ts j)) T0 ∧ DoneBy E r ops o base T0 (ms j) d (ms (j + 1)).next ∧ Ts (j + 1) = dstS (Ts j) d.dst d.v ∧ (ms (j + 1)).bl = insB d.bl (delB d.del (ms j).bl) ∧ (ms j).next ≤ (ms (j + 1)).next ∧ (ms (j + 1)).xs = d.xs ++ (ms j).xs := by
  intro j d hj
  have hjl : j < ds.length := (List.getElem?_eq_some_iff.1 hj).1
  have ho : ops[j]? = some ops[j] := Array.getElem?_eq_getElem (by omega)
  obtain ⟨d', T0, h1, h2, h3, h4, h5, h6, h7⟩ := htr j ops[j] (by rw [List.getElem?_take, if_pos (by omega), Array.getElem?_toList]; exact ho)
  rw [hj] at h1
  cases h1
  exact ⟨_, T0, ho, h2, h3, h4, h5, h6, h7⟩
 have hat : ∀ j, j < ds.length → ∃ d, ds[j]? = some d := fun j hj => ⟨_, List.getElem?_eq_getElem hj⟩
 have hmono : ∀ i, i < ds.length → (ms i).next ≤ (ms (i + 1)).next := by
  intro i hi
  obtain ⟨d, hd⟩ := hat i hi
  obtain ⟨_, _, _, _, _, _, _, h, _⟩ := htr' i d hd
  exact h
 have hTlen : ∀ j, j ≤ ds.length → (Ts j).n = T.n := by
  intro j
  induction j with
  | zero => intro _; rw [eT0]
  | succ j ih =>
   intro hj
   obtain ⟨d, hd⟩ := hat j (by omega)
   obtain ⟨_, _, _, _, _, h, _⟩ := htr' j d hd
   rw [h, ← ih (by omega)]
   cases d.dst <;> simp [dstS, Tm.set_n]
 have hTs : ∀ j, j ≤ ds.length → ∀ t, (Ts j).get t = stat T.get (recT ds T.n) (fun _ => true) j t := by
  intro j
  induction j with
  | zero => intro _ t; rw [eT0]; rfl
  | succ j ih =>
   intro hj t
   obtain ⟨d, hd⟩ := hat j (by omega)
   obtain ⟨_, _, _, _, _, h, _⟩ := htr' j d hd
   have hl := hTlen j (by omega)
   rw [h]
   simp only [stat, if_true, ← ih (by omega) t, recT, hd]
   cases hdd : d.dst with
   | none => simp [dstS]
   | some t' =>
    simp only [dstS, Tm.get_set, hl, Option.some.injEq]
    by_cases e : t = t'
    ·subst e
     by_cases hlt : t < T.n
     ·simp [hlt]
     ·simp [hlt]
    ·rw [if_neg (fun h => e h.1), if_neg (fun h => e h.1.symm)]
     rfl
 have hMs : ∀ j, j ≤ ds.length → ∀ i, getB (ms j).bl i = stat (getB m.bl) (recB ds) (fun _ => true) j i := by
  intro j
  induction j with
  | zero => intro _ t; rw [em0]; rfl
  | succ j ih =>
   intro hj i
   obtain ⟨d, hd⟩ := hat j (by omega)
   obtain ⟨_, _, _, _, _, _, h, _⟩ := htr' j d hd
   rw [h, insB_get, delB_get]
   simp only [stat, if_true, ← ih (by omega) i, recB, hd]
   cases getL d.bl i with
   | some b => rfl
   | none => by_cases hm : memB d.del i = true <;> simp [hm]
 have hXs : ∀ j, j ≤ ds.length → ∀ i, getX (ms j).xs i = stat (getX m.xs) (recX ds) (fun _ => true) j i := by
  intro j
  induction j with
  | zero => intro _ t; rw [em0]; rfl
  | succ j ih =>
   intro hj i
   obtain ⟨d, hd⟩ := hat j (by omega)
   obtain ⟨_, _, _, _, _, _, _, _, h⟩ := htr' j d hd
   rw [h, getX_append]
   simp only [stat, if_true, ← ih (by omega) i, recX, hd]
   cases getX d.xs i <;> rfl
 have hord0 := orderS_ok (ops := ops) (all := ds.map bigF ++ [lastD]) (l := ops.toList) (n := 0) (tab := []) rfl (Nat.zero_le _) hord rfl (fun p _ hp => by omega)
 have hallj : ∀ {j : Nat} {d : DRec}, ds[j]? = some d → (ds.map bigF ++ [lastD])[j]? = some (bigF d) := by
  intro j d hd
  have hjl : j < ds.length := (List.getElem?_eq_some_iff.1 hd).1
  rw [List.getElem?_append_left (by rw [List.length_map]; exact hjl), List.getElem?_map, hd]
  rfl
 have hord' : ∀ j d o, 0 ≤ j → ds[j]? = some d → ops[j]? = some o → (∀ e ∈ o.after.toList, Region.binds .any e = true → e.on < j) ∧ ∀ i x, i < j → ds[i]? = some x → clash x d = true → Anc ops i j := by
  intro j d o h0 hd ho
  obtain ⟨h1, h2⟩ := hord0 j (bigF d) o h0 (hallj hd) ho
  exact ⟨h1, fun i x hi hx hc => h2 i (bigF x) hi (hallj hx) (clash_big hc)⟩
 have hlastD : (ds.map bigF ++ [lastD])[n]? = some lastD := by
  rw [List.getElem?_append_right (by rw [List.length_map, hn]; exact Nat.le_refl _), List.length_map, hn, Nat.sub_self]
  rfl
 have hon : ops[n]? = some ops[n] := Array.getElem?_eq_getElem (by omega)
 obtain ⟨hedgeL, hancL⟩ := hord0 n lastD ops[n] (Nat.zero_le _) hlastD hon
 have hancL : ∀ i, i < n → Anc ops i n := fun i hi => by
  obtain ⟨d, hd⟩ := hat i (by omega)
  exact hancL i (bigF d) hi (hallj hd) (clash_last d)
 let Q : Exit → Act → World → Prop := fun _ _ _ => False
 have step : ∀ (D : Nat → Bool) (R1 : Ren) (a1 : Act) (w1 : World) (j : Nat) (K : Act → World → Prop), (∀ i, D i = true → i < ds.length) → (∀ j o, D j = true → ops[j]? = some o → ∀ p ∈ predsS o, D p = true) → DInv a.defers ds T m ms n0 F w0 R w base D R1 a1 w1 →
   j < ds.length → D j = false → (∀ o, ops[j]? = some o → ∀ p ∈ predsS o, D p = true) →
   (∀ R3 a2 w2, DInv a.defers ds T m ms n0 F w0 R w base (fun i => i == j || D i) R3 a2 w2 → K a2 w2) → wpOp E.P ops Q j K a1 w1 := by
  intro D R1 a1 w1 j K hDl hcl inv hj hD hpr hK
  obtain ⟨d, hd⟩ := hat j hj
  obtain ⟨o, T0, ho, href, hdop, hTj, hMj, _⟩ := htr' j d hd
  obtain ⟨_, hcl1⟩ := hord' j d o (Nat.zero_le _) hd ho
  have early : ∀ i x, i < j → ds[i]? = some x → clash x d = true → D i = true := fun i x hi hx hc => anc_closed hcl (hcl1 i x hi hx hc) hpr
  have late : ∀ i x, j < i → D i = true → ds[i]? = some x → clash d x = true → False := by
   intro i x hi hDi hx hc
   obtain ⟨o', _, ho', _⟩ := htr' i x hx
   obtain ⟨_, hcl2⟩ := hord' i x o' (Nat.zero_le _) hx ho'
   have := anc_closed hcl (hcl2 j d hi hd hc) fun o2 ho2 p hp => hcl i o2 hDi ho2 p hp
   rw [hD] at this
   cases this
  have nonT : ∀ {i t}, recT ds T.n i t ≠ none → ∃ x, ds[i]? = some x ∧ x.dst = some t := by
   intro i t h
   unfold recT at h
   cases hx : ds[i]? with
   | none => rw [hx] at h; exact (h rfl).elim
   | some x =>
    rw [hx] at h
    dsimp only at h
    split at h
    ·rename_i hc; exact ⟨x, rfl, hc.1⟩
    ·exact (h rfl).elim
  have nonB : ∀ {i t}, recB ds i t ≠ none → ∃ x, ds[i]? = some x ∧ t ∈ x.dom := by
   intro i t h
   unfold recB at h
   cases hx : ds[i]? with
   | none => rw [hx] at h; exact (h rfl).elim
   | some x =>
    rw [hx] at h
    dsimp only at h
    cases hg : getL x.bl t with
    | none =>
     rw [hg] at h
     dsimp only at h
     split at h
     ·rename_i hd; exact ⟨x, rfl, List.mem_append_right _ (memB_iff.1 hd)⟩
     ·exact (h rfl).elim
    | some b => exact ⟨x, rfl, mem_dom hg⟩
  have nonX : ∀ {i t}, recX ds i t ≠ none → ∃ x, ds[i]? = some x ∧ t ∈ x.dom := by
   intro i t h
   unfold recX at h
   cases hx : ds[i]? with
   | none => rw [hx] at h; exact (h rfl).elim
   | some x =>
    rw [hx] at h
    dsimp only at h
    cases hg : getX x.xs t with
    | none => rw [hg] at h; exact (h rfl).elim
    | some b => exact ⟨x, rfl, mem_domX hg⟩
  have seeT : ∀ t, t ∈ d.looks → stat T.get (recT ds T.n) D ds.length t = (Ts j).get t := by
   intro t ht
   rw [hTs j (by omega)]
   refine stat_pre (by omega) (fun i hi hr => ?_) (fun i h1 h2 hDi => ?_)
   ·obtain ⟨x, hx, hxd⟩ := nonT hr
    exact early i x hi hx (by simp [clash, meet_of (mem_optL hxd) (List.mem_append_left (optL d.dst) ht)])
   ·rcases Nat.lt_or_ge j i with hlt | hge
    ·refine Classical.byContradiction fun hr => ?_
     obtain ⟨x, hx, hxd⟩ := nonT hr
     exact late i x hlt hDi hx (by simp [clash, meet_of (mem_optL hxd) ht])
    ·obtain rfl : i = j := by omega
     rw [hD] at hDi
     cases hDi
  have seeB : ∀ i, i ∈ d.foot → stat (getB m.bl) (recB ds) D ds.length i = getB (ms j).bl i := by
   intro t ht
   rw [hMs j (by omega)]
   refine stat_pre (by omega) (fun i hi hr => ?_) (fun i h1 h2 hDi => ?_)
   ·obtain ⟨x, hx, hxd⟩ := nonB hr
    exact early i x hi hx (by simp [clash, meet_of hxd (List.mem_append_left d.dom ht)])
   ·rcases Nat.lt_or_ge j i with hlt | hge
    ·refine Classical.byContradiction fun hr => ?_
     obtain ⟨x, hx, hxd⟩ := nonB hr
     exact late i x hlt hDi hx (by simp [clash, meet_of hxd ht])
    ·obtain rfl : i = j := by omega
     rw [hD] at hDi
     cases hDi
  have seeX : ∀ i, i ∈ d.foot → stat (getX m.xs) (recX ds) D ds.length i = getX (ms j).xs i := by
   intro t ht
   rw [hXs j (by omega)]
   refine stat_pre (by omega) (fun i hi hr => ?_) (fun i h1 h2 hDi => ?_)
   ·obtain ⟨x, hx, hxd⟩ := nonX hr
    exact early i x hi hx (by simp [clash, meet_of hxd (List.mem_append_left d.dom ht)])
   ·rcases Nat.lt_or_ge j i with hlt | hge
    ·refine Classical.byContradiction fun hr => ?_
     obtain ⟨x, hx, hxd⟩ := nonX hr
     exact late i x hlt hDi hx (by simp [clash, meet_of hxd ht])
    ·obtain rfl : i = j := by omega
     rw [hD] at hDi
     cases hDi
  have lateT : ∀ t, recT ds T.n j t ≠ none → ∀ i, j < i → i < ds.length → D i = true → recT ds T.n i t = none := by
   intro t ht i hi _ hDi
   refine Classical.byContradiction fun hr => ?_
   obtain ⟨x, hx, hxd⟩ := nonT hr
   obtain ⟨y, hy, hyd⟩ := nonT ht
   rw [hd] at hy
   cases hy
   exact late i x hi hDi hx (by simp [clash, meet_of (mem_optL hyd) (List.mem_append_right x.looks (mem_optL hxd))])
  have lateB : ∀ t, recB ds j t ≠ none → ∀ i, j < i → i < ds.length → D i = true → recB ds i t = none := by
   intro t ht i hi _ hDi
   refine Classical.byContradiction fun hr => ?_
   obtain ⟨x, hx, hxd⟩ := nonB hr
   obtain ⟨y, hy, hyd⟩ := nonB ht
   rw [hd] at hy
   cases hy
   exact late i x hi hDi hx (by simp [clash, meet_of hyd (List.mem_append_right x.foot hxd)])
  have lateX : ∀ t, recX ds j t ≠ none → ∀ i, j < i → i < ds.length → D i = true → recX ds i t = none := by
   intro t ht i hi _ hDi
   refine Classical.byContradiction fun hr => ?_
   obtain ⟨x, hx, hxd⟩ := nonX hr
   obtain ⟨y, hy, hyd⟩ := nonX ht
   rw [hd] at hy
   cases hy
   exact late i x hi hDi hx (by simp [clash, meet_of hyd (List.mem_append_right x.foot hxd)])
  have hTm : TmOk (cutR R1 (ms j).next) (onlyT d.looks (ms j).next (Ts j)) a1 := by
   refine ⟨inv.size.trans (hTlen j (by omega)).symm, fun i s hx => ?_⟩
   obtain ⟨h1, h2, h3⟩ := onlyT_get hx
   have hst := seeT i h1
   rw [h2] at hst
   obtain ⟨v, k1, k2⟩ := inv.tm i _ hst
   exact ⟨v, k1, SV.cut h3 k2⟩
  have hlocs : ∀ wr i b, getB (onlyB (ms j).next wr (ms j).bl d.foot) i = some b → ∃ c, stat (getB m.bl) (recB ds) D ds.length i = some c ∧ (b.wr = true → c.wr = true) := by
   intro wr i b hb
   obtain ⟨h1, c, h2, _, rfl⟩ := onlyB_get hb
   refine ⟨c, by rw [seeB i h1]; exact h2, fun hw => ?_⟩
   simp only [Bool.and_eq_true] at hw
   exact hw.1
  have hRl : ∀ wr, Rel w1.heap.size (fun k => ∃ i b g, getB (onlyB (ms j).next wr (ms j).bl d.foot) i = some b ∧ b.wr = true ∧ R1 i = some g ∧ g.b = k ∧ (n0 ≤ k ∨ F k)) w1 (cutR R1 (ms j).next) ⟨(ms j).next, onlyB (ms j).next wr (ms j).bl d.foot, onlyX (ms j).xs (ms j).next d.foot⟩ w1 := by
   intro wr
   refine ⟨fun i k g h b c h1 h2 h3 h4 h5 h6 => ?_, fun i g h => inv.lt i g (cutR_ext _ _ h), fun i g h => ?_, fun i b hb => ?_, Nat.le_refl _, BelowF.refl _ _ _, fun i x hx => ?_, fun i k g h x y hi hk hg hx hy => ?_, fun g cs hg => ?_⟩
   rotate_left 3
   ·obtain ⟨p1, p2, y, rfl, p3, p4, p5⟩ := onlyX_get hx
    have hst := seeX i p1
    rw [p5] at hst
    obtain ⟨g, o, k1, k2, k3, k4⟩ := inv.xo i _ hst
    obtain ⟨r1, r2⟩ := XO.roD_ok p3 p4 k3
    exact ⟨g, o, cutR_lt k1 p2, k2, r1, fun h => by rw [r2] at h; cases h⟩
   ·obtain ⟨p1, p2, y1, _, _, _, p5⟩ := onlyX_get hx
    obtain ⟨q1, q2, y2, _, _, _, q5⟩ := onlyX_get hy
    have s1 := seeX i p1
    have s2 := seeX k q1
    rw [p5] at s1
    rw [q5] at s2
    exact inv.xi i k g h _ _ (cutR_ext _ _ hi) (cutR_ext _ _ hk) hg s1 s2
   ·obtain ⟨g1, g2, cs', ty, fz, g3, g4⟩ := hR.gl g cs hg
    refine ⟨Nat.lt_of_lt_of_le g1 inv.base, ?_, cs', ty, fz, (inv.fr.block g g1 g2).trans g3, g4⟩
    rintro ⟨_, _, _, _, _, _, _, h | h⟩
    ·omega
    ·exact g2 h
   ·obtain ⟨b', k1, k2⟩ := hlocs wr i b h4
    obtain ⟨c', k3, k4⟩ := hlocs wr k c h5
    exact inv.inj i k g h b' c' (cutR_ext _ _ h1) (cutR_ext _ _ h2) h3 k1 k3 (h6.imp k2 k4)
   ·unfold cutR at h
    split at h
    ·assumption
    ·cases h
   ·have hb' := hb
    obtain ⟨h1, c, h2, h3, rfl⟩ := onlyB_get hb
    have hst := seeB i h1
    rw [h2] at hst
    obtain ⟨g, cs, fz, k1, k2, ks, k3, k4⟩ := inv.blk i c hst
    simp only [Bool.and_eq_true] at h3
    have hci : i < (ms j).next := by simpa using h3.1
    refine ⟨g, cs, fz, cutR_lt k1 hci, k2, ks, SA.cutM h3.2 k3, fun hw => ?_⟩
    simp only [Bool.and_eq_true] at hw
    obtain ⟨k5, k6⟩ := k4 hw.1
    exact ⟨.inr ⟨i, _, g, hb', by simp [hw], k1, rfl, k5⟩, k6⟩
  obtain ⟨_, _, hxl, hdel, hdx, loc, hloc, hsame, hbelow, hgo⟩ := dop_ok hE hr hdop ho (href _ _ (by rw [← hdop.looks]; exact hTm)) hRl
  have hlocs' : ∀ i b, getB loc i = some b → ∃ c, stat (getB m.bl) (recB ds) D ds.length i = some c ∧ (b.wr = true → c.wr = true) := by
   intro i b hb
   obtain ⟨h1, c, h2, h3⟩ := hbelow i b hb
   exact ⟨c, by rw [seeB i h1]; exact h2, h3⟩
  exact hgo K Q fun R2 m1 w2 u h1 h2 h3 h4 h4x h5 =>
   let ⟨R3, h6⟩ := inv.after hd hD (by rw [em0]) hmono lateT lateB lateX hxl hR.nx hdel hdx hloc hlocs' hsame h1 h2 h3 h4 h4x h5
   hK R3 _ _ h6
 have getD2 : ∀ (listed : Array Bool) (i : Nat), i < listed.size → listed.getD i true = listed.getD i false := by
  intro listed i hi
  simp [Array.getD, hi]
 have edges : ∀ i, i < ops.size → ∀ e ∈ (ops[i]!).after.toList, Region.binds .any e = true → e.on < i := by
  intro i hi e he hb
  have ho : ops[i]? = some ops[i]! := by rw [getElem!_pos ops i hi]; exact Array.getElem?_eq_getElem hi
  by_cases e2 : i = n
  ·subst e2
   have e3 : ops[i]! = ops[i] := getElem!_pos ops i hi
   rw [e3] at he
   exact hedgeL e he hb
  ·obtain ⟨d, hd⟩ := hat i (by omega)
   exact (hord' i d _ (Nat.zero_le _) hd ho).1 e he hb
 have none : ∀ (listed : Array Bool), listed.size = ops.size → Region.ready .any ops listed = [] → ∀ i, i < ops.size → listed.getD i false = true := by
  intro listed hsz hrd i
  induction i using Nat.strongRecOn with
  | ind i ih =>
   intro hi
   refine Classical.byContradiction fun hf => ?_
   have ho : ops[i]? = some ops[i] := Array.getElem?_eq_getElem hi
   have hedge := edges i hi
   rw [getElem!_pos ops i hi] at hedge
   have hmem : i ∈ Region.ready .any ops listed := by
    unfold Region.ready
    refine List.mem_filter.2 ⟨List.mem_range.2 hi, ?_⟩
    rw [getD2 listed i (by omega), ho]
    have hf' : listed.getD i false = false := by simpa using hf
    rw [hf']
    simp only [Bool.not_false, Bool.true_and, Option.map_some, Option.getD_some, Array.all_eq_true, Bool.or_eq_true]
    intro k hk
    have he := hedge ops[i].after[k] (Array.getElem_mem_toList hk)
    cases hb : Region.binds .any ops[i].after[k] with
    | false => exact .inl rfl
    | true => exact .inr (ih _ (he hb) (by have := he hb; omega))
   rw [hrd] at hmem
   cases hmem
 have loop : ∀ (fuel t : Nat) (listed : Array Bool) (R1 : Ren) (a1 : Act) (w1 : World), listed.size = ops.size → listed.getD n false = false → (∀ j o, listed.getD j false = true → ops[j]? = some o → ∀ p ∈ predsS o, listed.getD p false = true) →
   ((List.range ops.size).filter fun i => !listed.getD i false).length ≤ fuel → DInv a.defers ds T m ms n0 F w0 R w base (fun i => listed.getD i false) R1 a1 w1 →
   ∃ a2 w2, (∃ D R2, (∀ i, i < ds.length → D i = true) ∧ DInv a.defers ds T m ms n0 F w0 R w base D R2 a2 w2) ∧ Steps E.P (lone (b.atR a1 (.inRegion ops (Region.linearise.go .any ops fuel t listed []) :: k)) cs w1) (lone (b.atR a2 (.inRegion ops [n] :: k)) cs w2) := by
  intro fuel
  induction fuel with
  | zero =>
   intro t listed R1 a1 w1 hsz hnf hcl hc inv
   have : n ∈ (List.range ops.size).filter fun i => !listed.getD i false := List.mem_filter.2 ⟨List.mem_range.2 (by omega), by simpa using hnf⟩
   rw [List.eq_nil_of_length_eq_zero (Nat.le_zero.1 hc)] at this
   cases this
  | succ fuel ih =>
   intro t listed R1 a1 w1 hsz hnf hcl hc inv
   cases hj0 : (Region.ready .any ops listed)[t % (Region.ready .any ops listed).length]? with
   | none =>
    have hnil : Region.ready .any ops listed = [] := by
     cases hrd : Region.ready .any ops listed with
     | nil => rfl
     | cons x xs =>
      rw [hrd] at hj0
      have hlt : t % (x :: xs).length < (x :: xs).length := Nat.mod_lt _ (Nat.succ_pos _)
      rw [List.getElem?_eq_getElem hlt] at hj0
      cases hj0
    have := none listed hsz hnil n (by omega)
    rw [hnf] at this
    cases this
   | some j =>
    have hgo : Region.linearise.go .any ops (fuel + 1) t listed [] = j :: Region.linearise.go .any ops fuel (t / (Region.ready .any ops listed).length) (listed.setIfInBounds j true) [] := by
     conv => lhs; unfold Region.linearise.go
     change (match (Region.ready .any ops listed)[t % (Region.ready .any ops listed).length]? with | some i => Region.linearise.go .any ops fuel (t / (Region.ready .any ops listed).length) (listed.setIfInBounds i true) [i] | Option.none => [].reverse) = _
     rw [hj0]
     show Region.linearise.go .any ops fuel (t / (Region.ready .any ops listed).length) (listed.setIfInBounds j true) [j] = _
     rw [linearise_go_acc]
     rfl
    rw [hgo]
    have hj := List.mem_of_getElem? hj0
    unfold Region.ready at hj
    obtain ⟨hj1, hj2⟩ := List.mem_filter.1 hj
    have hjl : j < ops.size := List.mem_range.1 hj1
    rw [getD2 listed j (by omega)] at hj2
    simp only [Bool.and_eq_true] at hj2
    have hDj : listed.getD j false = false := by simpa using hj2.1
    have hpr : ∀ o, ops[j]? = some o → ∀ p ∈ predsS o, listed.getD p false = true := by
     intro o ho p hp
     have h2 := hj2.2
     rw [ho] at h2
     simp only [Option.map_some, Option.getD_some, Array.all_eq_true, Bool.or_eq_true] at h2
     unfold predsS at hp
     obtain ⟨e, he, rfl⟩ := List.mem_map.1 hp
     obtain ⟨he1, he2⟩ := List.mem_filter.1 he
     obtain ⟨k, hk, hke⟩ := List.getElem_of_mem he1
     have hk' : k < o.after.size := by simpa using hk
     have := h2 k hk'
     have hke' : o.after[k] = e := by rw [← hke]; simp
     rw [hke', he2] at this
     simpa using this
    have upd : ∀ i, (listed.setIfInBounds j true).getD i false = (i == j || listed.getD i false) := by
     intro i
     by_cases e : i = j
     ·subst e
      simp [Array.getD_eq_getD_getElem?, Array.getElem?_setIfInBounds_self_of_lt (show i < listed.size by omega)]
     ·simp [Array.getD_eq_getD_getElem?, Array.getElem?_setIfInBounds_ne (Ne.symm e), e]
    by_cases hjn : j = n
    ·subst hjn
     have hall : ∀ i, i < j → listed.getD i false = true := fun i hi => anc_closed (D := fun i => listed.getD i false) hcl (hancL i hi) hpr
     have hrn : Region.ready .any ops (listed.setIfInBounds j true) = [] := by
      refine List.filter_eq_nil_iff.2 fun i hi => ?_
      rw [getD2 _ i (by rw [Array.size_setIfInBounds, hsz]; exact List.mem_range.1 hi), upd]
      by_cases e : i = j
      ·simp [e]
      ·rw [hall i (by have := List.mem_range.1 hi; omega)]
       simp
     rw [go_none hrn]
     exact ⟨a1, w1, ⟨_, R1, fun i hi => hall i (by omega), inv⟩, .refl _ _⟩
    ·obtain ⟨a2, w2, ⟨R3, inv2⟩, hs⟩ := wp_one (Q := fun _ _ _ => False) (fun _ _ _ h => h.elim) (step (fun i => listed.getD i false) R1 a1 w1 j (fun a2 w2 => ∃ R3, DInv a.defers ds T m ms n0 F w0 R w base (fun i => i == j || listed.getD i false) R3 a2 w2) (fun i hi => by
      rcases Nat.lt_or_ge i listed.size with h | h
      ·by_cases e : i = n
       ·have hi : listed.getD i false = true := hi
        rw [e, hnf] at hi
        cases hi
       ·omega
      ·simp [Array.getD, Nat.not_lt.2 h] at hi) hcl inv (by omega) hDj hpr fun R3 a2 w2 inv2 => ⟨R3, inv2⟩) (Region.linearise.go .any ops fuel (t / (Region.ready .any ops listed).length) (listed.setIfInBounds j true) []) b (hb.imp (fun h => h) fun h o c ho => noDefer_ok h j o c ho) k cs
     obtain ⟨a3, w3, hD3, hs3⟩ := ih (t / (Region.ready .any ops listed).length) (listed.setIfInBounds j true) R3 a2 w2 (by simpa using hsz) (by rw [upd, hnf]; simp [Ne.symm hjn]) (by
      intro i o hi ho p hp
      rw [upd] at hi ⊢
      simp only [Bool.or_eq_true, beq_iff_eq] at hi ⊢
      rcases hi with rfl | hi
      ·exact .inr (hpr o ho p hp)
      ·exact .inr (hcl i o hi ho p hp)) (by
      have hlt : ((List.range ops.size).filter fun i => !(listed.setIfInBounds j true).getD i false).length < ((List.range ops.size).filter fun i => !listed.getD i false).length := by
       have e : ((List.range ops.size).filter fun i => !(listed.setIfInBounds j true).getD i false) = ((List.range ops.size).filter fun i => !listed.getD i false).filter fun i => !(i == j) := by
        rw [List.filter_filter]
        refine List.filter_congr fun i _ => ?_
        rw [upd]
        cases (i == j) <;> simp
       rw [e]
       refine List.length_filter_lt_length_iff_exists.2 ⟨j, List.mem_filter.2 ⟨hj1, by rw [hDj]; rfl⟩, by simp⟩
      omega) (by simpa only [upd] using inv2)
     exact ⟨a3, w3, hD3, hs.trans hs3⟩
 have start : DInv a.defers ds T m ms n0 F w0 R w base (fun i => (Array.replicate ops.size false).getD i false) R a { w with drawn := w.drawn + 1 } := by
  have hnone : ∀ i, (Array.replicate ops.size false).getD i false = false := by
   intro i
   simp only [Array.getD_eq_getD_getElem?, Array.getElem?_replicate]
   split <;> rfl
  have e0 : ∀ {K V : Type} {init : K → V} {rec : Nat → K → Option V} (k : K), stat init rec (fun i => (Array.replicate ops.size false).getD i false) ds.length k = init k := by
   intro K V init rec k
   exact stat_none (Nat.zero_le _) fun i _ _ hi => by rw [hnone] at hi; cases hi
  refine ⟨rfl, hT.1, Ext.refl R, fun i g h => .inl h, Nat.le_refl _, ?_, ?_, hR.lt, fun i g h => .inl (hR.nx i g h), ?_, hR.base, ⟨hR.fr.os, hR.fr.tape, hR.fr.output, hR.fr.size, hR.fr.block, hR.fr.froz⟩, ?_, ?_⟩
  ·intro t x ht
   rw [e0] at ht
   exact hT.2 t x ht
  ·intro i j g h b c h1 h2 h3 h4 h5
   rw [e0] at h4 h5
   exact hR.inj i j g h b c h1 h2 h3 h4 h5
  ·intro i b hb
   rw [e0] at hb
   exact hR.blk i b hb
  ·intro i x hx
   rw [e0] at hx
   exact hR.xo i x hx
  ·intro i j g h x y h1 h2 h3 h4 h5
   rw [e0] at h4 h5
   exact hR.xi i j g h x y h1 h2 h3 h4 h5
 have hsch : ∀ t, Region.schedule (E.P.follows .mixedOrders) ops t = Region.linearise.go .any ops ops.size t (Array.replicate ops.size false) [] := fun t => by
  simp only [Region.schedule, hE.mixed, Bool.true_or, if_true]
  rfl
 obtain ⟨a', w', ⟨D, R1, hD, inv⟩, hsteps⟩ := loop ops.size (w.tape w.drawn (.order b.fn id)) (Array.replicate ops.size false) R a _ (by simp) (by
   simp only [Array.getD_eq_getD_getElem?, Array.getElem?_replicate]
   split <;> rfl) (fun j o hj => by
   have : (Array.replicate ops.size false).getD j false = false := by
    simp only [Array.getD_eq_getD_getElem?, Array.getElem?_replicate]
    split <;> rfl
   rw [this] at hj
   cases hj) (by
   refine Nat.le_trans (List.length_filter_le _ _) ?_
   simp) start
 have harr : Steps E.P (lone (b.atR a (.code (.region id ops true) :: k)) cs w) (lone (b.atR a' (.inRegion ops [n] :: k)) cs w') := .head (by rw [stepR_region_draw, hsch]) hsteps
 have eT : ∀ t, stat T.get (recT ds T.n) D ds.length t = T'.get t := by
  intro t
  rw [← eTn, ← hlen, hTs _ (Nat.le_refl _)]
  exact stat_same fun i hi _ => hD i hi
 have eB : ∀ i, stat (getB m.bl) (recB ds) D ds.length i = getB m'.bl i := by
  intro i
  rw [← emn, ← hlen, hMs _ (Nat.le_refl _)]
  exact stat_same fun j hj _ => hD j hj
 have eX : ∀ i, stat (getX m.xs) (recX ds) D ds.length i = getX m'.xs i := by
  intro i
  rw [← emn, ← hlen, hXs _ (Nat.le_refl _)]
  exact stat_same fun j hj _ => hD j hj
 have hmono' : ∀ i k, i ≤ k → k ≤ ds.length → (ms i).next ≤ (ms k).next := by
  intro i k hik
  induction k with
  | zero =>
   intro _
   obtain rfl : i = 0 := (by omega)
   exact Nat.le_refl _
  | succ k ih =>
   intro hk
   by_cases e : i = k + 1
   ·rw [e]; exact Nat.le_refl _
   ·exact Nat.le_trans (ih (by omega) (by omega)) (hmono k (by omega))
 have hnext : m.next ≤ m'.next := by
  rw [← em0, ← emn, ← hlen]
  exact hmono' 0 _ (by omega) (Nat.le_refl _)
 refine ⟨a', w', R1, ⟨⟨inv.ext, inv.new, inv.grows⟩, hnext⟩, ?_, inv.defers, ?_, harr⟩
 ·have e : T'.n = T.n := by rw [← eTn, ← hlen]; exact hTlen _ (Nat.le_refl _)
  refine ⟨inv.size.trans e.symm, fun i s hx => ?_⟩
  rw [← eT] at hx
  exact inv.tm i s hx
 ·have hRel : Rel n0 F w0 R1 ⟨m'.next, m'.bl, m'.xs⟩ w' := by
   refine ⟨fun i j g h b c h1 h2 h3 h4 h5 => inv.inj i j g h b c h1 h2 h3 (by rw [eB]; exact h4) (by rw [eB]; exact h5), inv.lt, fun i g h => ?_, fun i b hb => ?_, inv.base, inv.fr, fun i x hx => inv.xo i x (by rw [eX]; exact hx), fun i j g h x y h1 h2 h3 h4 h5 => inv.xi i j g h x y h1 h2 h3 (by rw [eX]; exact h4) (by rw [eX]; exact h5), hR.gl⟩
   ·show i < m'.next
    rcases inv.dom i g h with h | ⟨k, hk, _, _, h5⟩
    ·omega
    ·have := hmono' (k + 1) ds.length (by omega) (Nat.le_refl _)
     rw [hlen, emn] at this
     omega
   ·have hb : getB m'.bl i = some b := hb
    rw [← eB] at hb
    exact inv.blk i b hb
  exact hRel
end
end Go.Proofs.YtdopckcockgefaaDoor
