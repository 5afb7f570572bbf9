/- Of journal: JournalTears' loop over the ends. No condition. -/
import Derived.Test.YtapkbgccbmjfaaaMD
import Derived.Test.YtapkbgccbmjfaaaRows
import Derived.Test.YtapkbgccbmjfaaaE1
import Derived.ProofKit
import Derived.OpenShut
import Derived.ChangeSame
import Derived.Deep.Slices
import Derived.Deep.Fields
import Derived.Test.YtapkbgccbmjfaaaK15
import Derived.Test.YtapkbgccbmjfaaaMB
import Derived.ChangeMaps5
namespace Go.Proofs.Ytapkbgccbmjfaaa
set_option linter.unusedSectionVars false
set_option linter.unusedVariables false
set_option maxRecDepth 100000
set_option maxHeartbeats 4000000
def chA (J : ByteArray) (nn : Nat) (x : Int) : Array Value := (celA J).setIfInBounds nn (.int .u8 x)
def chB (J : ByteArray) (nn : Nat) (x : Int) : ByteArray := strOf (Array.toList (Array.extract (chA J nn x) 0 J.size))
theorem chA_size (J : ByteArray) (nn : Nat) (x : Int) : (chA J nn x).size = J.size := by unfold chA; rw [Array.size_setIfInBounds, celA_size]
theorem chA_all (J : ByteArray) (nn : Nat) (x : Int) : (chA J nn x).extract 0 J.size = chA J nn x := by
  rw [← chA_size J nn x]
  exact Array.extract_size
theorem chB_size (J : ByteArray) (nn : Nat) (x : Int) : (chB J nn x).size = J.size := by
  unfold chB
  rw [strOf_size, chA_all, Array.length_toList, chA_size]
theorem chA_u8 (J : ByteArray) (nn : Nat) (x : Int) : AllU8 (Array.extract (chA J nn x) 0 J.size).1 := by
  rw [chA_all]
  intro v hv
  unfold chA at hv
  rcases Array.mem_or_eq_of_mem_setIfInBounds (Array.mem_toList_iff.1 hv) with h | h
  · exact celA_u8 J v (Array.mem_toList_iff.2 h)
  · exact ⟨x, h⟩
theorem chB_off {J : ByteArray} {nn : Nat} {x : Int} (hn : nn < J.size) (hx : 0 ≤ x ∧ x ≤ 255) (hne : x ≠ byteAt J nn) : OneOff J (chB J nn x) nn := by
  have key : ∀ i, i < J.size → byteAt (chB J nn x) i = if nn = i then x else byteAt J i := fun i hi => by
    rw [byteAt_bl]
    unfold chB
    rw [bl_strOf, chA_all, List.getElem?_map, Array.getElem?_toList]
    unfold chA
    rw [Array.getElem?_setIfInBounds]
    have hi2 : i < (celA J).size := by rw [celA_size]; exact hi
    by_cases e : nn = i
    · rw [if_pos e, if_pos e, if_pos (by rw [e]; exact hi2)]
      show ((UInt8.ofNat x.toNat).toNat : Int) = x
      rw [UInt8.toNat_ofNat']
      omega
    · rw [if_neg e, if_neg e, byteAt_bl]
      have hm := congrArg (fun l => l[i]?) (map_celA J)
      simp only [List.getElem?_map] at hm
      rw [Array.getElem?_toList] at hm
      rw [hm]
  have out : ∀ i, J.size ≤ i → byteAt (chB J nn x) i = byteAt J i := fun i hi => by
    rw [byteAt_bl, byteAt_bl, List.getElem?_eq_none (by rw [bl_len, chB_size]; exact hi), List.getElem?_eq_none (by rw [bl_len]; exact hi)]
  refine ⟨chB_size J nn x, fun i hi => ?_, ?_⟩
  · by_cases h : i < J.size
    · rw [key i h, if_neg (fun e => hi e.symm)]
    · exact out i (by omega)
  · rw [key nn hn, if_pos rfl]
    exact hne
theorem t7T0_ok (a b c : Nat) : TodoOk (ren 2 [(2, 2), (5, a), (6, b), (7, c)]) t7T0 t7T0 := TodoOk.same (by kernel_rfl)
theorem t7H0_ok (a b c : Nat) : TodoOk (ren 2 [(2, 2), (5, a), (6, b), (7, c)]) t7H0 t7H0 := TodoOk.same (by kernel_rfl)
section
variable {w : Bool} {P : Int} {o n : Nat} {q : ByteArray} {o' n' : Nat} {e d : Int} {cs ds : Array Value} {ty tz : TypeId}
theorem t7N_good {A : SV → SMem → Prop} {h : Bool} {Q : Int → Int → Nat → Array Value → Nat → Array Value → Nat → Array Value → Prop}
    (hg : ∀ mm i k es k' ts kb bs, Q mm i k es k' ts kb bs → Good EK.P A 2 (headF (t7F w P o n q o' n' e d cs ds ty tz k k' kb mm i)) (t7M P o n q cs ds ty tz es ts bs)) {fs : List SFr} {m : SMem} (hb : t7N w P o n q o' n' e d cs ds ty tz h Q fs m) : Good EK.P A 2 fs m := by
  unfold t7N at hb
  generalize t7F w P o n q o' n' e d cs ds ty tz = F at *
  split at hb
  · split at hb
    · cases h with
      | true => exact Good.of_sub hb.2 (hg _ _ _ _ _ _ _ _ hb.1)
      | false => exact Good.of_sub hb.2 (Good.head (hg _ _ _ _ _ _ _ _ hb.1))
    · exact hb.elim
  · exact hb.elim
end
section
variable (w : Bool) (P : Int) (o n : Nat) (q : ByteArray) (o' n' : Nat) (e d : Int) (cs ds : Array Value) (ty tz : TypeId) (h : ByteArray) (c : Nat → Nat) (hc : ∀ i, 1 ≤ c i ∧ c i ≤ 200) (hh : okJ h = true) (he : endN h + 4 = h.size) (hp4 : q.size ≤ 4000) (ha : anyB (celA q) 0 q.size = false)
  (m kk nn : Nat) (x : Int) (hm : m ≤ 4000) (hk : kk < m) (hlt : ∀ t, t < m → cutN c q.size t < q.size) (hE1 : (jnl h q c kk).size ≤ nn) (hE2 : nn < (jnl h q c (kk + 1)).size) (hn : (jnl h q c m).size ≤ 90000) (hx : 0 ≤ x ∧ x ≤ 255) (hxn : x ≠ byteAt (jnl h q c m) nn)
include hc hh he hp4 ha hm hk hlt hE1 hE2 hn hx hxn
theorem t7_read (hne : nn ≠ (jnl h q c kk).size) : okJ (chB (jnl h q c m) nn x) = true ∧ finB (chB (jnl h q c m) nn x) = ((jnl h q c kk).size, q.extract 0 (cutN c q.size kk)) := by
  have hnext := jnl_mono h q c hc (i := kk + 1) (k := m) hk
  have hm0 := jnl_mono h q c hc (i := kk) (k := m) (by omega)
  have hg := jnl_ge h q c hc kk
  have h10 := (pre_size (okJ_iff hh).1).1
  have off := chB_off (J := jnl h q c m) (nn := nn) (x := x) (by have := hnext.1; omega) hx hxn
  obtain ⟨r1, r2, _⟩ := rec_at h q c hc hh he hp4 ha (hlt kk hk)
  obtain ⟨q1, q2, _⟩ := hnext.hRec r1
  have hno := rec_off off (by omega) q1 (by omega) (by omega)
  obtain ⟨s1, s2, _⟩ := read_at h q c hc hh he hp4 ha _ kk (off.pre hE1 hm0 rfl) (fun t ht => hlt t (by omega)) hno
  exact ⟨s1, s2⟩
theorem t7_loop : ∀ K t, kk - t < K → t ≤ kk → Good EK.P (boolR true) 2 (headF (t7F w P o n q o' n' e d cs ds ty tz (m + 1) (m + 1) (jnl h q c m).size (nn : Int) (t : Int))) (t7M P o n q cs ds ty tz (endsA h q c m) (toldA q c m) (chA (jnl h q c m) nn x)) := by
  intro K
  induction K with
  | zero => intro t h; omega
  | succ K ih =>
    intro t hkt ht
    have i1 : ari .add .i64 (t : Int) 1 = ((t + 1 : Nat) : Int) := by rw [ari_add, Go.IntWalk.i64_in _ (by omega)]; omega
    have i2 : ari .add .i64 (t : Int) 2 = ((t + 2 : Nat) : Int) := by rw [ari_add, Go.IntWalk.i64_in _ (by omega)]; omega
    have hread := t7_read q h c hc hh he hp4 ha m kk nn x hm hk hlt hE1 hE2 hn hx hxn
    have hnext := (jnl_mono h q c hc (i := kk + 1) (k := m) hk).1
    have hcl := cut_le q c hc kk
    have hct := cut_le q c hc t
    have hup : t < kk → (jnl h q c (t + 1)).size ≤ (jnl h q c kk).size := fun hlt => (jnl_mono h q c hc (i := t + 1) (k := kk) hlt).1
    obtain ⟨v1, v2⟩ := endsA_at h q c (i := m) (t := t) (by omega)
    obtain ⟨u1, u2⟩ := toldA_at q c (i := m) (t := t) (by omega)
    have hH := t7H0_ok
    have hBB : strOf (Array.toList (Array.extract (chA (jnl h q c m) nn x) 0 (jnl h q c m).size)) = chB (jnl h q c m) nn x := rfl
    have hBz := chB_size (jnl h q c m) nn x
    have fitB : (jnl h q c m).size ≤ (chA (jnl h q c m) nn x).size := by rw [chA_size]; exact Nat.le_refl _
    have u8B := chA_u8 (jnl h q c m) nn x
    have hstr : strOf (Array.toList (Array.extract (celA (q.extract 0 (cutN c q.size t))) 0 (q.extract 0 (cutN c q.size t)).size)) = q.extract 0 (cutN c q.size t) := by
      have := pkQ_cel (q.extract 0 (cutN c q.size t))
      unfold pkQ at this
      rw [Nat.zero_add] at this
      exact this
    have fit : (q.extract 0 (cutN c q.size t)).size ≤ (celA (q.extract 0 (cutN c q.size t))).size := by rw [celA_size]; exact Nat.le_refl _
    have u8c : AllU8 (Array.extract (celA (q.extract 0 (cutN c q.size t))) 0 (q.extract 0 (cutN c q.size t)).size).1 := (pick_eq (q.extract 0 (cutN c q.size t))).2.1
    have hS := same_str (q.extract 0 (cutN c q.size t))
    have hS0 : decide ((q.extract 0 (cutN c q.size t)).size ≠ 0) = false → ((match mkSB (true && false) (ByteArray.toList ByteArray.empty == ByteArray.toList (q.extract 0 (cutN c q.size t))) with | SB.l b => b | SB.o b => b) == true) = true := fun hw => by
      have hz := of_decide_eq_false hw
      have : q.extract 0 (cutN c q.size t) = ByteArray.empty := by
        apply ByteArray.ext
        exact Array.eq_empty_of_size_eq_zero (by show (q.extract 0 (cutN c q.size t)).size = 0; omega)
      rw [this]
      show ((ByteArray.empty.toList == ByteArray.empty.toList) == true) = true
      rw [toL_same]
      rfl
    cases w with
    | true =>
      refine past_vc EK_ok 1000 (t7_k_t P o n q o' n' e d cs ds ty tz (m + 1) (m + 1) (jnl h q c m).size (nn : Int) (t : Int) (endsA h q c m) (toldA q c m) (chA (jnl h q c m) nn x) (fun mm i k es k' ts kb bs => t < kk ∧ mm = (nn : Int) ∧ i = ((t + 1 : Nat) : Int) ∧ k = m + 1 ∧ es = endsA h q c m ∧ k' = m + 1 ∧ ts = toldA q c m ∧ kb = (jnl h q c m).size ∧ bs = chA (jnl h q c m) nn x)) ?_ (fun _ _ h => h) (fun fs mm hb => t7N_good (fun mm' i k es k' ts kb bs hx => ?_) hb)
      rotate_left
      · obtain ⟨lt, e1, e2, e3, e4, e5, e6, e7, e8⟩ := hx
        rw [e1, e2, e3, e4, e5, e6, e7, e8]
        exact ih (t + 1) (by omega) (by omega)
      simp only [Int.toNat_natCast, Nat.mul_one, Nat.zero_add]
      simp only [i1, i2]
      simp only [Int.toNat_natCast, Nat.mul_one, Nat.zero_add]
      simp only [v1, u1, hBB, Int.toNat_natCast]
      refine ⟨fun h1 => ?_, fun h1 => ?_⟩
      · have h1 : t + 2 < m + 1 := by have h1 : decide (((t + 2 : Nat) : Int) < ((m + 1 : Nat) : Int)) = true := (by simpa using h1); have := of_decide_eq_true h1; omega
        obtain ⟨n1, n2⟩ := endsA_at h q c (i := m) (t := t + 1) (by omega)
        simp only [n1]
        refine ⟨⟨⟨by omega, by omega⟩, trivial⟩, ⟨n2, trivial⟩, fun h2 => ?_, fun h2 => ?_⟩
        · have h2 := of_decide_eq_true h2
          have hlt : t < kk := by
            by_cases e : t = kk
            · subst e
              omega
            · omega
          refine ⟨⟨hlt, ?_⟩, ?_⟩
          · repeat' first | exact trivial | exact rfl | apply And.intro
          · clear ih
            generalize t7H0 = H at *
            repeat' first | exact trivial | exact rfl | exact hH _ _ _ | apply And.intro
        · have h2 := of_decide_eq_false h2
          have ht : t = kk := by
            by_cases e : t = kk
            · exact e
            · have := hup (by omega)
              omega
          subst ht
          refine ⟨⟨⟨by omega, by omega⟩, trivial⟩, ⟨v2, trivial⟩, fun _ => (by trivial), fun hne => ?_⟩
          have hne : nn ≠ (jnl h q c t).size := fun hx => by rw [hx] at hne; simp at hne
          obtain ⟨s1, s2⟩ := hread hne
          have g1 : (finB (chB (jnl h q c m) nn x)).1 = (jnl h q c t).size := by rw [s2]
          have g2 : (finB (chB (jnl h q c m) nn x)).2 = q.extract 0 (cutN c q.size t) := by rw [s2]
          simp only [g1, g2, hstr]
          have tB : (!decide ((jnl h q c t).size < (chB (jnl h q c m) nn x).size)) = false := by rw [hBz, decide_eq_true (by omega)]; rfl
          have zB : (((((jnl h q c t).size : Nat) : Int) == (((jnl h q c t).size : Nat) : Int)) == true) = true := by simp
          refine ⟨⟨fitB, u8B, trivial⟩, ⟨by omega, trivial⟩, fun _ => ⟨fun hw => ⟨fun hx => absurd (tB.symm.trans hx) (by decide), fun _ => ⟨⟨⟨by omega, by omega⟩, trivial⟩, ⟨v2, trivial⟩, fun _ => ⟨⟨fit, u8c, trivial⟩, ⟨⟨by omega, by omega⟩, trivial⟩, ⟨u2, trivial⟩, ⟨by omega, by omega, trivial⟩, fun _ => (by trivial), fun hx => absurd (hS.symm.trans hx) (by decide)⟩, fun hx => absurd (zB.symm.trans hx) (by decide)⟩⟩, fun hw => ⟨fun hx => absurd (tB.symm.trans hx) (by decide), fun _ => ⟨⟨⟨by omega, by omega⟩, trivial⟩, ⟨v2, trivial⟩, fun _ => ⟨⟨⟨by omega, by omega⟩, trivial⟩, ⟨u2, trivial⟩, ⟨by omega, by omega, trivial⟩, fun _ => (by trivial), fun hx => absurd ((hS0 hw).symm.trans hx) (by decide)⟩, fun hx => absurd (zB.symm.trans hx) (by decide)⟩⟩⟩, fun hx => absurd (s1.symm.trans hx) (by decide)⟩
      · have h1 : ¬ t + 2 < m + 1 := by have h1 : decide (((t + 2 : Nat) : Int) < ((m + 1 : Nat) : Int)) = false := (by simpa using h1); have := of_decide_eq_false h1; omega
        have ht : t = kk := by omega
        subst ht
        refine ⟨⟨⟨by omega, by omega⟩, trivial⟩, ⟨v2, trivial⟩, fun _ => (by trivial), fun hne => ?_⟩
        have hne : nn ≠ (jnl h q c t).size := fun hx => by rw [hx] at hne; simp at hne
        obtain ⟨s1, s2⟩ := hread hne
        have g1 : (finB (chB (jnl h q c m) nn x)).1 = (jnl h q c t).size := by rw [s2]
        have g2 : (finB (chB (jnl h q c m) nn x)).2 = q.extract 0 (cutN c q.size t) := by rw [s2]
        simp only [g1, g2, hstr]
        have tB : (!decide ((jnl h q c t).size < (chB (jnl h q c m) nn x).size)) = false := by rw [hBz, decide_eq_true (by omega)]; rfl
        have zB : (((((jnl h q c t).size : Nat) : Int) == (((jnl h q c t).size : Nat) : Int)) == true) = true := by simp
        refine ⟨⟨fitB, u8B, trivial⟩, ⟨by omega, trivial⟩, fun _ => ⟨fun hw => ⟨fun hx => absurd (tB.symm.trans hx) (by decide), fun _ => ⟨⟨⟨by omega, by omega⟩, trivial⟩, ⟨v2, trivial⟩, fun _ => ⟨⟨fit, u8c, trivial⟩, ⟨⟨by omega, by omega⟩, trivial⟩, ⟨u2, trivial⟩, ⟨by omega, by omega, trivial⟩, fun _ => (by trivial), fun hx => absurd (hS.symm.trans hx) (by decide)⟩, fun hx => absurd (zB.symm.trans hx) (by decide)⟩⟩, fun hw => ⟨fun hx => absurd (tB.symm.trans hx) (by decide), fun _ => ⟨⟨⟨by omega, by omega⟩, trivial⟩, ⟨v2, trivial⟩, fun _ => ⟨⟨⟨by omega, by omega⟩, trivial⟩, ⟨u2, trivial⟩, ⟨by omega, by omega, trivial⟩, fun _ => (by trivial), fun hx => absurd ((hS0 hw).symm.trans hx) (by decide)⟩, fun hx => absurd (zB.symm.trans hx) (by decide)⟩⟩⟩, fun hx => absurd (s1.symm.trans hx) (by decide)⟩
    | false =>
      refine past_vc EK_ok 1000 (t7_k_f P o n q o' n' e d cs ds ty tz (m + 1) (m + 1) (jnl h q c m).size (nn : Int) (t : Int) (endsA h q c m) (toldA q c m) (chA (jnl h q c m) nn x) (fun mm i k es k' ts kb bs => t < kk ∧ mm = (nn : Int) ∧ i = ((t + 1 : Nat) : Int) ∧ k = m + 1 ∧ es = endsA h q c m ∧ k' = m + 1 ∧ ts = toldA q c m ∧ kb = (jnl h q c m).size ∧ bs = chA (jnl h q c m) nn x)) ?_ (fun _ _ h => h) (fun fs mm hb => t7N_good (fun mm' i k es k' ts kb bs hx => ?_) hb)
      rotate_left
      · obtain ⟨lt, e1, e2, e3, e4, e5, e6, e7, e8⟩ := hx
        rw [e1, e2, e3, e4, e5, e6, e7, e8]
        exact ih (t + 1) (by omega) (by omega)
      simp only [Int.toNat_natCast, Nat.mul_one, Nat.zero_add]
      simp only [i1, i2]
      simp only [Int.toNat_natCast, Nat.mul_one, Nat.zero_add]
      simp only [v1, u1, hBB, Int.toNat_natCast]
      refine ⟨fun h1 => ?_, fun h1 => ?_⟩
      · have h1 : t + 2 < m + 1 := by have h1 : decide (((t + 2 : Nat) : Int) < ((m + 1 : Nat) : Int)) = true := (by simpa using h1); have := of_decide_eq_true h1; omega
        obtain ⟨n1, n2⟩ := endsA_at h q c (i := m) (t := t + 1) (by omega)
        simp only [n1]
        refine ⟨⟨⟨by omega, by omega⟩, trivial⟩, ⟨n2, trivial⟩, fun h2 => ?_, fun h2 => ?_⟩
        · have h2 := of_decide_eq_true h2
          have hlt : t < kk := by
            by_cases e : t = kk
            · subst e
              omega
            · omega
          refine ⟨⟨hlt, ?_⟩, ?_⟩
          · repeat' first | exact trivial | exact rfl | apply And.intro
          · clear ih
            generalize t7H0 = H at *
            repeat' first | exact trivial | exact rfl | exact hH _ _ _ | apply And.intro
        · have h2 := of_decide_eq_false h2
          have ht : t = kk := by
            by_cases e : t = kk
            · exact e
            · have := hup (by omega)
              omega
          subst ht
          refine ⟨⟨⟨by omega, by omega⟩, trivial⟩, ⟨v2, trivial⟩, fun _ => (by trivial), fun hne => ?_⟩
          have hne : nn ≠ (jnl h q c t).size := fun hx => by rw [hx] at hne; simp at hne
          obtain ⟨s1, s2⟩ := hread hne
          have g1 : (finB (chB (jnl h q c m) nn x)).1 = (jnl h q c t).size := by rw [s2]
          have g2 : (finB (chB (jnl h q c m) nn x)).2 = q.extract 0 (cutN c q.size t) := by rw [s2]
          simp only [g1, g2, hstr]
          have tB : (!decide ((jnl h q c t).size < (chB (jnl h q c m) nn x).size)) = false := by rw [hBz, decide_eq_true (by omega)]; rfl
          have zB : (((((jnl h q c t).size : Nat) : Int) == (((jnl h q c t).size : Nat) : Int)) == true) = true := by simp
          refine ⟨⟨fitB, u8B, trivial⟩, ⟨by omega, trivial⟩, fun _ => ⟨fun hw => ⟨fun hx => absurd (tB.symm.trans hx) (by decide), fun _ => ⟨⟨⟨by omega, by omega⟩, trivial⟩, ⟨v2, trivial⟩, fun _ => ⟨⟨fit, u8c, trivial⟩, ⟨⟨by omega, by omega⟩, trivial⟩, ⟨u2, trivial⟩, ⟨by omega, by omega, trivial⟩, fun _ => (by trivial), fun hx => absurd (hS.symm.trans hx) (by decide)⟩, fun hx => absurd (zB.symm.trans hx) (by decide)⟩⟩, fun hw => ⟨fun hx => absurd (tB.symm.trans hx) (by decide), fun _ => ⟨⟨⟨by omega, by omega⟩, trivial⟩, ⟨v2, trivial⟩, fun _ => ⟨⟨⟨by omega, by omega⟩, trivial⟩, ⟨u2, trivial⟩, ⟨by omega, by omega, trivial⟩, fun _ => (by trivial), fun hx => absurd ((hS0 hw).symm.trans hx) (by decide)⟩, fun hx => absurd (zB.symm.trans hx) (by decide)⟩⟩⟩, fun hx => absurd (s1.symm.trans hx) (by decide)⟩
      · have h1 : ¬ t + 2 < m + 1 := by have h1 : decide (((t + 2 : Nat) : Int) < ((m + 1 : Nat) : Int)) = false := (by simpa using h1); have := of_decide_eq_false h1; omega
        have ht : t = kk := by omega
        subst ht
        refine ⟨⟨⟨by omega, by omega⟩, trivial⟩, ⟨v2, trivial⟩, fun _ => (by trivial), fun hne => ?_⟩
        have hne : nn ≠ (jnl h q c t).size := fun hx => by rw [hx] at hne; simp at hne
        obtain ⟨s1, s2⟩ := hread hne
        have g1 : (finB (chB (jnl h q c m) nn x)).1 = (jnl h q c t).size := by rw [s2]
        have g2 : (finB (chB (jnl h q c m) nn x)).2 = q.extract 0 (cutN c q.size t) := by rw [s2]
        simp only [g1, g2, hstr]
        have tB : (!decide ((jnl h q c t).size < (chB (jnl h q c m) nn x).size)) = false := by rw [hBz, decide_eq_true (by omega)]; rfl
        have zB : (((((jnl h q c t).size : Nat) : Int) == (((jnl h q c t).size : Nat) : Int)) == true) = true := by simp
        refine ⟨⟨fitB, u8B, trivial⟩, ⟨by omega, trivial⟩, fun _ => ⟨fun hw => ⟨fun hx => absurd (tB.symm.trans hx) (by decide), fun _ => ⟨⟨⟨by omega, by omega⟩, trivial⟩, ⟨v2, trivial⟩, fun _ => ⟨⟨fit, u8c, trivial⟩, ⟨⟨by omega, by omega⟩, trivial⟩, ⟨u2, trivial⟩, ⟨by omega, by omega, trivial⟩, fun _ => (by trivial), fun hx => absurd (hS.symm.trans hx) (by decide)⟩, fun hx => absurd (zB.symm.trans hx) (by decide)⟩⟩, fun hw => ⟨fun hx => absurd (tB.symm.trans hx) (by decide), fun _ => ⟨⟨⟨by omega, by omega⟩, trivial⟩, ⟨v2, trivial⟩, fun _ => ⟨⟨⟨by omega, by omega⟩, trivial⟩, ⟨u2, trivial⟩, ⟨by omega, by omega, trivial⟩, fun _ => (by trivial), fun hx => absurd ((hS0 hw).symm.trans hx) (by decide)⟩, fun hx => absurd (zB.symm.trans hx) (by decide)⟩⟩⟩, fun hx => absurd (s1.symm.trans hx) (by decide)⟩
end
end Go.Proofs.Ytapkbgccbmjfaaa
/- Of journal: law 6: its journals' first round, and all of them. No condition. -/
namespace Go.Proofs.Ytapkbgccbmjfaaa
set_option linter.unusedSectionVars false
set_option linter.unusedVariables false
set_option maxRecDepth 100000
set_option maxHeartbeats 4000000
section
variable (w : Bool) (P : Int) (o n : Nat) (q : ByteArray) (o' n' : Nat) (e : Int) (cs ds : Array Value) (ty tz : TypeId) (hm : mayS P o n q.size cs (celA q) = true) (hS : StrOk cs o n) (hD : w = true → BytI ds o' n')
include hm hS hD
end
end Go.Proofs.Ytapkbgccbmjfaaa
/- Of journal: JournalKeeps behind its journal: states. No condition. -/
namespace Go.Proofs.Ytapkbgccbmjfaaa
noncomputable section
section
variable (w2 w : Bool) (P : Int) (o n : Nat) (q : ByteArray) (o' n' : Nat) (e : Int) (cs ds : Array Value) (ty tz : TypeId)
end
end
end Go.Proofs.Ytapkbgccbmjfaaa
/- Of journal: JournalKeeps behind its journal, as propositions. No condition. -/
namespace Go.Proofs.Ytapkbgccbmjfaaa
set_option maxRecDepth 100000
end Go.Proofs.Ytapkbgccbmjfaaa
/- Of journal: JournalKeeps' loop over the ends. No condition. -/
namespace Go.Proofs.Ytapkbgccbmjfaaa
set_option linter.unusedSectionVars false
set_option linter.unusedVariables false
set_option maxRecDepth 100000
set_option maxHeartbeats 4000000
section
variable {w : Bool} {P : Int} {o n : Nat} {q : ByteArray} {o' n' : Nat} {e : Int} {cs ds : Array Value} {ty tz : TypeId}
end
section
variable (w : Bool) (P : Int) (o n : Nat) (q : ByteArray) (o' n' : Nat) (e : Int) (cs ds : Array Value) (ty tz : TypeId) (h : ByteArray) (c : Nat → Nat) (hc : ∀ i, 1 ≤ c i ∧ c i ≤ 200) (hq : q.size ≤ 4000)
  (m kk nn : Nat) (hm : m ≤ 4000) (hk : kk ≤ m) (hE1 : (jnl h q c kk).size ≤ nn) (hE2 : kk < m → nn < (jnl h q c (kk + 1)).size) (hn : nn ≤ 100000)
  (A : Int) (nn' : Nat) (rs : Array Value)
include hc hq hm hk hE1 hE2 hn
end
end Go.Proofs.Ytapkbgccbmjfaaa
/- Of journal: JournalKeeps behind its journal. No condition. -/
namespace Go.Proofs.Ytapkbgccbmjfaaa
set_option linter.unusedSectionVars false
set_option linter.unusedVariables false
set_option maxRecDepth 100000
set_option maxHeartbeats 4000000
theorem place (E : Nat → Nat) (nn : Nat) (h0 : E 0 ≤ nn) : ∀ m, ∃ kk, kk ≤ m ∧ E kk ≤ nn ∧ (kk < m → nn < E (kk + 1))
  | 0 => ⟨0, Nat.le_refl _, h0, fun h => absurd h (Nat.lt_irrefl _)⟩
  | m + 1 => by
    by_cases e : E (m + 1) ≤ nn
    · exact ⟨m + 1, Nat.le_refl _, e, fun h => absurd h (Nat.lt_irrefl _)⟩
    · obtain ⟨kk, k1, k2, k3⟩ := place E nn h0 m
      refine ⟨kk, by omega, k2, fun hk => ?_⟩
      by_cases e2 : kk < m
      · exact k3 e2
      · obtain rfl : kk = m := by omega
        omega
section
variable (w : Bool) (P : Int) (o n : Nat) (q : ByteArray) (o' n' : Nat) (e : Int) (cs ds : Array Value) (ty tz : TypeId) (hm : mayS P o n q.size cs (celA q) = true) (hS : StrOk cs o n) (he : 0 ≤ e ∧ e ≤ 65535)
include hm hS he
end
end Go.Proofs.Ytapkbgccbmjfaaa
/- Of journal: JournalKeeps' runs end with true. No condition. -/
namespace Go.Proofs.Ytapkbgccbmjfaaa
set_option linter.unusedSectionVars false
set_option linter.unusedVariables false
set_option maxRecDepth 100000
set_option maxHeartbeats 4000000
section
variable (w : Bool) (P : Int) (o n : Nat) (q : ByteArray) (o' n' : Nat) (e : Int) (cs ds : Array Value) (ty tz : TypeId) (hm : mayS P o n q.size cs (celA q) = true) (hS : StrOk cs o n) (he : 0 ≤ e ∧ e ≤ 65535)
include hm hS he
end
theorem strR_of {cs : Array Value} {o n : Nat} {q : ByteArray} (hI : StrI cs o n) (h : greatV n q cs o = false) : StrR cs o n := by
  unfold greatV at h
  rw [Bool.or_eq_false_iff, Bool.or_eq_false_iff, decide_eq_false_iff_not, decide_eq_false_iff_not] at h
  obtain ⟨⟨h1, h2⟩, h3⟩ := h
  exact ⟨by omega, fun j hj => ⟨hI.2 j hj, by have := anyG_at.1 h3 j hj; omega⟩⟩
section
variable (w : Bool) (P : Int) (o n : Nat) (q : ByteArray) (o' n' : Nat) (e : Int) (cs ds : Array Value) (ty tz : TypeId) (hI : StrI cs o n) (hD : w = true → BytI ds o' n') (he : 0 ≤ e ∧ e ≤ 65535)
include hI hD he
end
end Go.Proofs.Ytapkbgccbmjfaaa
/- Of journal: JournalTears' runs end with true. No condition. -/
namespace Go.Proofs.Ytapkbgccbmjfaaa
set_option linter.unusedSectionVars false
set_option linter.unusedVariables false
set_option maxRecDepth 100000
set_option maxHeartbeats 4000000
section
variable (w : Bool) (P : Int) (o n : Nat) (q : ByteArray) (o' n' : Nat) (e d : Int) (cs ds : Array Value) (ty tz : TypeId) (hm : mayS P o n q.size cs (celA q) = true) (hS : StrOk cs o n) (he : 0 ≤ e ∧ e ≤ 65535) (hd : 0 ≤ d ∧ d ≤ 255)
include hm hS he hd
theorem t7_end0 (m : Nat) (hm1 : 1 ≤ m) (hmz : cutN (cutC w ds o' n') q.size m = q.size) (hlt : ∀ t, t < m → cutN (cutC w ds o' n') q.size t < q.size) : Good EK.P (boolR true) 2 (headF (y7F1 w P o n q o' n' e d cs ds ty tz (jnl (hdB (encS P o n 0 cs #[])) q (cutC w ds o' n') m) (m + 1) (m + 1) ((cutN (cutC w ds o' n') q.size m : Nat) : Int) ((m : Nat) : Int))) (y7M1 P o n q cs ds ty tz (endsA (hdB (encS P o n 0 cs #[])) q (cutC w ds o' n') m) (toldA q (cutC w ds o' n') m)) := by
  obtain ⟨_, _, _, p4, p5, p6, p7⟩ := may_facts P o n q cs hm
  obtain ⟨h1, h2, h3, h4, h5, h6, h7⟩ := head_facts P o n cs (may_none hm) hS
  have hc := cutC_in w ds o' n'
  generalize hh : hdB (encS P o n 0 cs #[]) = h at *
  generalize cutC w ds o' n' = c at *
  have hle := jnl_le h q c hc (i := m) hlt
  have hst := jnl_lt h q c hc (i := 0) (k := m) hm1
  have hj0 : jnl h q c 0 = h := rfl
  rw [hj0] at hst
  have hsub : ari .sub .i64 (((jnl h q c m).size : Nat) : Int) ((h.size : Nat) : Int) = (((jnl h q c m).size - h.size : Nat) : Int) := by rw [ari_sub, Go.IntWalk.i64_in _ (by omega)]; omega
  obtain ⟨nn, hnn⟩ : ∃ nn : Nat, nn = h.size + e.toNat % ((jnl h q c m).size - h.size) := ⟨_, rfl⟩
  have hmod := Nat.mod_lt e.toNat (show 0 < (jnl h q c m).size - h.size by omega)
  have key : ari .add .i64 ((h.size : Nat) : Int) (ari .rem .i64 (IntKind.wrap .i64 e) (ari .sub .i64 (((jnl h q c m).size : Nat) : Int) ((h.size : Nat) : Int))) = (nn : Int) := by
    rw [hsub, Go.IntWalk.i64_in e (by omega), ari_rem, Int.tmod_eq_emod_of_nonneg he.1]
    have e1 : e % (((jnl h q c m).size - h.size : Nat) : Int) = ((e.toNat % ((jnl h q c m).size - h.size) : Nat) : Int) := by rw [Int.natCast_emod, Int.toNat_of_nonneg he.1]
    rw [e1, ari_add, Go.IntWalk.i64_in _ (by omega)]
    omega
  have hne : ari .sub .i64 (((jnl h q c m).size : Nat) : Int) ((h.size : Nat) : Int) ≠ 0 := by rw [hsub]; omega
  have tst : decide (((cutN c q.size m : Nat) : Int) < ((q.size : Nat) : Int)) = false := decide_eq_false (by omega)
  obtain ⟨v1, v2⟩ := endsA_at h q c (i := m) (t := 0) (Nat.zero_le _)
  rw [hj0] at v1
  have hT := t7T0_ok
  have hnJ : nn < (jnl h q c m).size := by omega
  have w1 : intAt (celA (jnl h q c m)) nn = byteAt (jnl h q c m) nn := by have := celA_int (jnl h q c m) hnJ; rw [Nat.zero_add] at this; exact this
  have w2 : IsInt .u8 (celA (jnl h q c m)) nn := by
    have := (celA_ok (jnl h q c m) (by omega)).2 nn hnJ
    rw [Nat.zero_add] at this
    exact this
  have rb := byteAt_range (jnl h q c m) nn
  obtain ⟨xx, hxx⟩ : ∃ xx, ari .xor .u8 (byteAt (jnl h q c m) nn) d = xx := ⟨_, rfl⟩
  have hx2 : xx = (((byteAt (jnl h q c m) nn).toNat ^^^ d.toNat : Nat) : Int) := by
    rw [← hxx]
    exact u8_xor _ _ rb.1 (by omega) hd.1 (by omega)
  have hx256 : (byteAt (jnl h q c m) nn).toNat ^^^ d.toNat < 256 := Nat.xor_lt_two_pow (n := 8) (by omega) (by omega)
  have hxr : 0 ≤ xx ∧ xx ≤ 255 := by rw [hx2]; omega
  obtain ⟨kk, k1, k2, k3⟩ := place (fun t => (jnl h q c t).size) nn (by show h.size ≤ nn; omega) (m - 1)
  have k4 : nn < (jnl h q c (kk + 1)).size := by
    by_cases e2 : kk < m - 1
    · exact k3 e2
    · rw [show kk + 1 = m by omega]; exact hnJ
  by_cases hd0 : d = 0
  · subst hd0
    cases w with
    | true =>
      refine past_E EK_ok 1000 (t7_end_t P o n q o' n' e 0 cs ds ty tz (jnl h q c m) (m + 1) (m + 1) ((cutN c q.size m : Nat) : Int) ((m : Nat) : Int) (endsA h q c m) (toldA q c m) (fun _ _ _ _ _ _ _ _ => False)) ?_ (fun _ _ h => h) (fun fs mm hb => t7N_good (fun _ _ _ _ _ _ _ _ hx => hx.elim) hb)
      exact ⟨tst, fun _ => ⟨fun _ => rfl, fun hx => absurd hx (by decide)⟩, fun _ => rfl⟩
    | false =>
      refine past_E EK_ok 1000 (t7_end_f P o n q o' n' e 0 cs ds ty tz (jnl h q c m) (m + 1) (m + 1) ((cutN c q.size m : Nat) : Int) ((m : Nat) : Int) (endsA h q c m) (toldA q c m) (fun _ _ _ _ _ _ _ _ => False)) ?_ (fun _ _ h => h) (fun fs mm hb => t7N_good (fun _ _ _ _ _ _ _ _ hx => hx.elim) hb)
      exact ⟨tst, fun _ => ⟨fun _ => rfl, fun hx => absurd hx (by decide)⟩, fun _ => rfl⟩
  · have hxn : xx ≠ byteAt (jnl h q c m) nn := fun h0 => by
      have h1' : (byteAt (jnl h q c m) nn).toNat ^^^ d.toNat = (byteAt (jnl h q c m) nn).toNat ^^^ 0 := by rw [Nat.xor_zero]; omega
      have := xor_l h1'
      omega
    have hgood : ∀ mm i k es k' ts kb bs, (fun mm i k es k' ts kb bs => mm = (nn : Int) ∧ i = ((0 : Nat) : Int) ∧ k = m + 1 ∧ es = endsA h q c m ∧ k' = m + 1 ∧ ts = toldA q c m ∧ kb = (jnl h q c m).size ∧ bs = chA (jnl h q c m) nn xx) mm i k es k' ts kb bs → Good EK.P (boolR true) 2 (headF (t7F w P o n q o' n' e d cs ds ty tz k k' kb mm i)) (t7M P o n q cs ds ty tz es ts bs) := by
      rintro mm i k es k' ts kb bs ⟨e1, e2, e3, e4, e5, e6, e7, e8⟩
      rw [e1, e2, e3, e4, e5, e6, e7, e8]
      exact t7_loop w P o n q o' n' e d cs ds ty tz h c hc h1 h2 p5 p7 m kk nn xx (by omega) (by omega) hlt k2 k4 (by omega) hxr hxn (kk + 1) 0 (by omega) (by omega)
    cases w with
    | true =>
      refine past_E EK_ok 1000 (t7_end_t P o n q o' n' e d cs ds ty tz (jnl h q c m) (m + 1) (m + 1) ((cutN c q.size m : Nat) : Int) ((m : Nat) : Int) (endsA h q c m) (toldA q c m) (fun mm i k es k' ts kb bs => mm = (nn : Int) ∧ i = ((0 : Nat) : Int) ∧ k = m + 1 ∧ es = endsA h q c m ∧ k' = m + 1 ∧ ts = toldA q c m ∧ kb = (jnl h q c m).size ∧ bs = chA (jnl h q c m) nn xx)) ?_ (fun _ _ h => h) (fun fs mm hb => t7N_good (fun mm i k es k' ts kb bs hx => hgood mm i k es k' ts kb bs hx) hb)
      simp only [Nat.mul_one, Nat.zero_add]
      simp only [v1, show Array.map (fun b => Value.int IntKind.u8 (↑(UInt8.toNat b) : Int)) (ByteArray.data (jnl h q c m)) = celA (jnl h q c m) from rfl]
      simp only [key]
      simp only [Int.toNat_natCast]
      simp only [w1, hxx]
      refine ⟨tst, fun _ => ⟨fun _ => (by trivial), fun hd0 => ⟨⟨⟨by omega, by omega⟩, trivial⟩, ⟨v2, trivial⟩, fun hx => ?_, fun _ => ⟨⟨⟨by omega, by omega⟩, trivial⟩, ⟨v2, trivial⟩, ⟨⟨by omega, by omega⟩, trivial⟩, ⟨v2, trivial⟩, ⟨hne, trivial⟩, ⟨⟨by omega, by omega⟩, trivial⟩, ⟨w2, trivial⟩, ⟨⟨by omega, by omega⟩, trivial⟩, ⟨by rw [celA_size]; omega, trivial⟩, ?_⟩⟩⟩, fun _ => (by trivial)⟩
      · have hx := of_decide_eq_true hx
        omega
      · refine ⟨?_, ?_⟩
        · repeat' first | exact trivial | exact rfl | apply And.intro
        · clear hgood key
          generalize t7T0 = T at *
          repeat' first | exact trivial | exact rfl | exact hT _ _ _ | apply And.intro
    | false =>
      refine past_E EK_ok 1000 (t7_end_f P o n q o' n' e d cs ds ty tz (jnl h q c m) (m + 1) (m + 1) ((cutN c q.size m : Nat) : Int) ((m : Nat) : Int) (endsA h q c m) (toldA q c m) (fun mm i k es k' ts kb bs => mm = (nn : Int) ∧ i = ((0 : Nat) : Int) ∧ k = m + 1 ∧ es = endsA h q c m ∧ k' = m + 1 ∧ ts = toldA q c m ∧ kb = (jnl h q c m).size ∧ bs = chA (jnl h q c m) nn xx)) ?_ (fun _ _ h => h) (fun fs mm hb => t7N_good (fun mm i k es k' ts kb bs hx => hgood mm i k es k' ts kb bs hx) hb)
      simp only [Nat.mul_one, Nat.zero_add]
      simp only [v1, show Array.map (fun b => Value.int IntKind.u8 (↑(UInt8.toNat b) : Int)) (ByteArray.data (jnl h q c m)) = celA (jnl h q c m) from rfl]
      simp only [key]
      simp only [Int.toNat_natCast]
      simp only [w1, hxx]
      refine ⟨tst, fun _ => ⟨fun _ => (by trivial), fun hd0 => ⟨⟨⟨by omega, by omega⟩, trivial⟩, ⟨v2, trivial⟩, fun hx => ?_, fun _ => ⟨⟨⟨by omega, by omega⟩, trivial⟩, ⟨v2, trivial⟩, ⟨⟨by omega, by omega⟩, trivial⟩, ⟨v2, trivial⟩, ⟨hne, trivial⟩, ⟨⟨by omega, by omega⟩, trivial⟩, ⟨w2, trivial⟩, ⟨⟨by omega, by omega⟩, trivial⟩, ⟨by rw [celA_size]; omega, trivial⟩, ?_⟩⟩⟩, fun _ => (by trivial)⟩
      · have hx := of_decide_eq_true hx
        omega
      · refine ⟨?_, ?_⟩
        · repeat' first | exact trivial | exact rfl | apply And.intro
        · clear hgood key
          generalize t7T0 = T at *
          repeat' first | exact trivial | exact rfl | exact hT _ _ _ | apply And.intro
end
section
variable (w : Bool) (P : Int) (o n : Nat) (q : ByteArray) (o' n' : Nat) (e d : Int) (cs ds : Array Value) (ty tz : TypeId) (hI : StrI cs o n) (hD : w = true → BytI ds o' n') (he : 0 ≤ e ∧ e ≤ 65535) (hd : 0 ≤ d ∧ d ≤ 255)
include hI hD he hd
theorem kt_good : Good Try.prog (boolR true) 2 (y7C w P o n q o' n' e d) (M2 cs ds ty tz) := by
  have hT := y7T0_ok
  have hT2 := y7T1_ok0
  have go : ∀ j, (j = hdB (encS P o n 0 cs #[]) ∧ mayS P o n q.size cs (celA q) = true ∧ StrOk cs o n) → Good EK.P (boolR true) 2 (headF (y7F0 w P o n q o' n' e d cs ds ty tz j)) (y7M0 P o n q cs ds ty tz j) := by
    rintro j ⟨rfl, hm, hS⟩
    by_cases h0 : q.size = 0
    · have tst : decide ((0 : Int) < ((q.size : Nat) : Int)) = false := decide_eq_false (by omega)
      cases w with
      | true => exact past_E EKn_ok 1000 (t7_none_t P o n q o' n' e d cs ds ty tz _) ⟨tst, rfl⟩ (fun _ _ h => h) (fun _ _ hb => hb.elim)
      | false => exact past_E EKn_ok 1000 (t7_none_f P o n q o' n' e d cs ds ty tz _) ⟨tst, rfl⟩ (fun _ _ h => h) (fun _ _ hb => hb.elim)
    · have hc := cutC_in w ds o' n'
      refine y7_first w P o n q o' n' e d cs ds ty tz hm hS hD (by omega) (boolR true) (fun _ _ h => h) ?_
      exact y7_rounds w P o n q o' n' e d cs ds ty tz hm hS hD (boolR true) (fun _ _ h => h) (fun m h1 h2 h3 => t7_end0 w P o n q o' n' e d cs ds ty tz hm hS he hd m h1 h2 h3) (q.size + 1) 1 (by omega) (Nat.le_refl _) (fun t ht => by
        obtain rfl : t = 0 := by omega
        show 0 < q.size
        omega)
  cases w with
  | true =>
    refine run_vc EK_ok 1000 (y7_start_t P o n q o' n' e d cs ds ty tz (fun j => j = hdB (encS P o n 0 cs #[]) ∧ mayS P o n q.size cs (celA q) = true ∧ StrOk cs o n)) ?_ (fun _ _ h => h) (fun fs m hb => y7N0_good go hb)
    refine ⟨⟨hI, trivial⟩, fun hg => ?_, fun _ => rfl⟩
    have hg : greatV n q cs o = false := by simpa using hg
    obtain ⟨hS, hB⟩ := great_facts hI hg
    have hR := strR_of hI hg
    refine ⟨⟨hR, trivial⟩, fun _ => rfl, fun hm => ?_⟩
    have hm : mayS P o n q.size cs (celA q) = true := by simpa using hm
    have hm0 := may_none hm
    have hz := enc0_size hm0
    refine ⟨⟨hS, trivial⟩, fun _ => ?_, fun hx => absurd (hm0.symm.trans hx) (by decide)⟩
    generalize hE : encS P o n 0 cs #[] = ee at *
    have htz := twoB_size ee.size
    rw [show strOf [Value.int .u8 (IntKind.wrap .u8 ((ee.size : Nat) : Int)), Value.int .u8 (IntKind.wrap .u8 (ari .shr .i64 ((ee.size : Nat) : Int) 8))] = twoB ee.size from rfl]
    rw [show ByteArray.mk #[(66 : UInt8), (76 : UInt8), (87 : UInt8), (75 : UInt8)] = magB from rfl]
    rw [show smA (ByteArray.mk #[]) (magB ++ twoB ee.size ++ ee) = hdB ee from rfl]
    have hm4 : magB.size = 4 := rfl
    refine ⟨⟨by omega, trivial⟩, ⟨by rw [ByteArray.size_append]; omega, trivial⟩, ⟨by rw [ByteArray.size_append, ByteArray.size_append]; omega, trivial⟩, ⟨by first | exact ⟨rfl, hm, hS⟩ | exact ⟨hE ▸ rfl, hm, hS⟩, ?_⟩⟩
    clear go
    generalize y7T0 = H at *
    generalize y7T1 = T at *
    repeat' first | exact trivial | exact rfl | exact hT | exact hT2 | apply And.intro
  | false =>
    refine run_vc EK_ok 1000 (y7_start_f P o n q o' n' e d cs ds ty tz (fun j => j = hdB (encS P o n 0 cs #[]) ∧ mayS P o n q.size cs (celA q) = true ∧ StrOk cs o n)) ?_ (fun _ _ h => h) (fun fs m hb => y7N0_good go hb)
    refine ⟨⟨hI, trivial⟩, fun hg => ?_, fun _ => rfl⟩
    have hg : greatV n q cs o = false := by simpa using hg
    obtain ⟨hS, hB⟩ := great_facts hI hg
    have hR := strR_of hI hg
    refine ⟨⟨hR, trivial⟩, fun _ => rfl, fun hm => ?_⟩
    have hm : mayS P o n q.size cs (celA q) = true := by simpa using hm
    have hm0 := may_none hm
    have hz := enc0_size hm0
    refine ⟨⟨hS, trivial⟩, fun _ => ?_, fun hx => absurd (hm0.symm.trans hx) (by decide)⟩
    generalize hE : encS P o n 0 cs #[] = ee at *
    have htz := twoB_size ee.size
    rw [show strOf [Value.int .u8 (IntKind.wrap .u8 ((ee.size : Nat) : Int)), Value.int .u8 (IntKind.wrap .u8 (ari .shr .i64 ((ee.size : Nat) : Int) 8))] = twoB ee.size from rfl]
    rw [show ByteArray.mk #[(66 : UInt8), (76 : UInt8), (87 : UInt8), (75 : UInt8)] = magB from rfl]
    rw [show smA (ByteArray.mk #[]) (magB ++ twoB ee.size ++ ee) = hdB ee from rfl]
    have hm4 : magB.size = 4 := rfl
    refine ⟨⟨by omega, trivial⟩, ⟨by rw [ByteArray.size_append]; omega, trivial⟩, ⟨by rw [ByteArray.size_append, ByteArray.size_append]; omega, trivial⟩, ⟨by first | exact ⟨rfl, hm, hS⟩ | exact ⟨hE ▸ rfl, hm, hS⟩, ?_⟩⟩
    clear go
    generalize y7T0 = H at *
    generalize y7T1 = T at *
    repeat' first | exact trivial | exact rfl | exact hT | exact hT2 | apply And.intro
end
end Go.Proofs.Ytapkbgccbmjfaaa
/- Of journal: JournalKeeps' and JournalTears' runs where there are no programs, as propositions. No condition. -/
namespace Go.Proofs.Ytapkbgccbmjfaaa
set_option maxRecDepth 100000
theorem kt_ee (P : Int) (q : ByteArray) (e d : Int) : (run EK 1000 0 [callFr 7 Try.f7.ntmps [refV P (.f .e0) q, .s (.c (.f .e0)), .s (.c (.f (.int .u16 (.o e)))), .s (.c (.f (.int .u8 (.o d))))] (Try.f7.body.getD .skip)] M0).vc (boolR true) (fun _ _ => False) =
    (((decide ((6000 : Nat) < ByteArray.size q) == false) = true → true = true) ∧ ((decide ((6000 : Nat) < ByteArray.size q) == false) = false → true = true)) := by kernel_rfl
theorem kt_er (P : Int) (q : ByteArray) (e d : Int) (o n : Nat) (cs : Array Value) (ty : TypeId) : (run EK 1000 1 [callFr 7 Try.f7.ntmps [refV P (.f .e0) q, .s (.c (slC 0 o n)), .s (.c (.f (.int .u16 (.o e)))), .s (.c (.f (.int .u8 (.o d))))] (Try.f7.body.getD .skip)] (prM true cs ty)).vc (boolR true) (fun _ _ => False) =
    (((decide ((6000 : Nat) < ByteArray.size q) == false) = true → true = true) ∧ ((decide ((6000 : Nat) < ByteArray.size q) == false) = false → true = true)) := by kernel_rfl
end Go.Proofs.Ytapkbgccbmjfaaa
/- How a call of data enters the symbolic machine, and how what it leaves is told; without package-level variables. No condition. -/
namespace Go.Proofs.Ytapkbgccbmjfaaa
noncomputable section
open Go.ChangeShapes Go.WideShapes Go.ChangeAt Go.RowKit Go.Deep
theorem own : ownKnob Try.prog.godebug = none := by kernel_rfl
theorem laidOut : laidOutB Try.prog = true := by kernel_rfl
theorem sub_get {l : List Value} {a b o : Nat} {v : Value} (h : ((l.drop a).take b)[o]? = some v) : l[a + o]? = some v := by
  rw [List.getElem?_take] at h
  split at h
  · rw [List.getElem?_drop] at h; exact h
  · cases h
theorem sub_one {l : List Value} {a b : Nat} {v : Value} (h : (l.drop a).take b = [v]) : l[a]? = some v := by
  have : ((l.drop a).take b)[0]? = some v := by rw [h]; rfl
  exact sub_get this
section
variable {H : Type} {enc : TypeId × Value → H} {P : Program} {w : World} {base : Nat} {spare : Nat → Bool} {held : Bool}
theorem add_none (b off n : Nat) : (⟨b, off, none⟩ : Addr).add n = ⟨b, off + n, none⟩ := by
  unfold Addr.add
  split
  · rename_i e; subst e; rfl
  · rfl
theorem slice_cells {t e : TypeId} {base' C : Nat} {fuel : Nat} {A : Option Addr} {len cap : Nat} {x : DataW H × List MemPlace} (ht : P.underlying t = some (.slice e)) (hC : P.cellsOf e = C)
    (hok : Value.okWide P w .any base t (.slice A len cap)) (h : DataW.trod enc P w base' (fun _ => true) held fuel t [.slice A len cap] = some x) :
    (A = none ∧ len = 0 ∧ cap = 0) ∨ ∃ b off cs ty fz, A = some ⟨b, off, none⟩ ∧ len ≤ cap ∧ cap ≤ maxLen ∧ w.heap[b]? = some (.cells cs ty fz) ∧
      ∀ j, j < len → ∃ n y, DataW.trod enc P w base' (fun _ => true) held n e ((cs.toList.drop (off + j * C)).take C) = some y := by
  rcases open_slice ht h with ⟨hcs, hx⟩ | ⟨a, len', cap', m, n, D, Pl, hcs, _, hl, hmx, hm, hx, hi⟩
  · simp at hcs
    exact .inl hcs
  · simp at hcs
    obtain ⟨rfl, rfl, rfl⟩ := hcs
    simp at hm
    subst hm
    obtain ⟨b, off, spot⟩ := a
    simp only [Value.okWide, ht, Cell.okWide, Cell.ok] at hok
    obtain ⟨_, _, _, hs, _, _, hsh, _⟩ := hok
    have hs : spot = none := hs
    subst hs
    cases ho : w.heap[b]? with
    | none => simp [World.shape?, ho] at hsh
    | some o =>
      have hcells : ∃ cs ty fz, o = .cells cs ty fz := by
        cases o <;> first | exact ⟨_, _, _, rfl⟩ | simp [World.shape?, ho] at hsh
      obtain ⟨cs, ty, fz, rfl⟩ := hcells
      refine .inr ⟨b, off, cs, ty, fz, rfl, hl, hmx, ho, fun j hj => ?_⟩
      obtain ⟨cs', hc, ht'⟩ := hi j (by omega)
      rw [hC] at hc
      obtain ⟨_, hcl, hat⟩ := World.cells?_some hc
      refine ⟨n, (D j, Pl j), ?_⟩
      rw [← ht']
      congr 1
      apply List.ext_getElem?
      intro i
      rw [List.getElem?_take]
      by_cases hi' : i < C
      · rw [if_pos hi', ← hat i hi', add_none, add_none]
        simp [World.cell?, ho, Nat.add_assoc]
      · rw [if_neg hi', List.getElem?_eq_none (by omega)]
theorem post_of_below {f : Func} {s : ChangeSpec} {apart fresh handsOn again : Bool} {W W' : World} {args : Array Value} {v : Value} {ds gs : List (DataW H)} {before pa pv : List MemPlace}
    (hW : DataW.Whole enc P f.params.toList s.vars apart W args.toList ds gs before)
    (hres : ∀ (b : Nat) (sp : Nat → Bool) (hd : Bool), DataW.TrodAll enc P W' b sp hd f.resultTypes.toList (v.resultList f.resultTypes.size) (s.fn H (ds ++ gs)).results [])
    (hargs : ∀ sp : Nat → Bool, (∀ p ∈ before, sp p.block = true) → DataW.TrodAll enc P W' 0 sp true f.params.toList args.toList (s.fn H (ds ++ gs)).args pa)
    (hvars : ∀ sp : Nat → Bool, (∀ p ∈ before, sp p.block = true) → DataW.TrodVars enc P W' sp s.vars (s.fn H (ds ++ gs)).vars pv)
    (hps : before = pa ++ pv) (hb : Below W.heap.size W W')
    (hok : ∀ (j : Nat) (t : TypeId) (r : Value), f.resultTypes[j]? = some t → (v.resultList f.resultTypes.size)[j]? = some r → Value.okWide P W' .any 0 t r) :
    s.post enc P f apart fresh handsOn again W args v W' := by
  have hlt : ∀ p ∈ before, p.block < W.heap.size := fun p hp => hW.lt p hp
  have hold : ∀ p ∈ before, (fun b => decide (b < W.heap.size)) p.block = true := fun p hp => by simpa using hlt p hp
  refine ⟨ds, gs, before, [], pa, pv, hW, hres _ _ _, hargs _ hold, hvars _ hold, World.keptBut_mono (fun p hp => ⟨hp, ?_⟩) (hb.frame (· ∈ before)), fun _ => ?_⟩
  · rw [hps, List.mem_append] at hp
    exact Or.inr hp
  · obtain ⟨_, _, _, _, _, hz, hn⟩ := hW
    refine ⟨hok, _, _, ([] ++ pa) ++ pv, ⟨[] ++ pa, pv, trodAll_append (hargs _ (fun _ _ => rfl)) (hres _ _ _), hvars _ (fun _ _ => rfl), rfl, ?_, ?_⟩, ?_⟩
    · intro b off hp
      have hin : MemPlace.cell b off ∈ before := by rw [hps]; simpa using hp
      rw [hb.frozen (hlt _ hin)]
      exact hz b off hin
    · intro ha
      have := hn ha
      rw [hps] at this
      simpa using this
    · intro p hp _
      rw [hps]
      simpa using hp
end
theorem below_of {n0 : Nat} {w0 w : World} (h : BelowF n0 (fun _ => False) w0 w) : Below n0 w0 w := ⟨h.os, h.tape, h.output, h.size, fun k hk => h.block k hk fun x => x⟩
theorem rel_empty (hg : glTab = []) (W : World) (n : Nat) : Rel W.heap.size (fun _ => False) W (fun _ => none) ⟨n, .nil, []⟩ W :=
  ⟨fun _ _ _ _ _ _ h => by (cases h), fun _ _ h => by (cases h), fun _ _ h => by (cases h), fun i b h => by (have h : (Tr.nil : Tr SBlk).get i = some b := h; rw [Tr.get_nil] at h; cases h), Nat.le_refl _, BelowF.refl _ _ _,
    fun _ _ h => by (cases h), fun _ _ _ _ _ _ h => by (cases h), fun g cs h => by rw [hg] at h; cases h⟩
def oneD (ds : Array Value) (ty : TypeId) : SMem := ⟨1, Tr.node .nil (some ⟨.raw ds, ty, false⟩) .nil, []⟩
theorem one_get {ds : Array Value} {ty : TypeId} {i : Nat} {b : SBlk} (h : getB (oneD ds ty).bl i = some b) : i = 0 ∧ b = ⟨.raw ds, ty, false⟩ := by
  unfold getB oneD at h
  cases i with
  | zero => cases h; exact ⟨rfl, rfl⟩
  | succ i =>
    rw [Tr.get_succ, Tr.get_nil, ite_self] at h
    cases h
theorem rel_one (hg : glTab = []) {W : World} {b : Nat} {cs : Array Value} {ty : TypeId} {fz : Nat × Nat} (hb : W.heap[b]? = some (.cells cs ty fz)) :
    Rel W.heap.size (fun _ => False) W (fun i => if i = 0 then some ⟨b, cs.size⟩ else none) (oneD cs ty) W := by
  have key : ∀ {i : Nat} {g : Loc}, (if i = 0 then some (⟨b, cs.size⟩ : Loc) else none) = some g → i = 0 ∧ g = ⟨b, cs.size⟩ := by
    intro i g h
    split at h
    · rename_i e; cases h; exact ⟨e, rfl⟩
    · cases h
  have hlt : b < W.heap.size := (Array.getElem?_eq_some_iff.1 hb).1
  refine ⟨fun i j g h b c h1 h2 _ _ _ _ => by rw [(key h1).1, (key h2).1], fun i g h => by rw [(key h).2]; exact hlt, fun i g h => by rw [(key h).1]; exact Nat.zero_lt_one, fun i c hc => ?_, Nat.le_refl _, BelowF.refl _ _ _,
    fun _ _ h => by (cases h), fun _ _ _ _ _ _ _ _ _ h => by (cases h), fun g cs h => by rw [hg] at h; cases h⟩
  obtain ⟨rfl, rfl⟩ := one_get hc
  exact ⟨⟨b, cs.size⟩, cs, fz, rfl, hb, rfl, rfl, fun h => by cases h⟩
end
end Go.Proofs.Ytapkbgccbmjfaaa
/- Blocks that came in, told to the symbolic machine one by one. No condition. -/
namespace Go.Proofs.Ytapkbgccbmjfaaa
noncomputable section
open Go.ChangeShapes Go.WideShapes Go.ChangeAt Go.RowKit Go.Deep
def OnlyRead (m : SMem) : Prop := m.xs = [] ∧ ∀ i b, getB m.bl i = some b → b.wr = false
theorem rel_add {W : World} {R : Ren} {m : SMem} (hR : Rel W.heap.size (fun _ => False) W R m W) (ho : OnlyRead m) {i b : Nat} {cs : Array Value} {ty : TypeId} {fz : Nat × Nat} (hi : i < m.next) (hn : R i = none) (hb : W.heap[b]? = some (.cells cs ty fz)) :
    Rel W.heap.size (fun _ => False) W (fun j => if j = i then some ⟨b, cs.size⟩ else R j) ⟨m.next, m.bl.set i (some ⟨.raw cs, ty, false⟩), m.xs⟩ W ∧ OnlyRead ⟨m.next, m.bl.set i (some ⟨.raw cs, ty, false⟩), m.xs⟩ := by
  have ho' : OnlyRead ⟨m.next, m.bl.set i (some ⟨.raw cs, ty, false⟩), m.xs⟩ := by
    refine ⟨ho.1, fun j c hc => ?_⟩
    have hc : (m.bl.set i (some ⟨.raw cs, ty, false⟩)).get j = some c := hc
    rw [Tr.get_set] at hc
    split at hc
    · cases hc; rfl
    · exact ho.2 j c hc
  have hlt : b < W.heap.size := (Array.getElem?_eq_some_iff.1 hb).1
  refine ⟨⟨fun j k g h x y h1 h2 h3 h4 h5 h6 => ?_, fun j g h => ?_, fun j g h => ?_, fun j c hc => ?_, Nat.le_refl _, BelowF.refl _ _ _, fun j x hx => ?_, fun j k g h x y _ _ _ h4 => ?_, fun g cs hg => ?_⟩, ho'⟩
  · have e1 := ho'.2 _ _ h4
    have e2 := ho'.2 _ _ h5
    rw [e1, e2] at h6
    rcases h6 with h6 | h6 <;> cases h6
  · split at h
    · cases h; exact hlt
    · exact hR.lt j g h
  · split at h
    · rename_i e; rw [e]; exact hi
    · exact hR.nx j g h
  · have hc : (m.bl.set i (some ⟨.raw cs, ty, false⟩)).get j = some c := hc
    rw [Tr.get_set] at hc
    split at hc
    · rename_i e
      cases hc
      exact ⟨⟨b, cs.size⟩, cs, fz, by simp [e], hb, rfl, rfl, fun h => by cases h⟩
    · rename_i e
      obtain ⟨g, cs', fz', k1, k2, k3, k4, k5⟩ := hR.blk j c hc
      refine ⟨g, cs', fz', by simp [e, k1], k2, k3, SA.monoM (fun l g hl => ?_) k4, k5⟩
      by_cases el : l = i
      · rw [el, hn] at hl; cases hl
      · rw [if_neg el]; exact hl
  · have hx : getX m.xs j = some x := hx
    rw [ho.1] at hx; cases hx
  · have h4 : getX m.xs j = some x := h4
    rw [ho.1] at h4; cases h4
  · exact hR.gl g cs hg
theorem onlyRead_nil (n : Nat) : OnlyRead ⟨n, .nil, []⟩ := ⟨rfl, fun i b h => by
  have h : (Tr.nil : Tr SBlk).get i = some b := h
  rw [Tr.get_nil] at h; cases h⟩
end
end Go.Proofs.Ytapkbgccbmjfaaa
/- For every script and every string, bailiwicklaw27.JournalBegins returns true, and each argument reads behind the call as it did before. No condition. -/
namespace Go.Proofs.Ytapkbgccbmjfaaa
set_option maxRecDepth 100000
open Go.ChangeShapes Go.WideShapes Go.ChangeAt Go.RowKit Go.Deep
theorem cells9 : Try.prog.cellsOf 9 = 1 := by kernel_rfl
theorem gl_nil : glTab = [] := rfl
def StrIn (W : World) (v : Value) : Prop :=
  (∃ a c, v = .slice a 0 c) ∨ ∃ b off n cap cs ty fz, v = .slice (some ⟨b, off, none⟩) n cap ∧ n ≠ 0 ∧ n ≤ cap ∧ W.heap[b]? = some (.cells cs ty fz) ∧ StrI cs off n
theorem str_in {H : Type} {enc : TypeId × Value → H} {W : World} {base base' : Nat} {fuel : Nat} {v : Value} {held : Bool} {x : DataW H × List MemPlace}
    (hok : Value.okWide Try.prog W .any base 22 v) (h : DataW.trod enc Try.prog W base' (fun _ => true) held fuel 22 [v] = some x) : StrIn W v := by
  obtain ⟨A, len, cap, rfl⟩ := okWide_slice Try.underlying22 hok
  rcases slice_cells Try.underlying22 cells9 hok h with ⟨rfl, rfl, rfl⟩ | ⟨b, off, cs, ty, fz, rfl, hl, hm, ho, hj⟩
  · exact .inl ⟨_, _, rfl⟩
  · by_cases h0 : len = 0
    · subst h0; exact .inl ⟨_, _, rfl⟩
    · refine .inr ⟨b, off, len, cap, cs, ty, fz, rfl, h0, hl, ho, by unfold maxLen at hm; omega, fun i hi => ?_⟩
      obtain ⟨n, y, hy⟩ := hj i hi
      rw [Nat.mul_one] at hy
      obtain ⟨s, e, _, _⟩ := DataW.trod_string Try.underlying9 hy
      have e := sub_one e
      rw [Array.getElem?_toList] at e
      have es : strAt cs (off + i) = s := by unfold strAt; rw [e]
      unfold IsStr
      rw [es]
      exact e
theorem sc_in {H : Type} {enc : TypeId × Value → H} {W : World} {base base' : Nat} {fuel : Nat} {v : Value} {held : Bool} {x : DataW H × List MemPlace}
    (hok : Value.okWide Try.prog W .any base 24 v) (h : DataW.trod enc Try.prog W base' (fun _ => true) held fuel 24 v.cells.toList = some x) :
    ∃ P o q, v = .agg #[.int .i64 P, o, .string q] ∧ StrIn W o := by
  have hok' := hok
  simp only [Value.okWide, Try.underlying24] at hok'
  obtain ⟨cs, rfl, hsz, ts, hts, _, hcells⟩ := hok'
  have e3 : Try.prog.cellsOf 24 = 3 := by kernel_rfl
  rw [e3] at hsz
  have et : Try.prog.cellTypes Try.prog.depth 24 = some [3, 22, 9] := by kernel_rfl
  rw [et] at hts
  cases hts
  have h : DataW.trod enc Try.prog W base' (fun _ => true) held fuel 24 cs.toList = some x := h
  obtain ⟨l, rfl⟩ : ∃ l : List Value, cs = l.toArray := ⟨cs.toList, by simp⟩
  match l, hsz with
  | [c0, c1, c2], _ =>
    obtain ⟨_, k0, q0⟩ := hcells 0 c0 rfl
    obtain ⟨_, k1, q1⟩ := hcells 1 c1 rfl
    obtain ⟨_, k2, q2⟩ := hcells 2 c2 rfl
    cases k0; cases k1; cases k2
    have toV : ∀ {t : TypeId} {c : Value} {d : TypeDesc}, Try.prog.underlying t = some d → isA d = false → Cell.okWide Try.prog W .any base t c → Value.okWide Try.prog W .any base t c := by
      intro t c d hu hd hc
      unfold Value.okWide
      rw [hu]
      cases d <;> first | exact hc | cases hd
    obtain ⟨n0, rfl⟩ := okWide_int Try.underlying3 (toV Try.underlying3 rfl q0)
    obtain ⟨s2, rfl⟩ := okWide_string Try.underlying9 (toV Try.underlying9 rfl q2)
    refine ⟨n0, c1, s2, rfl, ?_⟩
    obtain ⟨ys, n, _, hx, _, hyl, hg⟩ := DataW.trod_struct Try.underlying24 h
    have hyl : ys.length = 3 := hyl
    have hy : ys[1]? = some (ys[1]'(by omega)) := List.getElem?_eq_getElem (by omega)
    have h1 := (hg 1 _ rfl).trans hy
    have e1 : Try.prog.cellsOf 22 = 1 := by kernel_rfl
    refine str_in (base' := base') (held := held) (enc := enc) (toV Try.underlying22 rfl q1) (x := ys[1]'(by omega)) (fuel := n) ?_
    rw [← h1]
    show _ = DataW.trod enc Try.prog W base' (fun _ => true) held n 22 ((List.drop 1 _).take (Try.prog.cellsOf 22))
    rw [e1]
    rfl
theorem body3 : Try.f3.body = some (Try.f3.body.getD .skip) := rfl
theorem boolR_true {R : Ren} {s : SV} {m : SMem} {v : Value} (h : boolR true s m) (hv : s.ok R v) : v = .bool true := by
  unfold boolR at h
  split at h
  · have hv : v = .bool _ := hv
    rw [hv, h]
  · exact h.elim
theorem ref_ok {R : Ren} {P : Int} {A : SF} {q : ByteArray} {u : Value} (h : A.ok R u) : (refV P (.f A) q).ok R (.agg #[.int .i64 P, u, .string q]) := ⟨_, rfl, rfl, h, ⟨rfl, rfl⟩, trivial⟩
end Go.Proofs.Ytapkbgccbmjfaaa
/- For every script, every row of bytes and every number, bailiwicklaw27.JournalKeeps returns true, and each argument reads behind the call as it did before. No condition. -/
namespace Go.Proofs.Ytapkbgccbmjfaaa
set_option maxRecDepth 100000
open Go.ChangeShapes Go.WideShapes Go.ChangeAt Go.RowKit Go.Deep
theorem body6k : Try.f6.body = some (Try.f6.body.getD .skip) := rfl
theorem cells5k : Try.prog.cellsOf 5 = 1 := by kernel_rfl
theorem isInt_ofk {k : IntKind} {cs : Array Value} {i : Nat} {n : Int} (h : cs.toList[i]? = some (.int k n)) : IsInt k cs i ∧ intAt cs i = n := by
  rw [Array.getElem?_toList] at h
  exact ⟨(intAt_is h).2, (intAt_is h).1⟩
theorem wf_u8k {n : Int} (h : (Lit.int .u8 n).wf = true) : 0 ≤ n ∧ n ≤ 255 := by
  simp only [Lit.wf, Bool.and_eq_true, decide_eq_true_eq] at h
  exact h
theorem wf_u16 {n : Int} (h : (Lit.int .u16 n).wf = true) : 0 ≤ n ∧ n ≤ 65535 := by
  simp only [Lit.wf, Bool.and_eq_true, decide_eq_true_eq] at h
  exact h
def BytIn2 (W : World) (v : Value) : Prop :=
  (∃ a c, v = .slice a 0 c) ∨ ∃ b off n cap cs ty fz, v = .slice (some ⟨b, off, none⟩) n cap ∧ n ≠ 0 ∧ n ≤ cap ∧ W.heap[b]? = some (.cells cs ty fz) ∧ BytI cs off n
theorem byt_in2 {H : Type} {enc : TypeId × Value → H} {W : World} {base base' : Nat} {fuel : Nat} {v : Value} {held : Bool} {x : DataW H × List MemPlace}
    (hok : Value.okWide Try.prog W .any base 30 v) (h : DataW.trod enc Try.prog W base' (fun _ => true) held fuel 30 [v] = some x) : BytIn2 W v := by
  obtain ⟨A, len, cap, rfl⟩ := okWide_slice Try.underlying30 hok
  rcases slice_cells Try.underlying30 cells5k hok h with ⟨rfl, rfl, rfl⟩ | ⟨b, off, cs, ty, fz, rfl, hl, hmx, ho, hj⟩
  · exact .inl ⟨_, _, rfl⟩
  · by_cases h0 : len = 0
    · subst h0; exact .inl ⟨_, _, rfl⟩
    · refine .inr ⟨b, off, len, cap, cs, ty, fz, rfl, h0, hl, ho, ?_⟩
      have key : ∀ i, i < len → IsInt .u8 cs (off + i) ∧ 0 ≤ intAt cs (off + i) ∧ intAt cs (off + i) ≤ 255 := fun i hi => by
        obtain ⟨n, y, hy⟩ := hj i hi
        rw [Nat.mul_one] at hy
        obtain ⟨m, e, _, w⟩ := DataW.trod_int Try.underlying5 hy
        obtain ⟨a1, b1⟩ := isInt_ofk (sub_one e)
        have w := wf_u8k w
        rw [← b1] at w
        exact ⟨a1, w⟩
      exact ⟨by have : maxLen = 9223372036854775807 := rfl
                omega, fun i hi => key i hi⟩
end Go.Proofs.Ytapkbgccbmjfaaa
