/- Strings: their operations are sound. No condition. -/
import Derived.Test.YtdopckcockgefaaDoorK7e
import Derived.Laws.MakeOwn
import Derived.Lib.ConvBytes
import Derived.Laws.BytesString
set_option linter.unusedVariables false
set_option linter.unusedSimpArgs false
namespace Go.Proofs.YtdopckcockgefaaDoor
section
variable {P : Program} {w w0 : World} {n0 : Nat} {F : Nat → Prop} {R : Ren} {m : SMem}
theorem strS_ok {x : SV} {l : Bool} {s : ByteArray} {u : Value} (h : strS x = some (l, s)) (hx : x.ok R u) : u = .string s := by
 unfold strS at h
 split at h
 ·cases h; exact hx.1
 ·cases h; exact hx.1
 ·cases h
theorem mkSN_den (l : Bool) (n : Nat) : (mkSN l n).den = n := by cases l <;> rfl
theorem mkSB_den (l b : Bool) : (mkSB l b).den = b := by cases l <;> rfl
theorem isStrT_ok {t : TypeId} (h : isStrT P t = true) : P.underlying t = some .string := by
 unfold isStrT at h
 split at h
 ·assumption
 ·cases h
theorem strLen_ok {t : TypeId} {x s : SV} {u : Value} (h : strLen P t x = some s) (hx : x.ok R u) (ty : TypeId) (ts : Array TypeId) (ht : ts[0]? = some t) : ∃ r, s.ok R r ∧ (Builtin.len_ ts ty #[u]).run P w = .ok r w := by
 unfold strLen at h
 split at h
 ·rename_i l st ht' hs
  cases h
  obtain rfl := strS_ok hs hx
  refine ⟨_, rfl, ?_⟩
  simp [Builtin.len_, ht, Sem.run_bind, run_underlying (isStrT_ok ht'), goInt, int_den, mkSN_den]
 ·cases h
theorem byteAt_some {s : ByteArray} {i : Nat} (h : i < s.size) : ∃ b : UInt8, s[i]? = some b ∧ byteAt s i = b.toNat := by
 have e : s[i]? = some s[i] := by simp [h]
 exact ⟨_, e, by unfold byteAt; rw [e]⟩
theorem strIndex_ok {t : TypeId} {x i s : SV} {q : List Prop} {u v : Value} (h : strIndex P t x i = some (q, s)) (hq : ∀ p ∈ q, p) (hx : x.ok R u) (hi : i.ok R v) : ∃ r, s.ok R r ∧ (Instr.index t u v).run P w = .ok r w := by
 unfold strIndex at h
 split at h
 case h_2 => cases h
 rename_i l st k n ht hs
 split at h
 case h_2 => cases h
 rename_i q' hw
 obtain rfl := strS_ok hs hx
 obtain rfl : v = .int k n.den := hi
 have key : (∀ p ∈ q', p) → ∃ b : UInt8, byteAt st n.den.toNat = b.toNat ∧ (Instr.index t (.string st) (.int k n.den)).run P w = .ok (.int .u8 b.toNat) w := by
  intro hq'
  obtain ⟨h1, h2⟩ := within_ok hw hq'
  rw [mkSN_den] at h2
  obtain ⟨b, hb, e⟩ := byteAt_some (s := st) (i := n.den.toNat) (by omega)
  refine ⟨b, e, ?_⟩
  simp [Instr.index, asIntOf, Sem.run_bind, run_underlying (isStrT_ok ht), h1, hb]
 split at h
 ·cases h
  obtain ⟨b, e, hr⟩ := key hq
  refine ⟨_, rfl, ?_⟩
  rw [hr]
  have e : byteAt st _ = (b.toNat : Int) := e
  simp only [SI.den] at e ⊢
  rw [e]
 ·cases h
  obtain ⟨b, e, hr⟩ := key hq
  refine ⟨_, rfl, ?_⟩
  rw [hr]
  simp only [SI.den] at e ⊢
  rw [e]
theorem strSlice_ok {t : TypeId} {x s : SV} {lo hi : Option SV} {lv hv : Option Value} {q : List Prop} {u : Value} (h : strSlice P t x lo hi = some (q, s)) (hq : ∀ p ∈ q, p) (hx : x.ok R u)
  (hlo : OptOk R lo lv) (hhi : OptOk R hi hv) : ∃ r, s.ok R r ∧ (Instr.sliceAt t u lv hv none).run P w = .ok r w := by
 unfold strSlice at h
 split at h
 case h_2 => cases h
 rename_i l st ht hs
 split at h
 case h_2 => cases h
 rename_i q1 hb hh
 split at h
 case h_2 => cases h
 rename_i q2 b hl
 obtain rfl := strS_ok hs hx
 have key : (∀ p ∈ q1 ++ q2, p) → (Instr.sliceAt t (.string st) lv hv none).run P w = .ok (.string (st.extract b.den hb.den)) w := by
  intro hq'
  obtain ⟨k1, k2⟩ := bound_ok hh (fun p hp => hq' p (by simp [hp])) hhi (Nat.le_refl _)
  obtain ⟨k3, k4⟩ := bound_ok hl (fun p hp => hq' p (by simp [hp])) hlo (Nat.zero_le _)
  have hr := run_bounds (P := P) (w := w) (b := false) (n := st.size) (c := st.size) (h := hb.den) (l := b.den) (by
   rcases k2 with ⟨e1, e2⟩ | k2
   ·exact .inl ⟨e1, by rw [e2, mkSN_den]⟩
   ·rw [mkSN_den] at k2; exact .inr k2) (by
   rcases k4 with ⟨e1, e2⟩ | k4
   ·exact .inl ⟨e1, by rw [e2]⟩
   ·exact .inr k4)
  simp [Instr.sliceAt, Instr.slice, Sem.run_bind, run_underlying (isStrT_ok ht), hr]
 split at h
 ·cases h
  exact ⟨_, ⟨rfl, rfl⟩, key hq⟩
 ·cases h
  exact ⟨_, ⟨rfl, rfl⟩, key hq⟩
theorem strCmp_ok {op : BinOp} {t : TypeId} {x y s : SV} {u v : Value} (h : strCmp op x y = some s) (hx : x.ok R u) (hy : y.ok R v) (xo yo : Operand) :
  ∃ r, s.ok R r ∧ (eqGuard op t xo yo u v).run P w = .ok () w ∧ (binOp op t u v).run P w = .ok r w := by
 unfold strCmp at h
 split at h
 case h_2 => cases h
 rename_i l a k b h1 h2
 obtain rfl := strS_ok h1 hx
 obtain rfl := strS_ok h2 hy
 split at h <;> first
  | cases h; done
  |(cases h
    refine ⟨_, rfl, ?_, ?_⟩
    ·simp [eqGuard]
    ·simp [binOp, Op.stringOp, mkSB_den])
theorem bytes_ok (l : List UInt8) : All2 (SC.ok R) (l.map byteC) (l.map fun b => Value.int .u8 b.toNat) := by
 induction l with
 | nil => trivial
 | cons b l ih => exact ⟨rfl, ih⟩
theorem run_copy_str {t e ty : TypeId} {ts : Array TypeId} {sz n ca : Nat} {o : Addr} {st : ByteArray} {ys : Array Value} {w' : World} (ht : ts[0]? = some t) (hu : P.underlying t = some (.slice e)) (h1 : (sizeOf e).run P w = .ok sz w)
  (hf : (Builtin.firstCells sz (Nat.min st.size n) (.string st)).run P w = .ok ys w) (hst : (storeCells o ys.toList).run P w = .ok () w') :
  (Builtin.copy_ ts ty #[.slice (some o) n ca, .string st]).run P w = .ok (.int .i64 (Nat.min st.size n : Nat)) w' := by
 simp only [Builtin.copy_, ht]
 simp [run_underlying hu, Builtin.lenOf, h1, hf, hst, goInt]
theorem strCopy_ok {t : TypeId} {x y s : SV} {q : List Prop} {m' : SMem} {u v : Value} (h : strCopy P t x y m = .ok q s m') (hq : ∀ p ∈ q, p) (hx : x.ok R u) (hy : y.ok R v) (hR : Rel n0 F w0 R m w) (ty : TypeId) (ts : Array TypeId) (ht : ts[0]? = some t) :
  Does n0 F w0 w m R m' s fun w' r => (Builtin.copy_ ts ty #[u, v]).run P w = .ok r w' := by
 unfold strCopy at h
 split at h
 case h_2 => cases h
 rename_i e i o n c1 st hu
 split at h
 case h_2 => cases h
 rename_i b hs hb
 split at h
 case h_2 => cases h
 rename_i q2 r hw hp
 cases h
 obtain ⟨g, ca, hg, rfl, _, _⟩ := hx
 obtain ⟨rfl, _⟩ := hy
 obtain ⟨h1, ie, hie, hies⟩ := sizeS_ok (w := w) hs
 obtain ⟨gb, cur, fzb, k4, k5, hzb, _, k6, k7⟩ := hR.set hb hw
 rw [hg] at k4
 cases k4
 have l2 : (SA.ls ((st.extract 0 (Nat.min st.size n)).data.toList.map byteC)).ok R ((st.extract 0 (Nat.min st.size n)).data.map fun b => Value.int .u8 b.toNat) := by
  show All2 _ _ _
  rw [Array.toList_map]
  exact bytes_ok _
 obtain ⟨l3, l4⟩ := putS_ok hp hq k6 l2
 have hst := run_store_row (P := P) (k := o.den) k5 hzb (by rw [Array.length_toList]; exact l3) (SA.one l2)
 refine ⟨R, _, _, ExtN.same _ R (by simp), k7 _ _ l4 (overA_size (by rw [Array.length_toList]; exact l3)), rfl, ?_⟩
 exact run_copy_str ht hu h1 rfl hst
theorem makeS_ok {t : TypeId} {x y s : SV} {q : List Prop} {m' : SMem} {u v : Value} (h : makeS P t x y m = .ok q s m') (hx : x.ok R u) (hy : y.ok R v) (hR : Rel n0 F w0 R m w) :
  Does n0 F w0 w m R m' s fun w' r => (Instr.makeSlice t u v).run P w = .ok r w' := by
 unfold makeS at h
 split at h
 case h_2 => cases h
 rename_i e k l k' c hu
 split at h
 case h_2 => cases h
 rename_i z i hz hi
 split at h
 case isFalse => cases h
 rename_i hc
 cases h
 obtain ⟨h0, hlc, hcm, hbm, hsm, hsp, hzn⟩ := hc
 obtain rfl : u = .int k l := hx
 obtain rfl : v = .int k' c := hy
 obtain ⟨ie, zv, hi', hzz, hzo⟩ := zeroS_ok (R := R) hz
 rw [hi] at hi'
 cases hi'
 have hzl := All2.len_eq hzo
 simp only [Array.length_toList] at hzl
 rw [len_eq] at hzn
 have hzs : zv.cells.size = i.size := by omega
 have hb1 : c.toNat * i.size ≤ 65536 * 256 := Nat.mul_le_mul (by omega) hsm
 have hb2 : (i.bytes : Int) * c ≤ 65536 * 65536 := Int.mul_le_mul (by omega) hcm (by omega) (by omega)
 have hrun := Go.run_makeSlice (P := P) w t e i zv hu hi hzz k k' l c h0 hlc (by omega) (by omega) (by omega)
 have hok := repN_ok hzo (by omega) c.toNat
 rw [hzs] at hok
 obtain ⟨R', k1, k2, k3⟩ := hR.new (a := .ls (repN c.toNat z)) (cs := madeCells zv.cells (c.toNat * i.size)) (by
  show All2 _ _ _
  unfold madeCells
  simpa [hzs] using hok) e
 exact ⟨R', _, _, k1, k3, ⟨_, c.toNat, k2, rfl, rfl, by show l.toNat ≤ c.toNat; omega⟩, hrun⟩
theorem strOf_ints (ns : List Int) : strOf (ns.map (Value.int .u8)) = ns.foldl (fun r n => r.push (UInt8.ofNat n.toNat)) ByteArray.empty := by
 unfold strOf
 rw [List.foldl_map]
theorem allU8_ints : ∀ {vs : List Value}, AllU8 vs → ∃ ns : List Int, vs = ns.map (Value.int .u8)
 | [], _ => ⟨[], rfl⟩
 | v :: vs, h => by
  obtain ⟨n, rfl⟩ := h v (List.mem_cons_self ..)
  obtain ⟨ns, e⟩ := allU8_ints (vs := vs) fun u hu => h u (List.mem_cons_of_mem _ hu)
  exact ⟨n :: ns, by rw [e]; rfl⟩
theorem plains_u8 : ∀ {l : List SC} {vs : List Value}, plains l = some vs → l.all isU8C = true → AllU8 vs
 | [], vs, h, _ => by cases h; intro v hv; cases hv
 | c :: l, vs, h, hu => by
  rw [List.all_cons, Bool.and_eq_true] at hu
  simp only [plains] at h
  split at h
  ·rename_i v r hc hr
   cases h
   intro u hu'
   rcases List.mem_cons.1 hu' with rfl | hu'
   ·have h1 := hu.1
    unfold isU8C at h1
    split at h1
    ·cases hc; exact ⟨_, rfl⟩
    ·cases h1
   ·exact plains_u8 hr hu.2 u hu'
  ·cases h
theorem bstrS_ok {src dst : TypeId} {x s : SV} {q : List Prop} {u : Value} (h : bstrS P src dst x m = some (q, s)) (hq : ∀ p ∈ q, p) (hx : x.ok R u) (hR : Rel n0 F w0 R m w) :
  ∃ r, s.ok R r ∧ (convert src dst u).run P w = .ok r w := by
 unfold bstrS at h
 split at h
 case h_2 => cases h
 rename_i e hu hd
 have hdst := isStrT_ok hd
 split at h
 case h_2 => cases h
 rename_i he
 split at h
 ·cases h
  obtain rfl : u = .slice none 0 0 := hx.1
  refine ⟨.string .empty, ⟨rfl, rfl⟩, ?_⟩
  rw [run_convert_bytes_string w src dst e none 0 0 hu he hdst]
  rfl
 ·cases h
  obtain ⟨a, c, rfl⟩ := hx
  refine ⟨.string .empty, ⟨rfl, rfl⟩, ?_⟩
  rw [run_convert_bytes_string w src dst e a 0 c hu he hdst]
  cases a <;> rfl
 ·rename_i id off n c
  split at h
  case h_2 => cases h
  rename_i b hb
  obtain ⟨g, cp, hg, rfl, _, _⟩ := hx
  obtain ⟨g', cs, fz, k1, k2, k3, k4, _⟩ := hR.blk id b hb
  rw [hg] at k1
  cases k1
  have main : ∀ {ys : List Value}, (cs.extract off.den (off.den + n.den)).toList = ys → off.den + n.den ≤ cs.size → AllU8 ys → (convert src dst (.slice (some ⟨g.b, off.den, none⟩) n.den cp)).run P w = .ok (.string (strOf ys)) w := by
   intro ys hy hle hu8
   obtain ⟨ns, rfl⟩ := allU8_ints hu8
   have hlen : (ns.map (Value.int .u8)).length = n.den := by
    rw [← hy, Array.length_toList, Array.size_extract]
    omega
   have hl := run_loadCells_list (P := P) w ⟨g.b, off.den, none⟩ (ns.map (Value.int .u8)) (fun j v hv => extract_get k2 j v (by rw [hy]; exact hv))
   rw [hlen] at hl
   rw [run_convert_bytes_string w src dst e _ _ _ hu he hdst, run_bytesToString w _ _ cp ns hl, strOf_ints]
  split at h
  ·rename_i q0 l hr
   split at h
   case h_2 => cases h
   rename_i vs hv hu8
   have key : (∀ p ∈ q0, p) → (convert src dst (.slice (some ⟨g.b, off.den, none⟩) n.den cp)).run P w = .ok (.string (strOf vs)) w := by
    intro hq0
    obtain ⟨l1, l2⟩ := rangeS_ok hr hq0 k4
    exact main (plains_ok hv l2) l1 (plains_u8 hv hu8)
   split at h
   ·cases h
    exact ⟨_, ⟨rfl, rfl⟩, key hq⟩
   ·cases h
    exact ⟨_, ⟨rfl, rfl⟩, key hq⟩
  ·rename_i q0 ds hr
   cases h
   obtain ⟨l1, l2⟩ := rangeS_ok hr (fun p hp => hq p (List.mem_append_left _ hp)) k4
   have e2 : cs.extract off.den (off.den + n.den) = ds := l2.1
   have h8 := hq (AllU8 ds.toList) (List.mem_append_right _ (List.mem_singleton.2 rfl))
   exact ⟨_, ⟨rfl, rfl⟩, main (by rw [e2]) l1 h8⟩
  ·cases h
 ·cases h
theorem strCat_ok {op : BinOp} {t : TypeId} {x y s : SV} {q : List Prop} {u v : Value} (h : strCat op x y = some (q, s)) (hq : ∀ p ∈ q, p) (hx : x.ok R u) (hy : y.ok R v) (xo yo : Operand) :
  ∃ r, s.ok R r ∧ (eqGuard op t xo yo u v).run P w = .ok () w ∧ (binOp op t u v).run P w = .ok r w := by
 unfold strCat at h
 split at h
 case h_2 => cases h
 rename_i l a k b h1 h2
 cases h
 obtain rfl := strS_ok h1 hx
 obtain rfl := strS_ok h2 hy
 have hle : ((a.size + b.size : Nat) : Int) ≤ 9223372036854775807 := hq _ (List.mem_cons_self ..)
 refine ⟨.string (a ++ b), by cases (l && k) <;> exact ⟨rfl, rfl⟩, by simp [eqGuard], ?_⟩
 have hmax : ¬ ((a.size + b.size : Nat) : Int) > IntKind.i64.max := by
  have : IntKind.i64.max = 9223372036854775807 := rfl
  omega
 simp only [binOp, Op.stringOp]
 rw [if_neg hmax]
 rfl
theorem bytes_range {st : ByteArray} {n : Nat} (h : n ≤ st.size) : All2 (SC.ok R) ((List.range n).map fun j => SC.f (.int .u8 (.o (byteAt st j)))) ((st.extract 0 n).data.map fun b => Value.int .u8 b.toNat).toList := by
 have e : ((st.extract 0 n).data.map fun b => Value.int .u8 b.toNat).toList = (List.range n).map fun j => Value.int .u8 (byteAt st j) := by
  apply List.ext_getElem?
  intro i
  rw [Array.getElem?_toList, Array.getElem?_map, List.getElem?_map]
  by_cases hi : i < n
  ·rw [List.getElem?_range hi]
   have h1 : (st.extract 0 n).data[i]? = st.data[i]? := by
    have hs : st.data.size = st.size := rfl
    rw [ByteArray.data_extract, Array.getElem?_extract, if_pos (by omega), Nat.zero_add]
   rw [h1]
   obtain ⟨b, h2, h3⟩ := byteAt_some (s := st) (i := i) (by omega)
   have h2 : st.data[i]? = some b := h2
   rw [h2]
   show some (Value.int .u8 (b.toNat : Int)) = some (Value.int .u8 (byteAt st i))
   rw [h3]
  ·rw [List.getElem?_eq_none (by simp; omega)]
   have : (st.extract 0 n).data[i]? = none := by
    rw [ByteArray.data_extract]
    apply Array.getElem?_eq_none
    simp
    omega
   rw [this]
   rfl
 rw [e]
 induction List.range n with
 | nil => trivial
 | cons j l ih => exact ⟨rfl, ih⟩
theorem strCopyO_ok {t : TypeId} {x y s : SV} {q : List Prop} {m' : SMem} {u v : Value} (h : strCopyO P t x y m = .ok q s m') (hq : ∀ p ∈ q, p) (hx : x.ok R u) (hy : y.ok R v) (hR : Rel n0 F w0 R m w) (ty : TypeId) (ts : Array TypeId) (ht : ts[0]? = some t) :
  Does n0 F w0 w m R m' s fun w' r => (Builtin.copy_ ts ty #[u, v]).run P w = .ok r w' := by
 unfold strCopyO at h
 split at h
 case h_2 => cases h
 rename_i e i o n c1 st hu
 split at h
 case h_2 => cases h
 rename_i b hs hb
 split at h
 case h_2 => cases h
 rename_i q2 r hw hp
 cases h
 have hns : n ≤ st.size := hq _ (List.mem_append_right _ (List.mem_singleton.2 rfl))
 obtain ⟨g, ca, hg, rfl, _, _⟩ := hx
 obtain ⟨rfl, _⟩ := hy
 obtain ⟨h1, ie, hie, hies⟩ := sizeS_ok (w := w) hs
 obtain ⟨gb, cur, fzb, k4, k5, hzb, _, k6, k7⟩ := hR.set hb hw
 rw [hg] at k4
 cases k4
 have hmin : Nat.min st.size n = n := Nat.min_eq_right hns
 have l2 : (SA.ls ((List.range n).map fun j => .f (.int .u8 (.o (byteAt st j))))).ok R ((st.extract 0 (Nat.min st.size n)).data.map fun b => Value.int .u8 b.toNat) := by
  show All2 _ _ _
  rw [hmin]
  exact bytes_range hns
 obtain ⟨l3, l4⟩ := putS_ok hp (fun p hp => hq p (List.mem_append_left _ hp)) k6 l2
 have hst := run_store_row (P := P) (k := o.den) k5 hzb (by rw [Array.length_toList]; exact l3) (SA.one l2)
 refine ⟨R, _, .int .i64 (Nat.min st.size n : Nat), ExtN.same _ R (by simp), k7 _ _ l4 (overA_size (by rw [Array.length_toList]; exact l3)), ?_, run_copy_str ht hu h1 rfl hst⟩
 rw [hmin]; rfl
theorem bytesS0_ok {src dst : TypeId} {x s : SV} {q : List Prop} {m' : SMem} {u : Value} (h : bytesS0 P src dst x m = .ok q s m') (hx : x.ok R u) (hR : Rel n0 F w0 R m w) :
  Does n0 F w0 w m R m' s fun w' r => (convert src dst u).run P w = .ok r w' := by
 unfold bytesS0 at h
 split at h
 case h_2 => cases h
 rename_i e l str hu hs
 split at h
 case h_2 => cases h
 rename_i hst he
 have hsrc : P.underlying src = some .string := by
  unfold isStrT at hst
  split at hst
  ·assumption
  ·cases hst
 obtain rfl : u = .string str := strS_ok hs hx
 have hrun := Go.Lib.run_convert_string_bytes (P := P) w src dst e str hsrc hu he
 have hbel : Go.RowKit.Below w.heap.size w (Go.Lib.bytesWorld w e str) :=
  ⟨by simp [Go.Lib.bytesWorld, World.freeze, World.alloc, World.drew, -World.alloc_eq, -World.drew_eq], by simp [Go.Lib.bytesWorld, World.freeze, World.alloc, World.drew, -World.alloc_eq, -World.drew_eq], by simp [Go.Lib.bytesWorld, World.freeze, World.alloc, World.drew, -World.alloc_eq, -World.drew_eq],
   by rw [Go.Lib.bytesWorld_size]; exact Nat.le_succ _, fun k hk => Go.Lib.bytesWorld_at_old w e str k hk⟩
 have hat := Go.Lib.bytesWorld_at_new w e str
 have hsz := Go.Lib.bytesWorld_size w e str
 have hone : ∀ v ∈ (Go.Lib.bytesCells w e str).toList, v.oneCell' = true := by
  intro v hv
  unfold Go.Lib.bytesCells at hv
  rw [Array.toList_append, List.mem_append] at hv
  rcases hv with hv | hv
  ·simp only [Array.toList_map, List.mem_map] at hv
   obtain ⟨b, _, rfl⟩ := hv
   rfl
  ·rw [Array.toList_replicate] at hv
   rw [List.eq_of_mem_replicate hv]
   rfl
 have htake : (Go.Lib.bytesCells w e str).toList.take str.size = (str.data.map fun b => Value.int .u8 b.toNat).toList := by
  unfold Go.Lib.bytesCells
  rw [Array.toList_append, List.take_append_of_le_length (by rw [Array.length_toList, Array.size_map]; exact Nat.le_refl _), List.take_of_length_le (by rw [Array.length_toList, Array.size_map]; exact Nat.le_refl _)]
 have hge := grownCap_ge w str.size 0 e
 have fin : ∀ {n : SN} {a : SA}, n.den = str.size → a.ok R (Go.Lib.bytesCells w e str) → Does n0 F w0 w m R (m.new a e) (.s (.c (.f (.slice m.next (.l 0) n .any)))) fun w' r => (convert src dst (.string str)).run P w = .ok r w' := by
  intro n a hn ha
  obtain ⟨R', k1, k2, k3⟩ := hR.grow (L := ⟨w.heap.size, (Go.Lib.bytesCells w e str).size⟩) hbel (Nat.le_refl _) (by rw [hsz]; exact Nat.lt_succ_self _) hat rfl ha (.inr (Nat.le_refl _))
  exact ⟨R', _, _, k1, k3, ⟨_, grownCap w str.size 0 e, k2, by rw [hn], trivial, by rw [hn]; exact hge⟩, hrun⟩
 split at h
 ·cases h
  refine fin rfl ⟨?_, hone⟩
  have hl : (str.data.toList.map byteC).length = str.size := by rw [List.length_map, Array.length_toList]; rfl
  rw [hl, htake, Array.toList_map]
  exact bytes_ok _
 ·cases h
  refine fin rfl ⟨?_, hone⟩
  have hl : (str.data.map fun b => Value.int .u8 b.toNat).size = str.size := by rw [Array.size_map]; rfl
  rw [hl, htake]
theorem xop3_ok {T : Tm} {a : Act} {o : Oper} {q : List Prop} {s : SV} {m' : SMem} (h : xop3 P T m o.op = .ok q s m') (hq : ∀ p ∈ q, p) (hT : TmOk R T a) (hR : Rel n0 F w0 R m w) :
  Does n0 F w0 w m R m' s fun w' v => Ends P a o w w' v := by
 have of1 : ∀ {r : Option SV}, XR.one m r = .ok q s m' → r = some s ∧ m' = m := by
  intro r hr
  cases r with
  | none => cases hr
  | some y => cases hr; exact ⟨rfl, rfl⟩
 have of2 : ∀ {r : Option (List Prop × SV)}, XR.of m r = .ok q s m' → r = some (q, s) ∧ m' = m := by
  intro r hr
  cases r with
  | none => cases hr
  | some y => cases hr; exact ⟨rfl, rfl⟩
 generalize ho : o.op = op at h
 unfold xop3 at h
 dsimp only [xop3_a0, xop3_a1, xop3_a2, xop3_a3, xop3_a4] at h
 split at h
 ·rename_i bop t x y yt
  split at h
  ·rename_i xs ys hx hy
   split at h
   ·rename_i s' h1
    cases h
    obtain ⟨r, k1, k2, k3⟩ := strCmp_ok (w := w) (P := P) (t := t) h1 (ev_ok hT hx) (ev_ok hT hy) x y
    exact ⟨R, w, r, ExtN.refl _ _ R, hR, k1, .inl (by simp [execOp, ho, k2, k3])⟩
   ·obtain ⟨h1, rfl⟩ := of2 h
    obtain ⟨r, k1, k2, k3⟩ := strCat_ok (w := w) (P := P) (t := t) h1 hq (ev_ok hT hx) (ev_ok hT hy) x y
    exact ⟨R, w, r, ExtN.refl _ _ R, hR, k1, .inl (by simp [execOp, ho, k2, k3])⟩
  ·cases h
 ·rename_i t x i
  split at h
  ·rename_i xs ys hx hy
   obtain ⟨h1, rfl⟩ := of2 h
   obtain ⟨r, k1, k2⟩ := strIndex_ok (w := w) h1 hq (ev_ok hT hx) (ev_ok hT hy)
   exact ⟨R, w, r, ExtN.refl _ _ R, hR, k1, .inl (by simp [execOp, ho, k2])⟩
  ·cases h
 ·rename_i t x lo hi
  split at h
  ·rename_i u l hv hu hl hh
   obtain ⟨h1, rfl⟩ := of2 h
   have opt : ∀ {y : Option Operand} {s}, evO T y = some s → OptOk R s (y.map a.eval) := by
    intro y s hy
    cases y with
    | none => cases hy; trivial
    | some y =>
     obtain ⟨z, hz, rfl⟩ := Option.map_eq_some_iff.1 hy
     exact ev_ok hT hz
   obtain ⟨r, h2, h3⟩ := strSlice_ok (w := w) h1 hq (ev_ok hT hu) (opt hl) (opt hh)
   exact ⟨R, w, r, ExtN.refl _ _ R, hR, h2, .inl (by simp [execOp, ho, h3])⟩
  ·cases h
 ·rename_i args ts
  split at h
  ·rename_i t x ht hxy
   obtain ⟨h1, rfl⟩ := of1 h
   have hv := evs_ok hT hxy
   rw [nth_eq, Array.getElem?_toList] at ht
   have hargs : ∃ u, args.map a.eval = #[u] ∧ x.ok R u := by
    match hl : args.toList.map a.eval, hv with
    | [u], hu =>
     refine ⟨u, ?_, hu.1⟩
     apply Array.ext'
     simpa using hl
    | [], hu => exact hu.elim
    | _ :: _ :: _, hu => exact hu.2.elim
   obtain ⟨u, e, hu⟩ := hargs
   obtain ⟨r, h2, h3⟩ := strLen_ok (w := w) h1 hu o.type ts ht
   exact ⟨R, w, r, ExtN.refl _ _ R, hR, h2, .inl (by simp [execOp, ho, resolve, invoke, builtin, e, h3])⟩
  ·cases h
 ·rename_i args ts
  split at h
  ·rename_i t x y ht hxy
   have hv := evs_ok hT hxy
   rw [nth_eq, Array.getElem?_toList] at ht
   have hargs : ∃ u v, args.map a.eval = #[u, v] ∧ x.ok R u ∧ y.ok R v := by
    match hl : args.toList.map a.eval, hv with
    | [u, v], hu =>
     refine ⟨u, v, ?_, hu.1, hu.2.1⟩
     apply Array.ext'
     simpa using hl
    | [], hu => exact hu.elim
    | [_], hu => exact hu.2.elim
    | _ :: _ :: _ :: _, hu => exact hu.2.2.elim
   obtain ⟨u, v, e, hu, hv⟩ := hargs
   split at h
   ·obtain ⟨R', w', r, h1, h2, h3, h4⟩ := strCopyO_ok h hq hu hv hR o.type ts ht
    exact ⟨R', w', r, h1, h2, h3, .inl (by simp [execOp, ho, resolve, invoke, builtin, e, h4])⟩
   ·obtain ⟨R', w', r, h1, h2, h3, h4⟩ := strCopy_ok h hq hu hv hR o.type ts ht
    exact ⟨R', w', r, h1, h2, h3, .inl (by simp [execOp, ho, resolve, invoke, builtin, e, h4])⟩
  ·cases h
 ·rename_i t x lo hi mx
  unfold xop3_z at h
  split at h
  case h_2 => cases h
  rename_i xs hz hx
  obtain ⟨h1, rfl⟩ := of1 h
  simp only [Bool.and_eq_true] at hz
  have zero : ∀ {y : Option Operand}, isZero T y = true → (y.map a.eval = none) ∨ ∃ k, y.map a.eval = some (.int k 0) := by
   intro y hy
   unfold isZero at hy
   split at hy
   ·rename_i he
    cases y with
    | none => exact .inl rfl
    | some y => obtain ⟨z, _, hz⟩ := Option.map_eq_some_iff.1 he; cases hz
   ·rename_i k he
    cases y with
    | none => cases he
    | some y =>
     obtain ⟨z, hz, e⟩ := Option.map_eq_some_iff.1 he
     cases e
     have := ev_ok hT hz
     exact .inr ⟨k, congrArg some this⟩
   ·cases hy
  have hm : ∃ k, a.eval mx = .int k 0 := by
   rcases zero hz.2 with h | ⟨k, h⟩
   ·cases h
   ·exact ⟨k, Option.some.inj h⟩
  have hh : ∃ k, a.eval hi = .int k 0 := by
   rcases zero hz.1.2 with h | ⟨k, h⟩
   ·cases h
   ·exact ⟨k, Option.some.inj h⟩
  obtain ⟨km, em⟩ := hm
  obtain ⟨kh, eh⟩ := hh
  have hl := zero hz.1.1
  have hb : ∀ (n c : Nat), (Instr.sliceBounds true n c (lo.map a.eval) (some (.int kh 0)) (some (.int km 0))).run P w = .ok (0, 0, 0) w := by
   intro n c
   rcases hl with hl | ⟨k, hl⟩ <;> rw [hl] <;> simp [Instr.sliceBounds, Instr.sliceBound, asIntOf]
  have hxa := ev_ok hT hx
  unfold slice00 at h1
  split at h1
  case h_2 => cases h1
  rename_i e hu
  have go : ∀ (b : Option Addr) (n c : Nat), a.eval x = .slice b n c → (sizeOf e).run P w = .ok (n + 0 - n + (sizeS P e).getD 0) w → (Instr.sliceAt t (a.eval x) (lo.map a.eval) (some (a.eval hi)) (some (a.eval mx))).run P w = .ok (.slice b 0 0) w := by
   intro b n c e1 e2
   rw [e1, em, eh]
   simp [Instr.sliceAt, Instr.slice, Sem.run_bind, run_underlying hu, hb, e2]
  split at h1
  ·rename_i sz id off n c hs
   cases h1
   obtain ⟨g, c', _, e1, _⟩ := hxa
   obtain ⟨k1, _⟩ := sizeS_ok (w := w) hs
   have := go _ _ _ e1 (by rw [hs]; simpa using k1)
   exact ⟨R, w, .slice (some ⟨g.b, off.den, none⟩) 0 0, ExtN.refl _ _ R, hR, ⟨_, rfl⟩, .inl (by simp [execOp, ho, this])⟩
  ·rename_i sz hs
   cases h1
   obtain ⟨b, c, e1⟩ := hxa
   obtain ⟨k1, _⟩ := sizeS_ok (w := w) hs
   have := go _ _ _ e1 (by rw [hs]; simpa using k1)
   exact ⟨R, w, .slice b 0 0, ExtN.refl _ _ R, hR, ⟨_, rfl⟩, .inl (by simp [execOp, ho, this])⟩
  ·rename_i sz hs
   cases h1
   obtain ⟨b, e1⟩ := hxa
   obtain ⟨k1, _⟩ := sizeS_ok (w := w) hs
   have := go _ _ _ e1 (by rw [hs]; simpa using k1)
   exact ⟨R, w, .slice b 0 0, ExtN.refl _ _ R, hR, ⟨_, rfl⟩, .inl (by simp [execOp, ho, this])⟩
  ·rename_i sz hs
   cases h1
   have e1 := hxa.1
   obtain ⟨k1, _⟩ := sizeS_ok (w := w) hs
   have := go _ _ _ e1 (by rw [hs]; simpa using k1)
   exact ⟨R, w, _, ExtN.refl _ _ R, hR, ⟨rfl, rfl⟩, .inl (by simp [execOp, ho, this])⟩
  ·cases h1
 ·rename_i t x y
  unfold xop3_mk at h
  split at h
  ·rename_i xs ys hx hy
   obtain ⟨R', w', r, h1, h2, h3, h4⟩ := makeS_ok h (ev_ok hT hx) (ev_ok hT hy) hR
   exact ⟨R', w', r, h1, h2, h3, .inl (by simp [execOp, ho, h4])⟩
  ·cases h
 ·rename_i src dst x
  unfold xop3_by at h
  split at h
  ·rename_i xs hx
   split at h
   ·obtain ⟨h1, rfl⟩ := of2 h
    obtain ⟨r, k1, k2⟩ := bstrS_ok (w := w) h1 hq (ev_ok hT hx) hR
    exact ⟨R, w, r, ExtN.refl _ _ R, hR, k1, .inl (by simp [execOp, ho, k2])⟩
   ·obtain ⟨R', w', r, h1, h2, h3, h4⟩ := bytesS0_ok h (ev_ok hT hx) hR
    exact ⟨R', w', r, h1, h2, h3, .inl (by simp [execOp, ho, h4])⟩
  ·cases h
 ·cases h
theorem xopW_ok {T : Tm} {a : Act} {o : Oper} {q : List Prop} {s : SV} {m' : SMem} (h : xopW P T m o.op = .ok q s m') (hq : ∀ p ∈ q, p) (hT : TmOk R T a) (hR : Rel n0 F w0 R m w) :
  Does n0 F w0 w m R m' s fun w' v => Ends P a o w w' v := by
 unfold xopW at h
 split at h
 ·split at h
  ·split at h
   ·exact xop4_ok h hT hR
   ·exact xop3_ok h hq hT hR
  ·exact xop2_ok h hq hT hR
 ·exact xop_ok h hq hT hR
theorem xopE_ok {T : Tm} {a : Act} {o : Oper} {q : List Prop} {s : SV} {m' : SMem} (h : xopE P T m o.op = .ok q s m') (hc : cutAt P T o.op = some true) (hq : ∀ p ∈ q, p) (hT : TmOk R T a) (hR : Rel n0 F w0 R m w) :
  Does n0 F w0 w m R m' s fun w' v => Ends P a o w w' v := by
 unfold xopE at h
 split at h
 case h_2 => cases h
 rename_i q' ll hh hcut
 cases h
 have hlh : ll.den = hh.den := by
  unfold cutAt at hc
  rw [hcut] at hc
  split at hc
  ·cases hc
  ·rename_i e
   cases e
   simpa using hc
  ·cases hc
 generalize ho : o.op = op at hcut
 unfold cutS at hcut
 split at hcut
 case h_2 => cases hcut
 rename_i t x lo hi
 split at hcut
 case h_2 => cases hcut
 rename_i e id off n c l h hu hx hl hhi
 split at hcut
 case h_2 => cases hcut
 rename_i sz q1 hb hcn hs hbh
 split at hcut
 case h_2 => cases hcut
 rename_i q2 l2 hbl
 simp only [Option.some.injEq, Prod.mk.injEq] at hcut
 obtain ⟨rfl, rfl, rfl⟩ := hcut
 obtain ⟨g, c', hg, ev, hcc, hlc⟩ := ev_ok hT hx
 obtain ⟨h1, _⟩ := sizeS_ok (w := w) hs
 have opt : ∀ {y : Option Operand} {s}, evO T y = some s → OptOk R s (y.map a.eval) := by
  intro y s hy
  cases y with
  | none => cases hy; trivial
  | some y =>
   obtain ⟨z, hz, rfl⟩ := Option.map_eq_some_iff.1 hy
   exact ev_ok hT hz
 obtain ⟨k1, k2⟩ := bound_ok hbh (fun p hp => hq p (by simp [hp])) (opt hhi) (Nat.le_refl _)
 obtain ⟨k3, k4⟩ := bound_ok hbl (fun p hp => hq p (by simp [hp])) (show OptOk R (some l) (some (a.eval lo)) from ev_ok hT hl) (Nat.zero_le _)
 have low : ((some (a.eval lo) : Option Value) = none ∧ l2.den = 0) ∨ ∃ k i, (some (a.eval lo) : Option Value) = some (.int k i) ∧ 0 ≤ i ∧ i ≤ hb.den ∧ l2.den = i.toNat := by
  rcases k4 with ⟨e1, _⟩ | k4
  ·cases e1
  ·exact .inr k4
 have hr := run_bounds (P := P) (w := w) (b := true) (n := n.den) (c := c') (h := hb.den) (l := l2.den) (by
  rcases k2 with ⟨e1, e2⟩ | ⟨k, i, k3, k4, k5, k6⟩
  ·exact .inl ⟨e1, by rw [← e2]⟩
  ·exact .inr ⟨k, i, k3, k4, by omega, k6⟩) low
 have hres : ∃ z, (Instr.sliceAt t (.slice (some ⟨g.b, off.den, none⟩) n.den c') (some (a.eval lo)) (hi.map a.eval) none).run P w = .ok (.slice (some z) (hb.den - l2.den) (c' - l2.den)) w := by
  simp only [Instr.sliceAt, Instr.slice, Sem.run_bind, run_underlying hu, Result.andThen_ok, hr, h1]
  by_cases e : c' = l2.den
  ·exact ⟨_, by simp only [if_pos e]; rfl⟩
  ·exact ⟨_, by simp only [if_neg e]; rfl⟩
 obtain ⟨z, hres⟩ := hres
 rw [hlh, Nat.sub_self] at hres
 rw [← ev] at hres
 exact ⟨R, w, .slice (some z) 0 (c' - hb.den), ExtN.refl _ _ R, hR, ⟨z, _, rfl⟩, .inl (by simp [execOp, ho, hres])⟩
theorem xopZ_ok {T : Tm} {a : Act} {o : Oper} {q : List Prop} {s : SV} {m' : SMem} {early : Bool} (h : xopZ P early T m o.op = .ok q s m') (hc : early = true → cutAt P T o.op = some true) (hq : ∀ p ∈ q, p) (hT : TmOk R T a) (hR : Rel n0 F w0 R m w) :
  Does n0 F w0 w m R m' s fun w' v => Ends P a o w w' v := by
 cases early with
 | true => exact xopE_ok h (hc rfl) hq hT hR
 | false => exact xopW_ok h hq hT hR
end
end Go.Proofs.YtdopckcockgefaaDoor
