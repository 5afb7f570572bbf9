/- The plain words for books of handles: a block that is known whole; a book's cells by its generations and kinds. No condition. -/
import Derived.Below
import Derived.Laws.OwnMore
import Derived.Deep.Draws
import Derived.Laws.Rows
namespace Go.Proofs.Ytnicipemkcofpaa
open Go.RowKit

theorem hide {p : Prop} (h : p) : Hid p := h

def Blk (w : World) (g : Nat) (t : TypeId) (cs : Array Value) : Prop := w.heap[g]? = some (.cells cs t (0, 0))

section
variable {w w' : World} {g : Nat} {t : TypeId} {cs : Array Value}
theorem Blk.lt (h : Blk w g t cs) : g < w.heap.size := by
  rcases Nat.lt_or_ge g w.heap.size with hlt | hge
  · exact hlt
  · unfold Blk at h; rw [Array.getElem?_eq_none hge] at h; cases h
theorem Blk.cell (h : Blk w g t cs) (i : Nat) : w.cell? ⟨g, i, none⟩ = cs[i]? := cell_of_row w g i cs t (0, 0) h
theorem Blk.frozen (h : Blk w g t cs) (i : Nat) : w.frozen? ⟨g, i, none⟩ = false := by
  unfold Blk at h
  simp [World.frozen?, h]
theorem Blk.new (w : World) (t : TypeId) (cs : Array Value) : Blk (w.alloc (.cells cs t)) w.heap.size t cs := heap_alloc_new w _
theorem Blk.drew (h : Blk w g t cs) : Blk w.drew g t cs := h
theorem Blk.drewN (h : Blk w g t cs) (n : Nat) : Blk (w.drewN n) g t cs := h
theorem Blk.alloc (h : Blk w g t cs) (o : Obj) : Blk (w.alloc o) g t cs := (Below.heap_alloc w o g h.lt).trans h
theorem Blk.set_ (h : Blk w g t cs) (i : Nat) (u : Value) : Blk (w.setCell ⟨g, i, none⟩ u) g t (cs.setIfInBounds i u) := by
  unfold Blk at h ⊢
  simp [World.setCell, Array.getElem?_modify, h]
theorem Blk.far (h : Blk w g t cs) {p : Addr} (hp : g ≠ p.block) (u : Value) : Blk (w.setCell p u) g t cs := (Below.heap_setCell w p u g hp).trans h
theorem Blk.below {B : Nat} (h : Blk w g t cs) (hb : Below B w w') (hg : g < B) : Blk w' g t cs := (hb.block g hg).trans h
end

/-- A function with one value turned. -/
def upd (f : Nat → Nat) (i v : Nat) : Nat → Nat := fun j => if j = i then v else f j
theorem upd_same (f : Nat → Nat) (i v : Nat) : upd f i v i = v := if_pos rfl
theorem upd_other (f : Nat → Nat) {i j : Nat} (v : Nat) (h : j ≠ i) : upd f i v j = f j := if_neg h

/-- A book's cells: of each slot its generation, its kind. -/
def bk (f g : Nat → Nat) : Array Value := Array.ofFn (n := 64) fun i => if i.val % 2 = 0 then Value.int .u32 (f (i.val / 2)) else Value.int .u8 (g (i.val / 2))
/-- The document's book's cells: all generations, then all kinds. -/
def rk (f g : Nat → Nat) : Array Value := Array.ofFn (n := 64) fun i => if i.val < 32 then Value.int .i64 (f i.val) else Value.int .i64 (g (i.val - 32))

theorem bk_size (f g : Nat → Nat) : (bk f g).size = 64 := by simp [bk]
theorem rk_size (f g : Nat → Nat) : (rk f g).size = 64 := by simp [rk]
theorem bk_get (f g : Nat → Nat) (k : Nat) : (bk f g)[k]? = if k < 64 then some (if k % 2 = 0 then Value.int .u32 (f (k / 2)) else Value.int .u8 (g (k / 2))) else none := by
  unfold bk; rw [Array.getElem?_ofFn]; split <;> rfl
theorem rk_get (f g : Nat → Nat) (k : Nat) : (rk f g)[k]? = if k < 64 then some (if k < 32 then Value.int .i64 (f k) else Value.int .i64 (g (k - 32))) else none := by
  unfold rk; rw [Array.getElem?_ofFn]; split <;> rfl
theorem bk_age (f g : Nat → Nat) {i : Nat} (h : i < 32) : (bk f g)[i * 2]? = some (.int .u32 (f i)) := by
  have h3 : i * 2 / 2 = i := by omega
  rw [bk_get, if_pos (by omega), if_pos (by omega), h3]
theorem bk_kind (f g : Nat → Nat) {i : Nat} (h : i < 32) : (bk f g)[i * 2 + 1]? = some (.int .u8 (g i)) := by
  have h3 : (i * 2 + 1) / 2 = i := by omega
  rw [bk_get, if_pos (by omega), if_neg (by omega), h3]
theorem rk_gen (f g : Nat → Nat) {i : Nat} (h : i < 32) : (rk f g)[i]? = some (.int .i64 (f i)) := by
  rw [rk_get, if_pos (by omega), if_pos h]
theorem rk_is (f g : Nat → Nat) {i : Nat} (h : i < 32) : (rk f g)[32 + i]? = some (.int .i64 (g i)) := by
  have h3 : 32 + i - 32 = i := by omega
  rw [rk_get, if_pos (by omega), if_neg (by omega), h3]
theorem bk_setk (f g : Nat → Nat) {i : Nat} (v : Nat) (h : i < 32) : (bk f g).setIfInBounds (i * 2 + 1) (.int .u8 v) = bk f (upd g i v) := by
  apply Array.ext_getElem?
  intro k
  rw [Array.getElem?_setIfInBounds, bk_get, bk_get, bk_size]
  by_cases e : i * 2 + 1 = k
  · have h3 : k / 2 = i := by omega
    rw [if_pos e, if_pos (by omega), if_pos (by omega), if_neg (by omega), h3, upd_same]
  · rw [if_neg e]
    by_cases e2 : k % 2 = 0
    · rw [if_pos e2, if_pos e2]
    · rw [if_neg e2, if_neg e2, upd_other _ _ (by omega)]
theorem bk_seta (f g : Nat → Nat) {i : Nat} (v : Nat) (h : i < 32) : (bk f g).setIfInBounds (i * 2) (.int .u32 v) = bk (upd f i v) g := by
  apply Array.ext_getElem?
  intro k
  rw [Array.getElem?_setIfInBounds, bk_get, bk_get, bk_size]
  by_cases e : i * 2 = k
  · have h3 : k / 2 = i := by omega
    rw [if_pos e, if_pos (by omega), if_pos (by omega), if_pos (by omega), h3, upd_same]
  · rw [if_neg e]
    by_cases e2 : k % 2 = 0
    · rw [if_pos e2, if_pos e2, upd_other _ _ (by omega)]
    · rw [if_neg e2, if_neg e2]
theorem rk_setg (f g : Nat → Nat) {i : Nat} (v : Nat) (h : i < 32) : (rk f g).setIfInBounds i (.int .i64 v) = rk (upd f i v) g := by
  apply Array.ext_getElem?
  intro k
  rw [Array.getElem?_setIfInBounds, rk_get, rk_get, rk_size]
  by_cases e : i = k
  · subst e
    rw [if_pos rfl, if_pos (by omega), if_pos (by omega), if_pos h, upd_same]
  · rw [if_neg e]
    by_cases e2 : k < 32
    · rw [if_pos e2, if_pos e2, upd_other _ _ (fun x => e x.symm)]
    · rw [if_neg e2, if_neg e2]
theorem rk_seti (f g : Nat → Nat) {i : Nat} (v : Nat) (h : i < 32) : (rk f g).setIfInBounds (32 + i) (.int .i64 v) = rk f (upd g i v) := by
  apply Array.ext_getElem?
  intro k
  rw [Array.getElem?_setIfInBounds, rk_get, rk_get, rk_size]
  by_cases e : 32 + i = k
  · have h3 : k - 32 = i := by omega
    rw [if_pos e, if_pos (by omega), if_pos (by omega), if_neg (by omega), h3, upd_same]
  · rw [if_neg e]
    by_cases e2 : k < 32
    · rw [if_pos e2, if_pos e2]
    · rw [if_neg e2, if_neg e2]
      by_cases e3 : k < 64
      · rw [upd_other _ _ (by omega)]
      · rw [if_neg e3, if_neg e3]
theorem bk_one (f g : Nat → Nat) : (bk f g).all (·.oneCell') = true := by
  rw [Array.all_eq_true]
  intro i hi
  have h := bk_get f g i
  have hi' : i < 64 := by simpa [bk_size] using hi
  rw [Array.getElem?_eq_getElem hi, if_pos hi'] at h
  rw [Option.some.inj h]
  split <;> rfl
theorem rk_one (f g : Nat → Nat) : (rk f g).all (·.oneCell') = true := by
  rw [Array.all_eq_true]
  intro i hi
  have h := rk_get f g i
  have hi' : i < 64 := by simpa [rk_size] using hi
  rw [Array.getElem?_eq_getElem hi, if_pos hi'] at h
  rw [Option.some.inj h]
  split <;> rfl
end Go.Proofs.Ytnicipemkcofpaa
