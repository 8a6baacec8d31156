/-
  What the early returns of the functions of codes share (out of Early).
-/
import Derived.Test.YtplpccgbciglpaaDoorForget2
namespace Go.Proofs.YtplpccgbciglpaaDoor
open Go.RowKit

theorem two_mem (w : World) (a b : Obj) (W : World) (h : W = (w.alloc a).alloc b) :
    W.heap[w.heap.size]? = some a ∧ W.heap[w.heap.size + 1]? = some b ∧ w.heap.size + 1 < W.heap.size ∧ Below w.heap.size w W := by
  have s1 : (w.alloc a).heap.size = w.heap.size + 1 := by simp
  have h2 := heap_alloc_new (w.alloc a) b
  have h1 := heap_alloc_new w a
  rw [s1] at h2
  have k : ∀ (x : World) (o : Obj) q, q < x.heap.size → (x.alloc o).heap[q]? = x.heap[q]? := fun x o q hq => ((Below.refl x.heap.size x).alloc (Nat.le_refl _) o).block q hq
  subst h
  refine ⟨?_, h2, by simp, (((Below.refl _ _).alloc (Nat.le_refl _) _).alloc (by simp) _)⟩
  rw [k _ b _ (by omega)]; exact h1
theorem two_next {w W W' : World} {a b : Obj} (h : W.heap[w.heap.size]? = some a ∧ W.heap[w.heap.size + 1]? = some b ∧ w.heap.size + 1 < W.heap.size ∧ Below w.heap.size w W) (hb : Below W.heap.size W W') :
    W'.heap[w.heap.size]? = some a ∧ W'.heap[w.heap.size + 1]? = some b ∧ w.heap.size + 1 < W'.heap.size ∧ Below w.heap.size w W' := by
  obtain ⟨h1, h2, h4, h5⟩ := h
  exact ⟨(hb.block _ (by omega)).trans h1, (hb.block _ (by omega)).trans h2, Nat.lt_of_lt_of_le h4 hb.size, h5.trans (hb.mono h5.size)⟩
/-- A code that is stored into the result's variable. -/
theorem res_end {w w1 : World} {r : Nat} (h : w1.heap[r]? = some (.cells #[.int .i64 0, .slice none 0 0] 24 (0, 0))) (hr : w.heap.size ≤ r) (hb : Below w.heap.size w w1) (v0 v1 : Value)
    {X : World} (hX : X = (w1.setCell ⟨r, 0, none⟩ v0).setCell ⟨r, 1, none⟩ v1) :
    X.cell? ⟨r, 0, none⟩ = some v0 ∧ X.cell? ⟨r, 1, none⟩ = some v1 ∧ Below w.heap.size w X ∧ X.heap.size = w1.heap.size ∧ (∀ q, q ≠ r → X.heap[q]? = w1.heap[q]?) := by
  have hXF : X.heap[r]? = some (.cells #[v0, v1] 24 (0, 0)) := by
    rw [hX]
    simp [World.setCell, Array.getElem?_modify, h]
  refine ⟨Lib.cell_of_heap hXF 0, Lib.cell_of_heap hXF 1, ?_, by rw [hX]; simp, fun q hq => by rw [hX]; exact (Below.heap_setCell _ _ _ q hq).trans (Below.heap_setCell _ _ _ q hq)⟩
  rw [hX]
  exact (hb.setCell (p := ⟨r, 0, none⟩) hr _).setCell (p := ⟨r, 1, none⟩) hr _

/-- What a function answers with an error. -/
def ErrZ (ce : Int) (w : World) (e : Ending) (w' : World) : Prop := e = .returned (.tuple #[.agg #[.int .i64 0, .slice none 0 0], .int .i64 ce]) ∧ Below w.heap.size w w'
/-- Check answers this, whatever has happened since. -/
def ChkAt (f : Int) (A : Option Addr) (n c : Nat) (ce : Int) (w : World) : Prop :=
  ∀ W, Below w.heap.size w W → Calls Tryd.prog 20 #[.agg #[.int .i64 f, .slice A n c]] W fun e w' => e = .returned (.int .i64 ce) ∧ Below W.heap.size W w'


end Go.Proofs.YtplpccgbciglpaaDoor
