/-
  Slices of a call's own with elements of one cell; the map of a code as a block that is written.
-/
import Derived.Test.YtnommkbcffikaaaDoorOther
namespace Go.Proofs.YtnommkbcffikaaaDoor
open Go.RowKit

/-- The value is a slice of the call's own with these elements. -/
def OwnV (w : World) (B : Nat) (T : TypeId) (v : Value) (vs : List Value) : Prop := w.ownsRow B T 1 v vs.length vs
section
variable {w w' : World} {B g n c : Nat} {T : TypeId} {v : Value} {vs : List Value}
theorem OwnV.below (h : OwnV w B T v vs) (hb : Below w.heap.size w w') : OwnV w' B T v vs := ownsRow_below h hb
theorem OwnV.len (h : OwnV w B T (.slice (some ⟨g, 0, none⟩) n c) vs) : vs.length = n := by
  rcases h.2 with ⟨hv, h0⟩ | ⟨g', cap, cur, hv, _⟩
  · cases hv
  · injection hv with _ e; exact e.symm
/-- What is owned stays owned where its block has not turned. -/
theorem OwnV.kept (h : OwnV w B T (.slice (some ⟨g, 0, none⟩) n c) vs) (hk : w'.heap[g]? = w.heap[g]?) : OwnV w' B T (.slice (some ⟨g, 0, none⟩) n c) vs := by
  refine ⟨h.1, ?_⟩
  rcases h.2 with hn | ⟨g', cap, cur, hv, hg, hh, r⟩
  · exact .inl hn
  · have e : g = g' := by injection hv with e1; injection e1 with e1; injection e1
    subst e
    exact .inr ⟨g, cap, cur, hv, hg, by rw [hk]; exact hh, r⟩
theorem OwnV.cell (h : OwnV w B T (.slice (some ⟨g, 0, none⟩) n c) vs) {k : Nat} (hk : k < n) :
    ∃ x, vs[k]? = some x ∧ w.cell? ⟨g, k, none⟩ = some x ∧ w.frozen? ⟨g, k, none⟩ = false ∧ B ≤ g ∧ g < w.heap.size := by
  have hl := h.len
  have hx : vs[k]? = some vs[k] := List.getElem?_eq_getElem (by omega)
  have hc := h.cells (g := g) rfl k _ hx
  rw [Go.WideShapes.add_plain, Nat.zero_add] at hc
  refine ⟨_, hx, hc, ?_, (h.lt g rfl).1, (h.lt g rfl).2⟩
  rcases h.2 with ⟨hv, h0⟩ | ⟨g', cap, cur, hv, hg, hh, _⟩
  · cases hv
  · injection hv with e1
    injection e1 with e1
    injection e1 with e1
    subst e1
    simp [World.frozen?, hh]
theorem OwnV.set (h : OwnV w B T (.slice (some ⟨g, 0, none⟩) n c) vs) {k : Nat} (hk : k < n) (x : Value) : OwnV (w.setCell ⟨g, k, none⟩ x) B T (.slice (some ⟨g, 0, none⟩) n c) (vs.set k x) := by
  have hl := h.len
  subst hl
  rcases h.2 with ⟨hv, h0⟩ | ⟨g', cap, cur, hv, hg, hh, hc, hm, hs, ht⟩
  · cases hv
  · injection hv with e1 e2 e3
    injection e1 with e1
    injection e1 with e1
    subst e1; subst e3
    refine ⟨by simp, .inr ⟨g, c, cur.setIfInBounds k x, by simp, hg, ?_, by simpa using hc, hm, by simpa using hs, ?_⟩⟩
    · simp [World.setCell, Array.getElem?_modify, hh]
    · rw [Nat.mul_one] at ht ⊢
      rw [List.length_set, Array.toList_setIfInBounds, List.take_set, ht]
end

theorem infoBool : (Tryd.prog.info? 4).map (fun i => (i.zero, i.size, i.bytes)) = some (some (.bool false), 1, 1) := by kernel_rfl
theorem madeCells_bools (n : Nat) : (madeCells (Value.bool false).cells (n * 1)).toList = List.replicate n (Value.bool false) := by
  apply List.ext_getElem
  · simp [madeCells]
  · intro i h1 h2
    simp [madeCells, Value.cells, Nat.mod_one]
theorem wpList_make_bools {w : World} {ops : Array Oper} {rest : List Oper} {o : Oper} {a : Act} {Q : Exit → Act → World → Prop} (hgd : o.guard = none) (l c : Operand) (ho : o.op = Op.makeSlice 80 l c)
    (n : Nat) (hl : a.eval l = .int .i64 n) (hc : a.eval c = .int .i64 n) (hn : n ≤ 100000)
    (hK : ∀ w', OwnV w' w.heap.size 4 (.slice (some ⟨w.heap.size, 0, none⟩) n n) (List.replicate n (.bool false)) → Below w.heap.size w w' → wpList Tryd.prog ops Q rest (a.put o.dst (.slice (some ⟨w.heap.size, 0, none⟩) n n)) w') :
    wpList Tryd.prog ops Q (o :: rest) a w := by
  obtain ⟨i0, hi, hz0, hz1, hz2⟩ := info_parts infoBool
  refine wpList_make_full w hgd l c 80 ho w.heap.size 4 i0 (.bool false) 1 Tryd.underlying80 hi hz0 hz1 .i64 .i64 n n n hl hc rfl rfl (by rw [hz2]; omega) (by unfold maxLen; omega) (Nat.le_refl _) ?_
  intro w' h1 h2
  refine hK w' ?_ ((Below.refl _ _).grown h2 (Nat.le_refl _) (fun k hk => by cases hk))
  unfold OwnV
  rw [List.length_replicate, ← madeCells_bools]
  exact h1

/-- The map of a code as a block: its cells can be written. -/
def DiaB (w : World) (P : Nat) (f : Int) (vL vA vX vS vO : Value) : Prop := ∃ T, w.heap[P]? = some (.cells #[.int .i64 f, vL, vA, vX, vS, vO] T (0, 0))
section
variable {w w' : World} {P : Nat} {f : Int} {vL vA vX vS vO : Value}
theorem DiaB.dia (h : DiaB w P f vL vA vX vS vO) : Dia w P f vL vA vX vS vO := by
  obtain ⟨T, h⟩ := h
  refine ⟨?_, Lib.cell_of_heap h 0, Lib.cell_of_heap h 1, Lib.cell_of_heap h 2, Lib.cell_of_heap h 3, Lib.cell_of_heap h 4, Lib.cell_of_heap h 5⟩
  rcases Nat.lt_or_ge P w.heap.size with q | q
  · exact q
  · rw [Array.getElem?_eq_none q] at h; cases h
theorem DiaB.frozen (h : DiaB w P f vL vA vX vS vO) (k : Nat) : w.frozen? ⟨P, k, none⟩ = false := by
  obtain ⟨T, h⟩ := h
  simp [World.frozen?, h]
theorem DiaB.kept (h : DiaB w P f vL vA vX vS vO) (hk : w'.heap[P]? = w.heap[P]?) : DiaB w' P f vL vA vX vS vO := by
  obtain ⟨T, h⟩ := h
  exact ⟨T, by rw [hk]; exact h⟩
theorem DiaB.setA (h : DiaB w P f vL vA vX vS vO) (v : Value) : DiaB (w.setCell ⟨P, 2, none⟩ v) P f vL v vX vS vO := by
  obtain ⟨T, h⟩ := h
  exact ⟨T, by simp [World.setCell, Array.getElem?_modify, h]⟩
theorem DiaB.setX (h : DiaB w P f vL vA vX vS vO) (v : Value) : DiaB (w.setCell ⟨P, 3, none⟩ v) P f vL vA v vS vO := by
  obtain ⟨T, h⟩ := h
  exact ⟨T, by simp [World.setCell, Array.getElem?_modify, h]⟩
theorem DiaB.setS (h : DiaB w P f vL vA vX vS vO) (v : Value) : DiaB (w.setCell ⟨P, 4, none⟩ v) P f vL vA vX v vO := by
  obtain ⟨T, h⟩ := h
  exact ⟨T, by simp [World.setCell, Array.getElem?_modify, h]⟩
theorem DiaB.setO (h : DiaB w P f vL vA vX vS vO) (v : Value) : DiaB (w.setCell ⟨P, 5, none⟩ v) P f vL vA vX vS v := by
  obtain ⟨T, h⟩ := h
  exact ⟨T, by simp [World.setCell, Array.getElem?_modify, h]⟩
end

/-- On which side of the axis the edges lie. -/
def aboveL (ls : List Lt) : List Bool := (List.range ls.length).map fun k => decide (cntB isPass (ls.take (k + 1)) % 2 = 0)

end Go.Proofs.YtnommkbcffikaaaDoor
