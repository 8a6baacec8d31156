/-
  A code in a variable of its own; the walk of the law's circle.
-/
import Derived.Test.YtbbpockkafbfmaaDoorOther
import Derived.Test.YtbbpockkafbfmaaDoorDraw
import Derived.Deep.RegionHeld3
namespace Go.Proofs.YtbbpockkafbfmaaDoor
open Go.RowKit

/-- The code in the variable at P. -/
def CBox (W : World) (P : Nat) (f : Int) (A : Option Addr) (n c : Nat) (ls : List Lt) : Prop :=
  P < W.heap.size ∧ W.cell? ⟨P, 0, none⟩ = some (.int .i64 f) ∧ W.cell? ⟨P, 1, none⟩ = some (.slice A n c) ∧ LS W A n ls ∧ (∀ b off, A = some ⟨b, off, none⟩ → b < W.heap.size)
theorem CBox.below {W W' : World} {P : Nat} {f : Int} {A : Option Addr} {n c : Nat} {ls : List Lt} (h : CBox W P f A n c ls) (hb : Below W.heap.size W W') : CBox W' P f A n c ls :=
  ⟨Nat.lt_of_lt_of_le h.1 hb.size, (hb.cell (p := ⟨P, 0, none⟩) h.1).trans h.2.1, (hb.cell (p := ⟨P, 1, none⟩) h.1).trans h.2.2.1, h.2.2.2.1.below hb, fun b off e => Nat.lt_of_lt_of_le (h.2.2.2.2 b off e) hb.size⟩

def ltVs (l : Lt) : List Value := [.int .i64 l.kind, .int .i64 l.gate, .int .i64 l.rank, .int .i64 l.id, .int .i64 l.sign, .bool l.over]
theorem ls_four (w : World) (a b c d : Lt) (T : TypeId) : LS (w.alloc (.cells #[.int .i64 a.kind, .int .i64 a.gate, .int .i64 a.rank, .int .i64 a.id, .int .i64 a.sign, .bool a.over, .int .i64 b.kind, .int .i64 b.gate, .int .i64 b.rank, .int .i64 b.id, .int .i64 b.sign, .bool b.over,
    .int .i64 c.kind, .int .i64 c.gate, .int .i64 c.rank, .int .i64 c.id, .int .i64 c.sign, .bool c.over, .int .i64 d.kind, .int .i64 d.gate, .int .i64 d.rank, .int .i64 d.id, .int .i64 d.sign, .bool d.over] T)) (some ⟨w.heap.size, 0, none⟩) 4 [a, b, c, d] := by
  have h := heap_alloc_new w (.cells #[.int .i64 a.kind, .int .i64 a.gate, .int .i64 a.rank, .int .i64 a.id, .int .i64 a.sign, .bool a.over, .int .i64 b.kind, .int .i64 b.gate, .int .i64 b.rank, .int .i64 b.id, .int .i64 b.sign, .bool b.over,
    .int .i64 c.kind, .int .i64 c.gate, .int .i64 c.rank, .int .i64 c.id, .int .i64 c.sign, .bool c.over, .int .i64 d.kind, .int .i64 d.gate, .int .i64 d.rank, .int .i64 d.id, .int .i64 d.sign, .bool d.over] T)
  refine ⟨rfl, fun _ => ⟨w.heap.size, 0, rfl, by simp, fun k l hk => ?_⟩⟩
  have h2 : k = 0 ∨ k = 1 ∨ k = 2 ∨ k = 3 := by
    have : k < [a, b, c, d].length := by
      rcases Nat.lt_or_ge k [a, b, c, d].length with q | q
      · exact q
      · rw [List.getElem?_eq_none q] at hk; cases hk
    simp at this
    omega
  rcases h2 with rfl | rfl | rfl | rfl
  · injection hk with hk
    subst hk
    exact ⟨Lib.cell_of_heap h 0, Lib.cell_of_heap h 1, Lib.cell_of_heap h 2, Lib.cell_of_heap h 3, Lib.cell_of_heap h 4, Lib.cell_of_heap h 5⟩
  · injection hk with hk
    subst hk
    exact ⟨Lib.cell_of_heap h 6, Lib.cell_of_heap h 7, Lib.cell_of_heap h 8, Lib.cell_of_heap h 9, Lib.cell_of_heap h 10, Lib.cell_of_heap h 11⟩
  · injection hk with hk
    subst hk
    exact ⟨Lib.cell_of_heap h 12, Lib.cell_of_heap h 13, Lib.cell_of_heap h 14, Lib.cell_of_heap h 15, Lib.cell_of_heap h 16, Lib.cell_of_heap h 17⟩
  · injection hk with hk
    subst hk
    exact ⟨Lib.cell_of_heap h 18, Lib.cell_of_heap h 19, Lib.cell_of_heap h 20, Lib.cell_of_heap h 21, Lib.cell_of_heap h 22, Lib.cell_of_heap h 23⟩
theorem CBox.made {w : World} {f : Int} {A : Option Addr} {n c : Nat} {ls : List Lt} (h : LS w A n ls) (hA : ∀ b off, A = some ⟨b, off, none⟩ → b < w.heap.size) (T : TypeId) : CBox (w.alloc (.cells #[.int .i64 f, .slice A n c] T)) w.heap.size f A n c ls := by
  have hh := heap_alloc_new w (.cells #[.int .i64 f, .slice A n c] T)
  have hb : Below w.heap.size w (w.alloc (.cells #[.int .i64 f, .slice A n c] T)) := (Below.refl _ _).alloc (Nat.le_refl _) _
  exact ⟨by simp, Lib.cell_of_heap hh 0, Lib.cell_of_heap hh 1, h.below hb, fun b off e => Nat.lt_of_lt_of_le (hA b off e) hb.size⟩

set_option maxHeartbeats 1000000 in
theorem lawCircle_calls (w : World) : Calls Tryd.prog 41 #[] w fun e w' => ∃ A c, e = .returned (.agg #[.int .i64 2, .slice A 2 c]) ∧ (∀ b off, A = some ⟨b, off, none⟩ → b < w'.heap.size) ∧ LS w' A 2 [⟨1, 0, 1, 0, 0, false⟩, ⟨1, 1, 1, 0, 0, false⟩] ∧ Below w.heap.size w w' := by
  go_enter Tryd.func41, Tryd.ntmps41
  go_wp2_with fail
  obtain ⟨B, hB⟩ : ∃ B, w.heap.size = B := ⟨_, rfl⟩
  have HH := Lib.hid (heap_alloc_new w (.cells #[.int .i64 0, .slice none 0 0] 33))
  have HW : Hid (Below w.heap.size w (w.alloc (.cells #[.int .i64 0, .slice none 0 0] 33))) := (Below.refl _ _).alloc (Nat.le_refl _) _
  have hBs : B < (w.alloc (.cells #[.int .i64 0, .slice none 0 0] 33)).heap.size := by rw [← hB]; simp
  obtain ⟨W0, hW0⟩ : ∃ W0, w.alloc (.cells #[.int .i64 0, .slice none 0 0] 33) = W0 := ⟨_, rfl⟩
  rw [hW0] at HH HW hBs ⊢
  rw [hB] at HH ⊢
  refine (lawPass_calls 0 1 W0).mono ?_
  rintro e w1 ⟨rfl, hb1⟩
  unfold Lt.val
  go_wp2_with fail
  refine (lawPass_calls 1 1 w1).mono ?_
  rintro e w2 ⟨rfl, hb2⟩
  unfold Lt.val
  have hb02 : Below W0.heap.size W0 w2 := hb1.trans (hb2.mono hb1.size)
  have HB := Lib.hid hb02
  have hh2 : w2.heap[B]? = some (.cells #[.int .i64 0, .slice none 0 0] 33 (0, 0)) := (hb02.block B hBs).trans HH.out
  have hB2 : B < w2.heap.size := Nat.lt_of_lt_of_le hBs hb02.size
  have c0 : w2.cell? ⟨B, 0, none⟩ = some (.int .i64 0) := Lib.cell_of_heap hh2 0
  have c1 : w2.cell? ⟨B, 1, none⟩ = some (.slice none 0 0) := Lib.cell_of_heap hh2 1
  have f0 : w2.frozen? ⟨B, 0, none⟩ = false := Lib.frozen_of_heap hh2 0
  have f1 : w2.frozen? ⟨B, 1, none⟩ = false := Lib.frozen_of_heap hh2 1
  have HB2 := Lib.hid hB2
  clear hb1 hb2 hb02 hh2
  go_wp2_with fail
  refine bodyPost_ret (v := .agg #[.int .i64 2, .slice (some ⟨w2.heap.size, 0, none⟩) 2 2]) (by simp [results, Tryd.results41, go_sem, c0, c1, hB2]) rfl ?_
  obtain ⟨V, hV⟩ : ∃ V, (w2.setCell ⟨B, 0, none⟩ (.int .i64 2)).setCell ⟨B, 1, none⟩ (.slice (some ⟨w2.heap.size, 0, none⟩) 2 2) = V := ⟨_, rfl⟩
  have hVs : V.heap.size = w2.heap.size := by rw [← hV]; simp
  have hbw : Below w.heap.size w V := by
    rw [← hV]
    exact ((HW.out.trans (HB.out.mono HW.out.size)).setCell (p := ⟨B, 0, none⟩) (by rw [hB]; exact Nat.le_refl _) _).setCell (p := ⟨B, 1, none⟩) (by rw [hB]; exact Nat.le_refl _) _
  rw [hV, ← hVs]
  refine ⟨_, _, rfl, fun b off e => ?_, ls_two V ⟨1, 0, 1, 0, 0, false⟩ ⟨1, 1, 1, 0, 0, false⟩ 50, hbw.alloc (by have := hbw.size; omega) _⟩
  injection e with e
  injection e with e
  rw [← e]
  simp

end Go.Proofs.YtbbpockkafbfmaaDoor
