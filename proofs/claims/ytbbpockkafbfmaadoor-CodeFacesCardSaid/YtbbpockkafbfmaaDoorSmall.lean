/-
  What the laws of layer 2 share.
-/
import Derived.Test.YtbbpockkafbfmaaDoorKn3
namespace Go.Proofs.YtbbpockkafbfmaaDoor
open Go.RowKit

theorem small_calls (f : Int) (A : Option Addr) (n c : Nat) (b : Bool) (w : World) (hb : decide ((n : Int) ≤ 60) = b) :
    Calls Tryd.prog 11 #[.agg #[.int .i64 f, .slice A n c]] w fun e w' => e = .returned (.bool b) ∧ Below w.heap.size w w' := by
  have HB0 : Hid (Below w.heap.size w (w.alloc (.cells #[.int .i64 f, .slice A n c] 33))) := (Below.refl _ _).alloc (Nat.le_refl _) _
  have HB := Lib.hid hb
  clear hb
  go_enter Tryd.func11, Tryd.ntmps11
  go_wp2_with fail
  go_ret
  exact ⟨ret_bool2 HB.out, HB0.out⟩

/-- A code in a variable, and what has happened since. -/
def CkB (P : Nat) (f : Int) (v : Value) (V w' : World) : Prop := w'.cell? ⟨P, 0, none⟩ = some (.int .i64 f) ∧ w'.cell? ⟨P, 1, none⟩ = some v ∧ Below V.heap.size V w'
theorem CkB.of {P : Nat} {f : Int} {v : Value} {V w' : World} (hP : P < V.heap.size) (h : CkB P f v V V) (hw : Below V.heap.size V w') : CkB P f v V w' :=
  ⟨(hw.cell (p := ⟨P, 0, none⟩) hP).trans h.1, (hw.cell (p := ⟨P, 1, none⟩) hP).trans h.2.1, hw⟩
theorem CkB.last {P : Nat} {f : Int} {v : Value} {V w' : World} (h : CkB P f v V w') : Below V.heap.size V w' := h.2.2

theorem LS.nil (w : World) (A : Option Addr) : LS w A 0 [] := ⟨rfl, fun h => absurd h (by omega)⟩
end Go.Proofs.YtbbpockkafbfmaaDoor
