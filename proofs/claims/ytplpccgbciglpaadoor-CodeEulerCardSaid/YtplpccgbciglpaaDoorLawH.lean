/-
  What the laws of layer 2 share.
-/
import Derived.Test.YtplpccgbciglpaaDoorKn3
namespace Go.Proofs.YtplpccgbciglpaaDoor
open Go.RowKit

theorem small_calls (f : Int) (A : Option Addr) (n c : Nat) (b : Bool) (w : World) (hb : decide ((n : Int) ≤ 60) = b) :
    Calls Tryd.prog 7 #[.agg #[.int .i64 f, .slice A n c]] w fun e w' => e = .returned (.bool b) ∧ Below w.heap.size w w' := by
  have HB0 : Hid (Below w.heap.size w (w.alloc (.cells #[.int .i64 f, .slice A n c] 24))) := (Below.refl _ _).alloc (Nat.le_refl _) _
  have HB := Lib.hid hb
  clear hb
  go_enter Tryd.func7, Tryd.ntmps7
  go_wp2_with fail
  go_ret
  exact ⟨ret_bool2 HB.out, HB0.out⟩

/-- A code in a variable, and what has happened since. -/
def CkB (P : Nat) (f : Int) (v : Value) (V w' : World) : Prop := w'.cell? ⟨P, 0, none⟩ = some (.int .i64 f) ∧ w'.cell? ⟨P, 1, none⟩ = some v ∧ Below V.heap.size V w'
theorem CkB.of {P : Nat} {f : Int} {v : Value} {V w' : World} (hP : P < V.heap.size) (h : CkB P f v V V) (hw : Below V.heap.size V w') : CkB P f v V w' :=
  ⟨(hw.cell (p := ⟨P, 0, none⟩) hP).trans h.1, (hw.cell (p := ⟨P, 1, none⟩) hP).trans h.2.1, hw⟩
theorem CkB.last {P : Nat} {f : Int} {v : Value} {V w' : World} (h : CkB P f v V w') : Below V.heap.size V w' := h.2.2

theorem LS.nil (w : World) (A : Option Addr) : LS w A 0 [] := ⟨rfl, fun h => absurd h (by omega)⟩
theorem codeEq_yes (f : Int) (A1 A2 : Option Addr) (n m c1 c2 : Nat) (ls : List Lt) (w : World) (h1 : LS w A1 n ls) (h2 : LS w A2 m ls) (hn : n ≤ 1000000) :
    Calls Tryd.prog 21 #[.agg #[.int .i64 f, .slice A1 n c1], .agg #[.int .i64 f, .slice A2 m c2]] w fun e w' => e = .returned (.bool true) ∧ Below w.heap.size w w' := by
  refine (codeEqual_calls f f A1 A2 n m c1 c2 ls ls w h1 h2 hn).mono ?_
  rintro e w' ⟨b, rfl, hb, hw⟩
  rw [hb.2 ⟨rfl, rfl⟩]
  exact ⟨rfl, hw⟩

end Go.Proofs.YtplpccgbciglpaaDoor
