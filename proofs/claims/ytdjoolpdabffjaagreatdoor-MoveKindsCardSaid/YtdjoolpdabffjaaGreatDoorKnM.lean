/-
  known() of layer 3's laws: run virtually, by the kernel; true in every world in which the words of the moves lie where the program laid them.
-/
import Derived.Test.YtdjoolpdabffjaaGreatDoorDoorM
namespace Go.Proofs.YtdjoolpdabffjaaGreatDoor
open Go.RowKit

set_option maxRecDepth 1000000 in
theorem known_run : Vr.outV (Vr.calls Tryz.prog 9 3000 60 9 [] { n := 9, h := Vr.startT 9 [(0, spellB)] }) = some (.bool true) := by kernel_rfl

set_option maxRecDepth 100000 in
theorem mixed : Tryz.prog.follows .mixedOrders = true := by kernel_rfl

theorem known_calls {w : World} (h : Vr.TabAt w 0 spellB) :
    Calls Tryz.prog 9 #[] w fun e w' => e = .returned (.bool true) ∧ Below w.heap.size w w' :=
  Vr.run_start (P := Tryz.prog) (G := 9) (F := 3000) (n := 60) (tabs := [(0, spellB)]) (f := 9) (args := []) (v := .bool true) mixed (by decide) (by kernel_rfl) known_run rfl rfl (fun p hp => by
    rw [List.mem_singleton.1 hp]
    exact h)

end Go.Proofs.YtdjoolpdabffjaaGreatDoor
