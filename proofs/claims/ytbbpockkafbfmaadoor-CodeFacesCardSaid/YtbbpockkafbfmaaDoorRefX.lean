/-
  The reference's Check answers as the program's.
-/
import Derived.Test.YtbbpockkafbfmaaDoorRefL
import Derived.Test.YtbbpockkafbfmaaDoorAxW
namespace Go.Proofs.YtbbpockkafbfmaaDoor
open Go.RowKit

theorem refCheck_full (f : Int) (A : Option Addr) (n c : Nat) (ls : List Lt) (w : World) (hL : LS w A n ls) :
    Calls Tryd.prog 12 #[.agg #[.int .i64 f, .slice A n c]] w fun e w' => e = .returned (.int .i64 (checkE f ls)) ∧ Below w.heap.size w w' := by
  refine refCheck_calls f A n c ls w hL (fun st pt hg W hW => ?_)
  refine refAxis_calls hg f A c W ?_
  show LS W A ls.length ls
  rw [hL.1]
  exact hL.below hW

end Go.Proofs.YtbbpockkafbfmaaDoor
