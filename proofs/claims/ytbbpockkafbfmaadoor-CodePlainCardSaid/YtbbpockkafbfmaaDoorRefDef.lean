/-
  What the reference asks of each letter.
-/
import Derived.Test.YtbbpockkafbfmaaDoorLet3
namespace Go.Proofs.YtbbpockkafbfmaaDoor
open Go.RowKit

def sameP (l o : Lt) : Bool := decide (o.kind = l.kind) && decide (o.gate = l.gate) && decide (o.rank = l.rank)
def pairP (l o : Lt) : Bool := decide (o.kind = l.kind) && decide (o.id = l.id) && decide (o.sign = l.sign) && decide (o.over ≠ l.over)
/-- The reference's conditions of a letter. -/
def refL (f : Int) (ls : List Lt) (l : Lt) : Prop :=
  (l.kind = 1 ∧ l.id = 0 ∧ l.sign = 0 ∧ l.over = false ∧ 0 ≤ l.gate ∧ l.gate ≤ f ∧ 1 ≤ l.rank ∧ l.rank ≤ cntB (inGate l.gate) ls ∧ cntB (sameP l) ls = 1) ∨
  (l.kind = 2 ∧ l.gate = 0 ∧ l.rank = 0 ∧ (l.sign = 1 ∨ l.sign = -1) ∧ 1 ≤ l.id ∧ l.id ≤ cntK 2 ls / 2 ∧ cntB (pairP l) ls = 1 ∧ cntB (isId l.id) ls = 2)

end Go.Proofs.YtbbpockkafbfmaaDoor
