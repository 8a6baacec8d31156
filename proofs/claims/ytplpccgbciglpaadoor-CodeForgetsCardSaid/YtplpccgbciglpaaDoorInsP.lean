/-
  The walk of the reference's Place (out of InsB).
-/
import Derived.Test.YtplpccgbciglpaaDoorInsA
import Derived.Deep.RegionHeld3
namespace Go.Proofs.YtplpccgbciglpaaDoor
open Go.RowKit

section
variable {P : Program} {ops : Array Oper} {Q : Exit → Act → World → Prop} {md : Region.Mode} {S : World → Prop} {fuel : Nat} {listed : Array Bool} {a : Act} {w : World}
theorem takeW (i : Nat) (oi : Oper) (d : Option Tmp) (v : Value) (hy : ∀ w, S w → (execOp a.eval oi).run P w = .ok (.value v) w) (hS : S w) (h : wpAnyH P md ops Q S fuel (listed.setIfInBounds i true) (a.put d v) w)
    (hd : oi.dst = d := by rfl) (hw : Region.wanted oi (yielded ops a.tmps) = true := by rfl) (hi : ops[i]? = some oi := by rfl) (hs : Region.noSelect ops = true := by kernel_rfl) (hf : Region.free md ops listed i = true := by kernel_rfl)
    (hr : (Region.ready md ops listed).contains i = true := by kernel_rfl) (hQ : ∀ c a w, Q (.panic c) (a.put d v) w → Q (.panic c) a w := by exact fun _ _ _ h => h) : wpAnyH P md ops Q S (fuel + 1) listed a w := by
  subst hd
  exact wpAnyH_take hi hs hf hr hQ (.inl ⟨hw, hy⟩) hS h
theorem takeU (i : Nat) (oi : Oper) (d : Option Tmp) (hS : S w) (h : wpAnyH P md ops Q S fuel (listed.setIfInBounds i true) (a.put d undef) w)
    (hd : oi.dst = d := by rfl) (hw : Region.wanted oi (yielded ops a.tmps) = false := by rfl) (hi : ops[i]? = some oi := by rfl) (hs : Region.noSelect ops = true := by kernel_rfl) (hf : Region.free md ops listed i = true := by kernel_rfl)
    (hr : (Region.ready md ops listed).contains i = true := by kernel_rfl) (hQ : ∀ c a w, Q (.panic c) (a.put d undef) w → Q (.panic c) a w := by exact fun _ _ _ h => h) : wpAnyH P md ops Q S (fuel + 1) listed a w := by
  subst hd
  exact wpAnyH_take hi hs hf hr hQ (.inr ⟨hw, rfl⟩) hS h
end
def plcO0 : Oper := { dst := some 5, op := Go.Op.fieldAddr 41 (Go.Operand.tmp 3) 0, type := 0, pos := "ref.go:475", after := #[], guard := none }
def plcO1 : Oper := { dst := some 6, op := Go.Op.load 3 (Go.Operand.tmp 5), type := 3, pos := "ref.go:475", after := #[{ on := 0, ground := Go.Ground.data }], guard := none }
def plcO2 : Oper := { dst := some 7, op := Go.Op.binOp Go.BinOp.geq 3 (Go.Operand.tmp 6) (Go.Operand.const (Go.Value.int Go.IntKind.i64 0)) 3, type := 4, pos := "ref.go:475", after := #[{ on := 1, ground := Go.Ground.data }], guard := none }
def plcO3 : Oper := { dst := some 8, op := Go.Op.move (Go.Operand.tmp 7), type := 4, pos := "ref.go:475", after := #[{ on := 2, ground := Go.Ground.data }], guard := none }
def plcO4 : Oper := { dst := some 9, op := Go.Op.fieldAddr 41 (Go.Operand.tmp 3) 0, type := 0, pos := "ref.go:475", after := #[{ on := 3, ground := Go.Ground.guard }], guard := some (3, true) }
def plcO5 : Oper := { dst := some 10, op := Go.Op.load 3 (Go.Operand.tmp 9), type := 3, pos := "ref.go:475", after := #[{ on := 4, ground := Go.Ground.data }, { on := 3, ground := Go.Ground.guard }], guard := some (3, true) }
def plcO6 : Oper := { dst := some 11, op := Go.Op.fieldAddr 24 (Go.Operand.tmp 2) 0, type := 0, pos := "ref.go:475", after := #[{ on := 3, ground := Go.Ground.guard }], guard := some (3, true) }
def plcO7 : Oper := { dst := some 12, op := Go.Op.load 3 (Go.Operand.tmp 11), type := 3, pos := "ref.go:475", after := #[{ on := 6, ground := Go.Ground.data }, { on := 3, ground := Go.Ground.guard }], guard := some (3, true) }
def plcO8 : Oper := { dst := some 13, op := Go.Op.binOp Go.BinOp.leq 3 (Go.Operand.tmp 10) (Go.Operand.tmp 12) 3, type := 4, pos := "ref.go:475", after := #[{ on := 5, ground := Go.Ground.data }, { on := 7, ground := Go.Ground.data }, { on := 3, ground := Go.Ground.guard }], guard := some (3, true) }
def plcO9 : Oper := { dst := some 14, op := Go.Op.pick (Go.Operand.tmp 8) (Go.Operand.tmp 13) (Go.Operand.const (Go.Value.bool false)), type := 4, pos := "ref.go:475", after := #[{ on := 3, ground := Go.Ground.data }, { on := 8, ground := Go.Ground.data }], guard := none }
def plcO10 : Oper := { dst := some 15, op := Go.Op.move (Go.Operand.tmp 14), type := 4, pos := "ref.go:475", after := #[{ on := 9, ground := Go.Ground.data }, { on := 3, ground := Go.Ground.chain }], guard := none }
def plcO11 : Oper := { dst := some 16, op := Go.Op.fieldAddr 41 (Go.Operand.tmp 3) 1, type := 0, pos := "ref.go:475", after := #[{ on := 10, ground := Go.Ground.guard }], guard := some (10, true) }
def plcO12 : Oper := { dst := some 17, op := Go.Op.load 3 (Go.Operand.tmp 16), type := 3, pos := "ref.go:475", after := #[{ on := 11, ground := Go.Ground.data }, { on := 10, ground := Go.Ground.guard }], guard := some (10, true) }
def plcO13 : Oper := { dst := some 18, op := Go.Op.binOp Go.BinOp.geq 3 (Go.Operand.tmp 17) (Go.Operand.const (Go.Value.int Go.IntKind.i64 0)) 3, type := 4, pos := "ref.go:475", after := #[{ on := 12, ground := Go.Ground.data }, { on := 10, ground := Go.Ground.guard }], guard := some (10, true) }
def plcO14 : Oper := { dst := some 19, op := Go.Op.pick (Go.Operand.tmp 15) (Go.Operand.tmp 18) (Go.Operand.const (Go.Value.bool false)), type := 4, pos := "ref.go:475", after := #[{ on := 10, ground := Go.Ground.data }, { on := 13, ground := Go.Ground.data }], guard := none }
def plcO15 : Oper := { dst := some 20, op := Go.Op.move (Go.Operand.tmp 19), type := 4, pos := "ref.go:475", after := #[{ on := 14, ground := Go.Ground.data }, { on := 10, ground := Go.Ground.chain }], guard := none }
def plcO16 : Oper := { dst := some 21, op := Go.Op.fieldAddr 41 (Go.Operand.tmp 3) 1, type := 0, pos := "ref.go:475", after := #[{ on := 15, ground := Go.Ground.guard }], guard := some (15, true) }
def plcO17 : Oper := { dst := some 22, op := Go.Op.load 3 (Go.Operand.tmp 21), type := 3, pos := "ref.go:475", after := #[{ on := 16, ground := Go.Ground.data }, { on := 15, ground := Go.Ground.guard }], guard := some (15, true) }
def plcO18 : Oper := { dst := some 23, op := Go.Op.load 24 (Go.Operand.tmp 2), type := 24, pos := "ref.go:475", after := #[{ on := 15, ground := Go.Ground.guard }], guard := some (15, true) }
def plcO19 : Oper := { dst := some 24, op := Go.Op.fieldAddr 41 (Go.Operand.tmp 3) 0, type := 0, pos := "ref.go:475", after := #[{ on := 15, ground := Go.Ground.guard }], guard := some (15, true) }
def plcO20 : Oper := { dst := some 25, op := Go.Op.load 3 (Go.Operand.tmp 24), type := 3, pos := "ref.go:475", after := #[{ on := 19, ground := Go.Ground.data }, { on := 15, ground := Go.Ground.guard }], guard := some (15, true) }
def plcO21 : Oper := { dst := some 26, op := Go.Op.call { callee := Go.Callee.value (Go.Operand.func 47), args := #[Go.Operand.tmp 23, Go.Operand.tmp 25], argTypes := #[24, 3] }, type := 3, pos := "ref.go:475", after := #[{ on := 18, ground := Go.Ground.data }, { on := 20, ground := Go.Ground.data }, { on := 15, ground := Go.Ground.chain }, { on := 15, ground := Go.Ground.guard }], guard := some (15, true) }
def plcO22 : Oper := { dst := some 27, op := Go.Op.binOp Go.BinOp.leq 3 (Go.Operand.tmp 22) (Go.Operand.tmp 26) 3, type := 4, pos := "ref.go:475", after := #[{ on := 17, ground := Go.Ground.data }, { on := 21, ground := Go.Ground.data }, { on := 15, ground := Go.Ground.guard }], guard := some (15, true) }
def plcO23 : Oper := { dst := some 28, op := Go.Op.pick (Go.Operand.tmp 20) (Go.Operand.tmp 27) (Go.Operand.const (Go.Value.bool false)), type := 4, pos := "ref.go:475", after := #[{ on := 15, ground := Go.Ground.data }, { on := 22, ground := Go.Ground.data }], guard := none }
def plcO24 : Oper := { dst := some 4, op := Go.Op.assign (Go.Operand.tmp 28), type := 4, pos := "ref.go:475", after := #[{ on := 23, ground := Go.Ground.data }, { on := 21, ground := Go.Ground.chain }, { on := 0, ground := Go.Ground.phase }, { on := 1, ground := Go.Ground.phase }, { on := 2, ground := Go.Ground.phase }, { on := 3, ground := Go.Ground.phase }, { on := 4, ground := Go.Ground.phase }, { on := 5, ground := Go.Ground.phase }, { on := 6, ground := Go.Ground.phase }, { on := 7, ground := Go.Ground.phase }, { on := 8, ground := Go.Ground.phase }, { on := 9, ground := Go.Ground.phase }, { on := 10, ground := Go.Ground.phase }, { on := 11, ground := Go.Ground.phase }, { on := 12, ground := Go.Ground.phase }, { on := 13, ground := Go.Ground.phase }, { on := 14, ground := Go.Ground.phase }, { on := 15, ground := Go.Ground.phase }, { on := 16, ground := Go.Ground.phase }, { on := 17, ground := Go.Ground.phase }, { on := 18, ground := Go.Ground.phase }, { on := 19, ground := Go.Ground.phase }, { on := 20, ground := Go.Ground.phase }, { on := 21, ground := Go.Ground.phase }, { on := 22, ground := Go.Ground.phase }, { on := 23, ground := Go.Ground.phase }], guard := none }
/-- The reference's place. -/
def placeB (f : Int) (ls : List Lt) (g v : Int) : Bool := decide (0 ≤ g) && decide (g ≤ f) && decide (0 ≤ v) && decide (v ≤ cntB (inGate g) ls)
/-- What the test of a place reads. -/
def PlS (P Q : Nat) (f : Int) (vc : Value) (g v : Int) (V w' : World) : Prop := w'.cell? ⟨P, 0, none⟩ = some (.int .i64 f) ∧ w'.cell? ⟨P, 1, none⟩ = some vc ∧ w'.cell? ⟨Q, 0, none⟩ = some (.int .i64 g) ∧ w'.cell? ⟨Q, 1, none⟩ = some (.int .i64 v) ∧ Below V.heap.size V w'
theorem PlS.of {P Q : Nat} {f : Int} {vc : Value} {g v : Int} {V w' : World} (h : PlS P Q f vc g v V V) (hP : P < V.heap.size) (hQ : Q < V.heap.size) (hw : Below V.heap.size V w') : PlS P Q f vc g v V w' :=
  ⟨(hw.cell (p := ⟨P, 0, none⟩) hP).trans h.1, (hw.cell (p := ⟨P, 1, none⟩) hP).trans h.2.1, (hw.cell (p := ⟨Q, 0, none⟩) hQ).trans h.2.2.1, (hw.cell (p := ⟨Q, 1, none⟩) hQ).trans h.2.2.2.1, hw⟩
theorem PlS.last {P Q : Nat} {f : Int} {vc : Value} {g v : Int} {V w' : World} (h : PlS P Q f vc g v V w') : Below V.heap.size V w' := h.2.2.2.2

set_option maxHeartbeats 4000000 in
set_option maxRecDepth 100000 in
theorem place_a (f g v q : Int) (A : Option Addr) (n c : Nat) (w : World) (hc : g < 0)
    (hIN : ∀ W, Below w.heap.size w W → Calls Tryd.prog 47 #[.agg #[.int .i64 f, .slice A n c], .int .i64 g] W fun e w' => e = .returned (.int .i64 q) ∧ Below W.heap.size W w') :
    Calls Tryd.prog 17 #[.agg #[.int .i64 f, .slice A n c], .agg #[.int .i64 g, .int .i64 v]] w fun e w' => e = .returned (.bool false) ∧ Below w.heap.size w w' := by
  have HIN := Lib.hid hIN
  have t1 : decide (0 ≤ g) = false := by rw [decide_eq_false_iff_not]; omega
  clear hc hIN
  go_enter Tryd.func17, Tryd.ntmps17
  go_wp2_with fail
  obtain ⟨V, hV⟩ : ∃ V, V = (w.alloc (.cells #[.int .i64 f, .slice A n c] 24)).alloc (.cells #[.int .i64 g, .int .i64 v] 41) := ⟨_, rfl⟩
  have hM := two_mem w _ _ V hV
  rw [← hV]
  clear hV
  obtain ⟨P, hP⟩ : ∃ P, P = w.heap.size := ⟨_, rfl⟩
  obtain ⟨Q, hQ⟩ : ∃ Q, Q = w.heap.size + 1 := ⟨_, rfl⟩
  have HB0 := Lib.hid hM.2.2.2
  have a0 : V.cell? ⟨P, 0, none⟩ = some (.int .i64 f) := by rw [hP]; exact Lib.cell_of_heap hM.1 0
  have a1 : V.cell? ⟨P, 1, none⟩ = some (.slice A n c) := by rw [hP]; exact Lib.cell_of_heap hM.1 1
  have a2 : V.cell? ⟨Q, 0, none⟩ = some (.int .i64 g) := by rw [hQ]; exact Lib.cell_of_heap hM.2.1 0
  have a3 : V.cell? ⟨Q, 1, none⟩ = some (.int .i64 v) := by rw [hQ]; exact Lib.cell_of_heap hM.2.1 1
  have hPV : P < V.heap.size := by have := hM.2.2.1; omega
  have hQV : Q < V.heap.size := by have := hM.2.2.1; omega
  rw [← hQ, ← hP]
  have HS1 : Hid (PlS P Q f (.slice A n c) g v V V) := ⟨a0, a1, a2, a3, Below.refl _ _⟩
  clear hP hQ hM
  refine wp_region_held_drew (S := (fun w' => w'.cell? ⟨P, 0, none⟩ = some (.int .i64 f) ∧ w'.cell? ⟨P, 1, none⟩ = some (.slice A n c) ∧ w'.cell? ⟨Q, 0, none⟩ = some (.int .i64 g) ∧ w'.cell? ⟨Q, 1, none⟩ = some (.int .i64 v) ∧ Below V.heap.size V w')) (by kernel_rfl) ?_ (fun hHeld => ?_)
  · exact HS1.out.of hPV hQV (Below.refl _ _).drew
  refine takeW 0 plcO0 (some 5) ?_ ?_ (by assumption) ?_
  rotate_left
  · (intro w hSw; dsimp only [plcO0] at hSw ⊢; go_simp <;> with_reducible rfl)
  try simp only [Act.put, List.setIfInBounds_toArray, List.set_cons_zero, List.set_cons_succ]
  refine takeW 1 plcO1 (some 6) ?_ ?_ (by assumption) ?_
  rotate_left
  · (intro w hSw; dsimp only [plcO1] at hSw ⊢; go_simp <;> with_reducible rfl)
  try simp only [Act.put, List.setIfInBounds_toArray, List.set_cons_zero, List.set_cons_succ]
  refine takeW 2 plcO2 (some 7) ?_ ?_ (by assumption) ?_
  rotate_left
  · (intro w hSw; dsimp only [plcO2] at hSw ⊢; go_simp <;> with_reducible rfl)
  try simp only [Act.put, List.setIfInBounds_toArray, List.set_cons_zero, List.set_cons_succ]
  refine takeW 3 plcO3 (some 8) ?_ ?_ (by assumption) ?_
  rotate_left
  · (intro w hSw; dsimp only [plcO3] at hSw ⊢; go_simp <;> with_reducible rfl)
  try simp only [Act.put, List.setIfInBounds_toArray, List.set_cons_zero, List.set_cons_succ]
  refine takeU 4 plcO4 (some 9) (by assumption) ?_
  try simp only [Act.put, List.setIfInBounds_toArray, List.set_cons_zero, List.set_cons_succ]
  refine takeU 5 plcO5 (some 10) (by assumption) ?_
  try simp only [Act.put, List.setIfInBounds_toArray, List.set_cons_zero, List.set_cons_succ]
  refine takeU 6 plcO6 (some 11) (by assumption) ?_
  try simp only [Act.put, List.setIfInBounds_toArray, List.set_cons_zero, List.set_cons_succ]
  refine takeU 7 plcO7 (some 12) (by assumption) ?_
  try simp only [Act.put, List.setIfInBounds_toArray, List.set_cons_zero, List.set_cons_succ]
  refine takeU 8 plcO8 (some 13) (by assumption) ?_
  try simp only [Act.put, List.setIfInBounds_toArray, List.set_cons_zero, List.set_cons_succ]
  refine takeW 9 plcO9 (some 14) ?_ ?_ (by assumption) ?_
  rotate_left
  · (intro w hSw; dsimp only [plcO9] at hSw ⊢; go_simp <;> with_reducible rfl)
  try simp only [Act.put, List.setIfInBounds_toArray, List.set_cons_zero, List.set_cons_succ]
  refine takeW 10 plcO10 (some 15) ?_ ?_ (by assumption) ?_
  rotate_left
  · (intro w hSw; dsimp only [plcO10] at hSw ⊢; go_simp <;> with_reducible rfl)
  try simp only [Act.put, List.setIfInBounds_toArray, List.set_cons_zero, List.set_cons_succ]
  refine takeU 11 plcO11 (some 16) (by assumption) ?_
  try simp only [Act.put, List.setIfInBounds_toArray, List.set_cons_zero, List.set_cons_succ]
  refine takeU 12 plcO12 (some 17) (by assumption) ?_
  try simp only [Act.put, List.setIfInBounds_toArray, List.set_cons_zero, List.set_cons_succ]
  refine takeU 13 plcO13 (some 18) (by assumption) ?_
  try simp only [Act.put, List.setIfInBounds_toArray, List.set_cons_zero, List.set_cons_succ]
  refine takeW 14 plcO14 (some 19) ?_ ?_ (by assumption) ?_
  rotate_left
  · (intro w hSw; dsimp only [plcO14] at hSw ⊢; go_simp <;> with_reducible rfl)
  try simp only [Act.put, List.setIfInBounds_toArray, List.set_cons_zero, List.set_cons_succ]
  refine takeW 15 plcO15 (some 20) ?_ ?_ (by assumption) ?_
  rotate_left
  · (intro w hSw; dsimp only [plcO15] at hSw ⊢; go_simp <;> with_reducible rfl)
  try simp only [Act.put, List.setIfInBounds_toArray, List.set_cons_zero, List.set_cons_succ]
  refine takeU 16 plcO16 (some 21) (by assumption) ?_
  try simp only [Act.put, List.setIfInBounds_toArray, List.set_cons_zero, List.set_cons_succ]
  refine takeU 17 plcO17 (some 22) (by assumption) ?_
  try simp only [Act.put, List.setIfInBounds_toArray, List.set_cons_zero, List.set_cons_succ]
  refine takeU 18 plcO18 (some 23) (by assumption) ?_
  try simp only [Act.put, List.setIfInBounds_toArray, List.set_cons_zero, List.set_cons_succ]
  refine takeU 19 plcO19 (some 24) (by assumption) ?_
  try simp only [Act.put, List.setIfInBounds_toArray, List.set_cons_zero, List.set_cons_succ]
  refine takeU 20 plcO20 (some 25) (by assumption) ?_
  try simp only [Act.put, List.setIfInBounds_toArray, List.set_cons_zero, List.set_cons_succ]
  refine takeU 21 plcO21 (some 26) (by assumption) ?_
  try simp only [Act.put, List.setIfInBounds_toArray, List.set_cons_zero, List.set_cons_succ]
  refine takeU 22 plcO22 (some 27) (by assumption) ?_
  try simp only [Act.put, List.setIfInBounds_toArray, List.set_cons_zero, List.set_cons_succ]
  refine takeW 23 plcO23 (some 28) ?_ ?_ (by assumption) ?_
  rotate_left
  · (intro w hSw; dsimp only [plcO23] at hSw ⊢; go_simp <;> with_reducible rfl)
  try simp only [Act.put, List.setIfInBounds_toArray, List.set_cons_zero, List.set_cons_succ]
  refine takeW 24 plcO24 (some 4) ?_ ?_ (by assumption) ?_
  rotate_left
  · (intro w hSw; dsimp only [plcO24] at hSw ⊢; go_simp <;> with_reducible rfl)
  try simp only [Act.put, List.setIfInBounds_toArray, List.set_cons_zero, List.set_cons_succ]
  refine wpAnyH_done (by kernel_rfl) ?_ _
  have hS : PlS P Q f (.slice A n c) g v V V.drew := by assumption
  have HSS := Lib.hid hS.last
  clear hS
  go_wp2_with fail
  go_ret
  exact ⟨rfl, HB0.out.trans (HSS.out.mono HB0.out.size)⟩

set_option maxHeartbeats 4000000 in
set_option maxRecDepth 100000 in
theorem place_b (f g v q : Int) (A : Option Addr) (n c : Nat) (w : World) (hc : 0 ≤ g ∧ f < g)
    (hIN : ∀ W, Below w.heap.size w W → Calls Tryd.prog 47 #[.agg #[.int .i64 f, .slice A n c], .int .i64 g] W fun e w' => e = .returned (.int .i64 q) ∧ Below W.heap.size W w') :
    Calls Tryd.prog 17 #[.agg #[.int .i64 f, .slice A n c], .agg #[.int .i64 g, .int .i64 v]] w fun e w' => e = .returned (.bool false) ∧ Below w.heap.size w w' := by
  have HIN := Lib.hid hIN
  have t1 : decide (0 ≤ g) = true := by rw [decide_eq_true_iff]; omega
  have t2 : decide (g ≤ f) = false := by rw [decide_eq_false_iff_not]; omega
  clear hc hIN
  go_enter Tryd.func17, Tryd.ntmps17
  go_wp2_with fail
  obtain ⟨V, hV⟩ : ∃ V, V = (w.alloc (.cells #[.int .i64 f, .slice A n c] 24)).alloc (.cells #[.int .i64 g, .int .i64 v] 41) := ⟨_, rfl⟩
  have hM := two_mem w _ _ V hV
  rw [← hV]
  clear hV
  obtain ⟨P, hP⟩ : ∃ P, P = w.heap.size := ⟨_, rfl⟩
  obtain ⟨Q, hQ⟩ : ∃ Q, Q = w.heap.size + 1 := ⟨_, rfl⟩
  have HB0 := Lib.hid hM.2.2.2
  have a0 : V.cell? ⟨P, 0, none⟩ = some (.int .i64 f) := by rw [hP]; exact Lib.cell_of_heap hM.1 0
  have a1 : V.cell? ⟨P, 1, none⟩ = some (.slice A n c) := by rw [hP]; exact Lib.cell_of_heap hM.1 1
  have a2 : V.cell? ⟨Q, 0, none⟩ = some (.int .i64 g) := by rw [hQ]; exact Lib.cell_of_heap hM.2.1 0
  have a3 : V.cell? ⟨Q, 1, none⟩ = some (.int .i64 v) := by rw [hQ]; exact Lib.cell_of_heap hM.2.1 1
  have hPV : P < V.heap.size := by have := hM.2.2.1; omega
  have hQV : Q < V.heap.size := by have := hM.2.2.1; omega
  rw [← hQ, ← hP]
  have HS1 : Hid (PlS P Q f (.slice A n c) g v V V) := ⟨a0, a1, a2, a3, Below.refl _ _⟩
  clear hP hQ hM
  refine wp_region_held_drew (S := (fun w' => w'.cell? ⟨P, 0, none⟩ = some (.int .i64 f) ∧ w'.cell? ⟨P, 1, none⟩ = some (.slice A n c) ∧ w'.cell? ⟨Q, 0, none⟩ = some (.int .i64 g) ∧ w'.cell? ⟨Q, 1, none⟩ = some (.int .i64 v) ∧ Below V.heap.size V w')) (by kernel_rfl) ?_ (fun hHeld => ?_)
  · exact HS1.out.of hPV hQV (Below.refl _ _).drew
  refine takeW 0 plcO0 (some 5) ?_ ?_ (by assumption) ?_
  rotate_left
  · (intro w hSw; dsimp only [plcO0] at hSw ⊢; go_simp <;> with_reducible rfl)
  try simp only [Act.put, List.setIfInBounds_toArray, List.set_cons_zero, List.set_cons_succ]
  refine takeW 1 plcO1 (some 6) ?_ ?_ (by assumption) ?_
  rotate_left
  · (intro w hSw; dsimp only [plcO1] at hSw ⊢; go_simp <;> with_reducible rfl)
  try simp only [Act.put, List.setIfInBounds_toArray, List.set_cons_zero, List.set_cons_succ]
  refine takeW 2 plcO2 (some 7) ?_ ?_ (by assumption) ?_
  rotate_left
  · (intro w hSw; dsimp only [plcO2] at hSw ⊢; go_simp <;> with_reducible rfl)
  try simp only [Act.put, List.setIfInBounds_toArray, List.set_cons_zero, List.set_cons_succ]
  refine takeW 3 plcO3 (some 8) ?_ ?_ (by assumption) ?_
  rotate_left
  · (intro w hSw; dsimp only [plcO3] at hSw ⊢; go_simp <;> with_reducible rfl)
  try simp only [Act.put, List.setIfInBounds_toArray, List.set_cons_zero, List.set_cons_succ]
  refine takeW 4 plcO4 (some 9) ?_ ?_ (by assumption) ?_
  rotate_left
  · (intro w hSw; dsimp only [plcO4] at hSw ⊢; go_simp <;> with_reducible rfl)
  try simp only [Act.put, List.setIfInBounds_toArray, List.set_cons_zero, List.set_cons_succ]
  refine takeW 5 plcO5 (some 10) ?_ ?_ (by assumption) ?_
  rotate_left
  · (intro w hSw; dsimp only [plcO5] at hSw ⊢; go_simp <;> with_reducible rfl)
  try simp only [Act.put, List.setIfInBounds_toArray, List.set_cons_zero, List.set_cons_succ]
  refine takeW 6 plcO6 (some 11) ?_ ?_ (by assumption) ?_
  rotate_left
  · (intro w hSw; dsimp only [plcO6] at hSw ⊢; go_simp <;> with_reducible rfl)
  try simp only [Act.put, List.setIfInBounds_toArray, List.set_cons_zero, List.set_cons_succ]
  refine takeW 7 plcO7 (some 12) ?_ ?_ (by assumption) ?_
  rotate_left
  · (intro w hSw; dsimp only [plcO7] at hSw ⊢; go_simp <;> with_reducible rfl)
  try simp only [Act.put, List.setIfInBounds_toArray, List.set_cons_zero, List.set_cons_succ]
  refine takeW 8 plcO8 (some 13) ?_ ?_ (by assumption) ?_
  rotate_left
  · (intro w hSw; dsimp only [plcO8] at hSw ⊢; go_simp <;> with_reducible rfl)
  try simp only [Act.put, List.setIfInBounds_toArray, List.set_cons_zero, List.set_cons_succ]
  refine takeW 9 plcO9 (some 14) ?_ ?_ (by assumption) ?_
  rotate_left
  · (intro w hSw; dsimp only [plcO9] at hSw ⊢; go_simp <;> with_reducible rfl)
  try simp only [Act.put, List.setIfInBounds_toArray, List.set_cons_zero, List.set_cons_succ]
  refine takeW 10 plcO10 (some 15) ?_ ?_ (by assumption) ?_
  rotate_left
  · (intro w hSw; dsimp only [plcO10] at hSw ⊢; go_simp <;> with_reducible rfl)
  try simp only [Act.put, List.setIfInBounds_toArray, List.set_cons_zero, List.set_cons_succ]
  refine takeU 11 plcO11 (some 16) (by assumption) ?_
  try simp only [Act.put, List.setIfInBounds_toArray, List.set_cons_zero, List.set_cons_succ]
  refine takeU 12 plcO12 (some 17) (by assumption) ?_
  try simp only [Act.put, List.setIfInBounds_toArray, List.set_cons_zero, List.set_cons_succ]
  refine takeU 13 plcO13 (some 18) (by assumption) ?_
  try simp only [Act.put, List.setIfInBounds_toArray, List.set_cons_zero, List.set_cons_succ]
  refine takeW 14 plcO14 (some 19) ?_ ?_ (by assumption) ?_
  rotate_left
  · (intro w hSw; dsimp only [plcO14] at hSw ⊢; go_simp <;> with_reducible rfl)
  try simp only [Act.put, List.setIfInBounds_toArray, List.set_cons_zero, List.set_cons_succ]
  refine takeW 15 plcO15 (some 20) ?_ ?_ (by assumption) ?_
  rotate_left
  · (intro w hSw; dsimp only [plcO15] at hSw ⊢; go_simp <;> with_reducible rfl)
  try simp only [Act.put, List.setIfInBounds_toArray, List.set_cons_zero, List.set_cons_succ]
  refine takeU 16 plcO16 (some 21) (by assumption) ?_
  try simp only [Act.put, List.setIfInBounds_toArray, List.set_cons_zero, List.set_cons_succ]
  refine takeU 17 plcO17 (some 22) (by assumption) ?_
  try simp only [Act.put, List.setIfInBounds_toArray, List.set_cons_zero, List.set_cons_succ]
  refine takeU 18 plcO18 (some 23) (by assumption) ?_
  try simp only [Act.put, List.setIfInBounds_toArray, List.set_cons_zero, List.set_cons_succ]
  refine takeU 19 plcO19 (some 24) (by assumption) ?_
  try simp only [Act.put, List.setIfInBounds_toArray, List.set_cons_zero, List.set_cons_succ]
  refine takeU 20 plcO20 (some 25) (by assumption) ?_
  try simp only [Act.put, List.setIfInBounds_toArray, List.set_cons_zero, List.set_cons_succ]
  refine takeU 21 plcO21 (some 26) (by assumption) ?_
  try simp only [Act.put, List.setIfInBounds_toArray, List.set_cons_zero, List.set_cons_succ]
  refine takeU 22 plcO22 (some 27) (by assumption) ?_
  try simp only [Act.put, List.setIfInBounds_toArray, List.set_cons_zero, List.set_cons_succ]
  refine takeW 23 plcO23 (some 28) ?_ ?_ (by assumption) ?_
  rotate_left
  · (intro w hSw; dsimp only [plcO23] at hSw ⊢; go_simp <;> with_reducible rfl)
  try simp only [Act.put, List.setIfInBounds_toArray, List.set_cons_zero, List.set_cons_succ]
  refine takeW 24 plcO24 (some 4) ?_ ?_ (by assumption) ?_
  rotate_left
  · (intro w hSw; dsimp only [plcO24] at hSw ⊢; go_simp <;> with_reducible rfl)
  try simp only [Act.put, List.setIfInBounds_toArray, List.set_cons_zero, List.set_cons_succ]
  refine wpAnyH_done (by kernel_rfl) ?_ _
  have hS : PlS P Q f (.slice A n c) g v V V.drew := by assumption
  have HSS := Lib.hid hS.last
  clear hS
  go_wp2_with fail
  go_ret
  exact ⟨rfl, HB0.out.trans (HSS.out.mono HB0.out.size)⟩

set_option maxHeartbeats 4000000 in
set_option maxRecDepth 100000 in
theorem place_c (f g v q : Int) (A : Option Addr) (n c : Nat) (w : World) (hc : (0 ≤ g ∧ g ≤ f) ∧ v < 0)
    (hIN : ∀ W, Below w.heap.size w W → Calls Tryd.prog 47 #[.agg #[.int .i64 f, .slice A n c], .int .i64 g] W fun e w' => e = .returned (.int .i64 q) ∧ Below W.heap.size W w') :
    Calls Tryd.prog 17 #[.agg #[.int .i64 f, .slice A n c], .agg #[.int .i64 g, .int .i64 v]] w fun e w' => e = .returned (.bool false) ∧ Below w.heap.size w w' := by
  have HIN := Lib.hid hIN
  have t1 : decide (0 ≤ g) = true := by rw [decide_eq_true_iff]; omega
  have t2 : decide (g ≤ f) = true := by rw [decide_eq_true_iff]; omega
  have t3 : decide (0 ≤ v) = false := by rw [decide_eq_false_iff_not]; omega
  clear hc hIN
  go_enter Tryd.func17, Tryd.ntmps17
  go_wp2_with fail
  obtain ⟨V, hV⟩ : ∃ V, V = (w.alloc (.cells #[.int .i64 f, .slice A n c] 24)).alloc (.cells #[.int .i64 g, .int .i64 v] 41) := ⟨_, rfl⟩
  have hM := two_mem w _ _ V hV
  rw [← hV]
  clear hV
  obtain ⟨P, hP⟩ : ∃ P, P = w.heap.size := ⟨_, rfl⟩
  obtain ⟨Q, hQ⟩ : ∃ Q, Q = w.heap.size + 1 := ⟨_, rfl⟩
  have HB0 := Lib.hid hM.2.2.2
  have a0 : V.cell? ⟨P, 0, none⟩ = some (.int .i64 f) := by rw [hP]; exact Lib.cell_of_heap hM.1 0
  have a1 : V.cell? ⟨P, 1, none⟩ = some (.slice A n c) := by rw [hP]; exact Lib.cell_of_heap hM.1 1
  have a2 : V.cell? ⟨Q, 0, none⟩ = some (.int .i64 g) := by rw [hQ]; exact Lib.cell_of_heap hM.2.1 0
  have a3 : V.cell? ⟨Q, 1, none⟩ = some (.int .i64 v) := by rw [hQ]; exact Lib.cell_of_heap hM.2.1 1
  have hPV : P < V.heap.size := by have := hM.2.2.1; omega
  have hQV : Q < V.heap.size := by have := hM.2.2.1; omega
  rw [← hQ, ← hP]
  have HS1 : Hid (PlS P Q f (.slice A n c) g v V V) := ⟨a0, a1, a2, a3, Below.refl _ _⟩
  clear hP hQ hM
  refine wp_region_held_drew (S := (fun w' => w'.cell? ⟨P, 0, none⟩ = some (.int .i64 f) ∧ w'.cell? ⟨P, 1, none⟩ = some (.slice A n c) ∧ w'.cell? ⟨Q, 0, none⟩ = some (.int .i64 g) ∧ w'.cell? ⟨Q, 1, none⟩ = some (.int .i64 v) ∧ Below V.heap.size V w')) (by kernel_rfl) ?_ (fun hHeld => ?_)
  · exact HS1.out.of hPV hQV (Below.refl _ _).drew
  refine takeW 0 plcO0 (some 5) ?_ ?_ (by assumption) ?_
  rotate_left
  · (intro w hSw; dsimp only [plcO0] at hSw ⊢; go_simp <;> with_reducible rfl)
  try simp only [Act.put, List.setIfInBounds_toArray, List.set_cons_zero, List.set_cons_succ]
  refine takeW 1 plcO1 (some 6) ?_ ?_ (by assumption) ?_
  rotate_left
  · (intro w hSw; dsimp only [plcO1] at hSw ⊢; go_simp <;> with_reducible rfl)
  try simp only [Act.put, List.setIfInBounds_toArray, List.set_cons_zero, List.set_cons_succ]
  refine takeW 2 plcO2 (some 7) ?_ ?_ (by assumption) ?_
  rotate_left
  · (intro w hSw; dsimp only [plcO2] at hSw ⊢; go_simp <;> with_reducible rfl)
  try simp only [Act.put, List.setIfInBounds_toArray, List.set_cons_zero, List.set_cons_succ]
  refine takeW 3 plcO3 (some 8) ?_ ?_ (by assumption) ?_
  rotate_left
  · (intro w hSw; dsimp only [plcO3] at hSw ⊢; go_simp <;> with_reducible rfl)
  try simp only [Act.put, List.setIfInBounds_toArray, List.set_cons_zero, List.set_cons_succ]
  refine takeW 4 plcO4 (some 9) ?_ ?_ (by assumption) ?_
  rotate_left
  · (intro w hSw; dsimp only [plcO4] at hSw ⊢; go_simp <;> with_reducible rfl)
  try simp only [Act.put, List.setIfInBounds_toArray, List.set_cons_zero, List.set_cons_succ]
  refine takeW 5 plcO5 (some 10) ?_ ?_ (by assumption) ?_
  rotate_left
  · (intro w hSw; dsimp only [plcO5] at hSw ⊢; go_simp <;> with_reducible rfl)
  try simp only [Act.put, List.setIfInBounds_toArray, List.set_cons_zero, List.set_cons_succ]
  refine takeW 6 plcO6 (some 11) ?_ ?_ (by assumption) ?_
  rotate_left
  · (intro w hSw; dsimp only [plcO6] at hSw ⊢; go_simp <;> with_reducible rfl)
  try simp only [Act.put, List.setIfInBounds_toArray, List.set_cons_zero, List.set_cons_succ]
  refine takeW 7 plcO7 (some 12) ?_ ?_ (by assumption) ?_
  rotate_left
  · (intro w hSw; dsimp only [plcO7] at hSw ⊢; go_simp <;> with_reducible rfl)
  try simp only [Act.put, List.setIfInBounds_toArray, List.set_cons_zero, List.set_cons_succ]
  refine takeW 8 plcO8 (some 13) ?_ ?_ (by assumption) ?_
  rotate_left
  · (intro w hSw; dsimp only [plcO8] at hSw ⊢; go_simp <;> with_reducible rfl)
  try simp only [Act.put, List.setIfInBounds_toArray, List.set_cons_zero, List.set_cons_succ]
  refine takeW 9 plcO9 (some 14) ?_ ?_ (by assumption) ?_
  rotate_left
  · (intro w hSw; dsimp only [plcO9] at hSw ⊢; go_simp <;> with_reducible rfl)
  try simp only [Act.put, List.setIfInBounds_toArray, List.set_cons_zero, List.set_cons_succ]
  refine takeW 10 plcO10 (some 15) ?_ ?_ (by assumption) ?_
  rotate_left
  · (intro w hSw; dsimp only [plcO10] at hSw ⊢; go_simp <;> with_reducible rfl)
  try simp only [Act.put, List.setIfInBounds_toArray, List.set_cons_zero, List.set_cons_succ]
  refine takeW 11 plcO11 (some 16) ?_ ?_ (by assumption) ?_
  rotate_left
  · (intro w hSw; dsimp only [plcO11] at hSw ⊢; go_simp <;> with_reducible rfl)
  try simp only [Act.put, List.setIfInBounds_toArray, List.set_cons_zero, List.set_cons_succ]
  refine takeW 12 plcO12 (some 17) ?_ ?_ (by assumption) ?_
  rotate_left
  · (intro w hSw; dsimp only [plcO12] at hSw ⊢; go_simp <;> with_reducible rfl)
  try simp only [Act.put, List.setIfInBounds_toArray, List.set_cons_zero, List.set_cons_succ]
  refine takeW 13 plcO13 (some 18) ?_ ?_ (by assumption) ?_
  rotate_left
  · (intro w hSw; dsimp only [plcO13] at hSw ⊢; go_simp <;> with_reducible rfl)
  try simp only [Act.put, List.setIfInBounds_toArray, List.set_cons_zero, List.set_cons_succ]
  refine takeW 14 plcO14 (some 19) ?_ ?_ (by assumption) ?_
  rotate_left
  · (intro w hSw; dsimp only [plcO14] at hSw ⊢; go_simp <;> with_reducible rfl)
  try simp only [Act.put, List.setIfInBounds_toArray, List.set_cons_zero, List.set_cons_succ]
  refine takeW 15 plcO15 (some 20) ?_ ?_ (by assumption) ?_
  rotate_left
  · (intro w hSw; dsimp only [plcO15] at hSw ⊢; go_simp <;> with_reducible rfl)
  try simp only [Act.put, List.setIfInBounds_toArray, List.set_cons_zero, List.set_cons_succ]
  refine takeU 16 plcO16 (some 21) (by assumption) ?_
  try simp only [Act.put, List.setIfInBounds_toArray, List.set_cons_zero, List.set_cons_succ]
  refine takeU 17 plcO17 (some 22) (by assumption) ?_
  try simp only [Act.put, List.setIfInBounds_toArray, List.set_cons_zero, List.set_cons_succ]
  refine takeU 18 plcO18 (some 23) (by assumption) ?_
  try simp only [Act.put, List.setIfInBounds_toArray, List.set_cons_zero, List.set_cons_succ]
  refine takeU 19 plcO19 (some 24) (by assumption) ?_
  try simp only [Act.put, List.setIfInBounds_toArray, List.set_cons_zero, List.set_cons_succ]
  refine takeU 20 plcO20 (some 25) (by assumption) ?_
  try simp only [Act.put, List.setIfInBounds_toArray, List.set_cons_zero, List.set_cons_succ]
  refine takeU 21 plcO21 (some 26) (by assumption) ?_
  try simp only [Act.put, List.setIfInBounds_toArray, List.set_cons_zero, List.set_cons_succ]
  refine takeU 22 plcO22 (some 27) (by assumption) ?_
  try simp only [Act.put, List.setIfInBounds_toArray, List.set_cons_zero, List.set_cons_succ]
  refine takeW 23 plcO23 (some 28) ?_ ?_ (by assumption) ?_
  rotate_left
  · (intro w hSw; dsimp only [plcO23] at hSw ⊢; go_simp <;> with_reducible rfl)
  try simp only [Act.put, List.setIfInBounds_toArray, List.set_cons_zero, List.set_cons_succ]
  refine takeW 24 plcO24 (some 4) ?_ ?_ (by assumption) ?_
  rotate_left
  · (intro w hSw; dsimp only [plcO24] at hSw ⊢; go_simp <;> with_reducible rfl)
  try simp only [Act.put, List.setIfInBounds_toArray, List.set_cons_zero, List.set_cons_succ]
  refine wpAnyH_done (by kernel_rfl) ?_ _
  have hS : PlS P Q f (.slice A n c) g v V V.drew := by assumption
  have HSS := Lib.hid hS.last
  clear hS
  go_wp2_with fail
  go_ret
  exact ⟨rfl, HB0.out.trans (HSS.out.mono HB0.out.size)⟩

set_option maxHeartbeats 4000000 in
set_option maxRecDepth 100000 in
theorem place_d (f g v q : Int) (A : Option Addr) (n c : Nat) (w : World) (hc : (0 ≤ g ∧ g ≤ f) ∧ 0 ≤ v)
    (hIN : ∀ W, Below w.heap.size w W → Calls Tryd.prog 47 #[.agg #[.int .i64 f, .slice A n c], .int .i64 g] W fun e w' => e = .returned (.int .i64 q) ∧ Below W.heap.size W w') :
    Calls Tryd.prog 17 #[.agg #[.int .i64 f, .slice A n c], .agg #[.int .i64 g, .int .i64 v]] w fun e w' => e = .returned (.bool (decide (v ≤ q))) ∧ Below w.heap.size w w' := by
  have HIN := Lib.hid hIN
  have t1 : decide (0 ≤ g) = true := by rw [decide_eq_true_iff]; omega
  have t2 : decide (g ≤ f) = true := by rw [decide_eq_true_iff]; omega
  have t3 : decide (0 ≤ v) = true := by rw [decide_eq_true_iff]; omega
  clear hc hIN
  go_enter Tryd.func17, Tryd.ntmps17
  go_wp2_with fail
  obtain ⟨V, hV⟩ : ∃ V, V = (w.alloc (.cells #[.int .i64 f, .slice A n c] 24)).alloc (.cells #[.int .i64 g, .int .i64 v] 41) := ⟨_, rfl⟩
  have hM := two_mem w _ _ V hV
  rw [← hV]
  clear hV
  obtain ⟨P, hP⟩ : ∃ P, P = w.heap.size := ⟨_, rfl⟩
  obtain ⟨Q, hQ⟩ : ∃ Q, Q = w.heap.size + 1 := ⟨_, rfl⟩
  have HB0 := Lib.hid hM.2.2.2
  have a0 : V.cell? ⟨P, 0, none⟩ = some (.int .i64 f) := by rw [hP]; exact Lib.cell_of_heap hM.1 0
  have a1 : V.cell? ⟨P, 1, none⟩ = some (.slice A n c) := by rw [hP]; exact Lib.cell_of_heap hM.1 1
  have a2 : V.cell? ⟨Q, 0, none⟩ = some (.int .i64 g) := by rw [hQ]; exact Lib.cell_of_heap hM.2.1 0
  have a3 : V.cell? ⟨Q, 1, none⟩ = some (.int .i64 v) := by rw [hQ]; exact Lib.cell_of_heap hM.2.1 1
  have hPV : P < V.heap.size := by have := hM.2.2.1; omega
  have hQV : Q < V.heap.size := by have := hM.2.2.1; omega
  rw [← hQ, ← hP]
  have HS1 : Hid (PlS P Q f (.slice A n c) g v V V) := ⟨a0, a1, a2, a3, Below.refl _ _⟩
  clear hP hQ hM
  refine wp_region_held_drew (S := (fun w' => w'.cell? ⟨P, 0, none⟩ = some (.int .i64 f) ∧ w'.cell? ⟨P, 1, none⟩ = some (.slice A n c) ∧ w'.cell? ⟨Q, 0, none⟩ = some (.int .i64 g) ∧ w'.cell? ⟨Q, 1, none⟩ = some (.int .i64 v) ∧ Below V.heap.size V w')) (by kernel_rfl) ?_ (fun hHeld => ?_)
  · exact HS1.out.of hPV hQV (Below.refl _ _).drew
  refine takeW 0 plcO0 (some 5) ?_ ?_ (by assumption) ?_
  rotate_left
  · (intro w hSw; dsimp only [plcO0] at hSw ⊢; go_simp <;> with_reducible rfl)
  try simp only [Act.put, List.setIfInBounds_toArray, List.set_cons_zero, List.set_cons_succ]
  refine takeW 1 plcO1 (some 6) ?_ ?_ (by assumption) ?_
  rotate_left
  · (intro w hSw; dsimp only [plcO1] at hSw ⊢; go_simp <;> with_reducible rfl)
  try simp only [Act.put, List.setIfInBounds_toArray, List.set_cons_zero, List.set_cons_succ]
  refine takeW 2 plcO2 (some 7) ?_ ?_ (by assumption) ?_
  rotate_left
  · (intro w hSw; dsimp only [plcO2] at hSw ⊢; go_simp <;> with_reducible rfl)
  try simp only [Act.put, List.setIfInBounds_toArray, List.set_cons_zero, List.set_cons_succ]
  refine takeW 3 plcO3 (some 8) ?_ ?_ (by assumption) ?_
  rotate_left
  · (intro w hSw; dsimp only [plcO3] at hSw ⊢; go_simp <;> with_reducible rfl)
  try simp only [Act.put, List.setIfInBounds_toArray, List.set_cons_zero, List.set_cons_succ]
  refine takeW 4 plcO4 (some 9) ?_ ?_ (by assumption) ?_
  rotate_left
  · (intro w hSw; dsimp only [plcO4] at hSw ⊢; go_simp <;> with_reducible rfl)
  try simp only [Act.put, List.setIfInBounds_toArray, List.set_cons_zero, List.set_cons_succ]
  refine takeW 5 plcO5 (some 10) ?_ ?_ (by assumption) ?_
  rotate_left
  · (intro w hSw; dsimp only [plcO5] at hSw ⊢; go_simp <;> with_reducible rfl)
  try simp only [Act.put, List.setIfInBounds_toArray, List.set_cons_zero, List.set_cons_succ]
  refine takeW 6 plcO6 (some 11) ?_ ?_ (by assumption) ?_
  rotate_left
  · (intro w hSw; dsimp only [plcO6] at hSw ⊢; go_simp <;> with_reducible rfl)
  try simp only [Act.put, List.setIfInBounds_toArray, List.set_cons_zero, List.set_cons_succ]
  refine takeW 7 plcO7 (some 12) ?_ ?_ (by assumption) ?_
  rotate_left
  · (intro w hSw; dsimp only [plcO7] at hSw ⊢; go_simp <;> with_reducible rfl)
  try simp only [Act.put, List.setIfInBounds_toArray, List.set_cons_zero, List.set_cons_succ]
  refine takeW 8 plcO8 (some 13) ?_ ?_ (by assumption) ?_
  rotate_left
  · (intro w hSw; dsimp only [plcO8] at hSw ⊢; go_simp <;> with_reducible rfl)
  try simp only [Act.put, List.setIfInBounds_toArray, List.set_cons_zero, List.set_cons_succ]
  refine takeW 9 plcO9 (some 14) ?_ ?_ (by assumption) ?_
  rotate_left
  · (intro w hSw; dsimp only [plcO9] at hSw ⊢; go_simp <;> with_reducible rfl)
  try simp only [Act.put, List.setIfInBounds_toArray, List.set_cons_zero, List.set_cons_succ]
  refine takeW 10 plcO10 (some 15) ?_ ?_ (by assumption) ?_
  rotate_left
  · (intro w hSw; dsimp only [plcO10] at hSw ⊢; go_simp <;> with_reducible rfl)
  try simp only [Act.put, List.setIfInBounds_toArray, List.set_cons_zero, List.set_cons_succ]
  refine takeW 11 plcO11 (some 16) ?_ ?_ (by assumption) ?_
  rotate_left
  · (intro w hSw; dsimp only [plcO11] at hSw ⊢; go_simp <;> with_reducible rfl)
  try simp only [Act.put, List.setIfInBounds_toArray, List.set_cons_zero, List.set_cons_succ]
  refine takeW 12 plcO12 (some 17) ?_ ?_ (by assumption) ?_
  rotate_left
  · (intro w hSw; dsimp only [plcO12] at hSw ⊢; go_simp <;> with_reducible rfl)
  try simp only [Act.put, List.setIfInBounds_toArray, List.set_cons_zero, List.set_cons_succ]
  refine takeW 13 plcO13 (some 18) ?_ ?_ (by assumption) ?_
  rotate_left
  · (intro w hSw; dsimp only [plcO13] at hSw ⊢; go_simp <;> with_reducible rfl)
  try simp only [Act.put, List.setIfInBounds_toArray, List.set_cons_zero, List.set_cons_succ]
  refine takeW 14 plcO14 (some 19) ?_ ?_ (by assumption) ?_
  rotate_left
  · (intro w hSw; dsimp only [plcO14] at hSw ⊢; go_simp <;> with_reducible rfl)
  try simp only [Act.put, List.setIfInBounds_toArray, List.set_cons_zero, List.set_cons_succ]
  refine takeW 15 plcO15 (some 20) ?_ ?_ (by assumption) ?_
  rotate_left
  · (intro w hSw; dsimp only [plcO15] at hSw ⊢; go_simp <;> with_reducible rfl)
  try simp only [Act.put, List.setIfInBounds_toArray, List.set_cons_zero, List.set_cons_succ]
  refine takeW 16 plcO16 (some 21) ?_ ?_ (by assumption) ?_
  rotate_left
  · (intro w hSw; dsimp only [plcO16] at hSw ⊢; go_simp <;> with_reducible rfl)
  try simp only [Act.put, List.setIfInBounds_toArray, List.set_cons_zero, List.set_cons_succ]
  refine takeW 17 plcO17 (some 22) ?_ ?_ (by assumption) ?_
  rotate_left
  · (intro w hSw; dsimp only [plcO17] at hSw ⊢; go_simp <;> with_reducible rfl)
  try simp only [Act.put, List.setIfInBounds_toArray, List.set_cons_zero, List.set_cons_succ]
  refine takeW 18 plcO18 (some 23) ?_ ?_ (by assumption) ?_
  rotate_left
  · (intro w hSw; dsimp only [plcO18] at hSw ⊢; go_simp <;> with_reducible rfl)
  try simp only [Act.put, List.setIfInBounds_toArray, List.set_cons_zero, List.set_cons_succ]
  refine takeW 19 plcO19 (some 24) ?_ ?_ (by assumption) ?_
  rotate_left
  · (intro w hSw; dsimp only [plcO19] at hSw ⊢; go_simp <;> with_reducible rfl)
  try simp only [Act.put, List.setIfInBounds_toArray, List.set_cons_zero, List.set_cons_succ]
  refine takeW 20 plcO20 (some 25) ?_ ?_ (by assumption) ?_
  rotate_left
  · (intro w hSw; dsimp only [plcO20] at hSw ⊢; go_simp <;> with_reducible rfl)
  try simp only [Act.put, List.setIfInBounds_toArray, List.set_cons_zero, List.set_cons_succ]
  refine wpAnyH_ready (rs := [21]) (by kernel_rfl) (by simp) ?_
  refine AllReadyH.cons (o := { dst := some 26, op := Go.Op.call { callee := Go.Callee.value (Go.Operand.func 47), args := #[Go.Operand.tmp 23, Go.Operand.tmp 25], argTypes := #[24, 3] }, type := 3, pos := "ref.go:475", after := #[{ on := 18, ground := Go.Ground.data }, { on := 20, ground := Go.Ground.data }, { on := 15, ground := Go.Ground.chain }, { on := 15, ground := Go.Ground.guard }], guard := some (15, true) }) rfl (fun K hK => ?_) AllReadyH.nil
  go_simp
  refine (HIN.out _ ?_).mono ?_
  · exact HB0.out.trans (((PlS.last (P := P) (Q := Q) (f := f) (vc := .slice A n c) (g := g) (v := v) (V := V) (by assumption))).mono HB0.out.size)
  rintro e w2 ⟨rfl, hbw⟩
  go_wp2_with fail
  refine hK.out _ _ ?_ (fun hHeld => ?_)
  · exact HS1.out.of hPV hQV ((PlS.last (P := P) (Q := Q) (f := f) (vc := .slice A n c) (g := g) (v := v) (V := V) (by assumption)).trans (hbw.mono (PlS.last (P := P) (Q := Q) (f := f) (vc := .slice A n c) (g := g) (v := v) (V := V) (by assumption)).size))
  clear hK K hbw
  try simp only [Act.put, List.setIfInBounds_toArray, List.set_cons_zero, List.set_cons_succ]
  refine takeW 22 plcO22 (some 27) ?_ ?_ (by assumption) ?_
  rotate_left
  · (intro w hSw; dsimp only [plcO22] at hSw ⊢; go_simp <;> with_reducible rfl)
  try simp only [Act.put, List.setIfInBounds_toArray, List.set_cons_zero, List.set_cons_succ]
  refine takeW 23 plcO23 (some 28) ?_ ?_ (by assumption) ?_
  rotate_left
  · (intro w hSw; dsimp only [plcO23] at hSw ⊢; go_simp <;> with_reducible rfl)
  try simp only [Act.put, List.setIfInBounds_toArray, List.set_cons_zero, List.set_cons_succ]
  refine takeW 24 plcO24 (some 4) ?_ ?_ (by assumption) ?_
  rotate_left
  · (intro w hSw; dsimp only [plcO24] at hSw ⊢; go_simp <;> with_reducible rfl)
  try simp only [Act.put, List.setIfInBounds_toArray, List.set_cons_zero, List.set_cons_succ]
  refine wpAnyH_done (by kernel_rfl) ?_ _
  have hS : PlS P Q f (.slice A n c) g v V w2 := by assumption
  have HSS := Lib.hid hS.last
  clear hS
  go_wp2_with fail
  go_ret
  exact ⟨rfl, HB0.out.trans (HSS.out.mono HB0.out.size)⟩


theorem place_calls (f g v : Int) (A : Option Addr) (n c : Nat) (ls : List Lt) (w : World) (hL : LS w A n ls) (hn : n ≤ 1000) :
    Calls Tryd.prog 17 #[.agg #[.int .i64 f, .slice A n c], .agg #[.int .i64 g, .int .i64 v]] w fun e w' => e = .returned (.bool (placeB f ls g v)) ∧ Below w.heap.size w w' := by
  have hIN : ∀ W, Below w.heap.size w W → Calls Tryd.prog 47 #[.agg #[.int .i64 f, .slice A n c], .int .i64 g] W fun e w' => e = .returned (.int .i64 (cntB (inGate g) ls)) ∧ Below W.heap.size W w' :=
    fun W hW => in_calls f A n c ls g W (hL.below hW) (by omega)
  unfold placeB
  by_cases h1 : 0 ≤ g
  · by_cases h2 : g ≤ f
    · by_cases h3 : 0 ≤ v
      · rw [decide_eq_true h1, decide_eq_true h2, decide_eq_true h3]
        exact place_d f g v _ A n c w ⟨⟨h1, h2⟩, h3⟩ hIN
      · rw [decide_eq_true h1, decide_eq_true h2, decide_eq_false h3]
        exact place_c f g v _ A n c w ⟨⟨h1, h2⟩, by omega⟩ hIN
    · rw [decide_eq_true h1, decide_eq_false h2]
      exact place_b f g v _ A n c w ⟨h1, by omega⟩ hIN
  · rw [decide_eq_false h1]
    exact place_a f g v _ A n c w (by omega) hIN


end Go.Proofs.YtplpccgbciglpaaDoor
