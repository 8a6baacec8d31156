/-
  The codes of the law's own examples: what Check and Faces say of them.
-/
import Derived.Test.YtbbpockkafbfmaaDoorFaces
namespace Go.Proofs.YtbbpockkafbfmaaDoor
open Go.RowKit

def passLt (g r : Int) : Lt := ⟨1, g, r, 0, 0, false⟩
def crossLt (i : Int) (o : Bool) (s : Int) : Lt := ⟨2, 0, 0, i, s, o⟩
def kinkL : List Lt := [passLt 0 1, crossLt 1 false 1, crossLt 1 true 1, passLt 1 1]
def apartL : List Lt := [passLt 0 1, crossLt 1 false 1, passLt 1 1, crossLt 1 true 1]
def circL (i j : Int) : List Lt := [passLt i 1, passLt j 1]

theorem kink_ok : checkE 2 kinkL = 0 := by decide +kernel
theorem apart_no : checkE 1 apartL = 3 := by decide +kernel
theorem circle_ok : checkE 2 (circL 0 1) = 0 := by decide +kernel
theorem none_ok : ∀ k : Fin 41, checkE (k.val : Int) [] = 0 := by decide +kernel
theorem forgot_ok : checkE 1 [passLt 0 1, passLt 0 2] = 0 := by decide +kernel
def circlesB (k i : Nat) : Bool := (List.range 41).all fun j => !(decide (i < j) && decide (j ≤ k)) || decide (checkE (k : Int) (circL (i : Int) (j : Int)) = 0)
set_option maxRecDepth 100000 in
set_option maxHeartbeats 0 in
theorem circles0 : ∀ i : Fin 41, circlesB 0 i.val = true := by decide +kernel
set_option maxRecDepth 100000 in
set_option maxHeartbeats 0 in
theorem circles1 : ∀ i : Fin 41, circlesB 1 i.val = true := by decide +kernel
set_option maxRecDepth 100000 in
set_option maxHeartbeats 0 in
theorem circles2 : ∀ i : Fin 41, circlesB 2 i.val = true := by decide +kernel
set_option maxRecDepth 100000 in
set_option maxHeartbeats 0 in
theorem circles3 : ∀ i : Fin 41, circlesB 3 i.val = true := by decide +kernel
set_option maxRecDepth 100000 in
set_option maxHeartbeats 0 in
theorem circles4 : ∀ i : Fin 41, circlesB 4 i.val = true := by decide +kernel
set_option maxRecDepth 100000 in
set_option maxHeartbeats 0 in
theorem circles5 : ∀ i : Fin 41, circlesB 5 i.val = true := by decide +kernel
set_option maxRecDepth 100000 in
set_option maxHeartbeats 0 in
theorem circles6 : ∀ i : Fin 41, circlesB 6 i.val = true := by decide +kernel
set_option maxRecDepth 100000 in
set_option maxHeartbeats 0 in
theorem circles7 : ∀ i : Fin 41, circlesB 7 i.val = true := by decide +kernel
set_option maxRecDepth 100000 in
set_option maxHeartbeats 0 in
theorem circles8 : ∀ i : Fin 41, circlesB 8 i.val = true := by decide +kernel
set_option maxRecDepth 100000 in
set_option maxHeartbeats 0 in
theorem circles9 : ∀ i : Fin 41, circlesB 9 i.val = true := by decide +kernel
set_option maxRecDepth 100000 in
set_option maxHeartbeats 0 in
theorem circles10 : ∀ i : Fin 41, circlesB 10 i.val = true := by decide +kernel
set_option maxRecDepth 100000 in
set_option maxHeartbeats 0 in
theorem circles11 : ∀ i : Fin 41, circlesB 11 i.val = true := by decide +kernel
set_option maxRecDepth 100000 in
set_option maxHeartbeats 0 in
theorem circles12 : ∀ i : Fin 41, circlesB 12 i.val = true := by decide +kernel
set_option maxRecDepth 100000 in
set_option maxHeartbeats 0 in
theorem circles13 : ∀ i : Fin 41, circlesB 13 i.val = true := by decide +kernel
set_option maxRecDepth 100000 in
set_option maxHeartbeats 0 in
theorem circles14 : ∀ i : Fin 41, circlesB 14 i.val = true := by decide +kernel
set_option maxRecDepth 100000 in
set_option maxHeartbeats 0 in
theorem circles15 : ∀ i : Fin 41, circlesB 15 i.val = true := by decide +kernel
set_option maxRecDepth 100000 in
set_option maxHeartbeats 0 in
theorem circles16 : ∀ i : Fin 41, circlesB 16 i.val = true := by decide +kernel
set_option maxRecDepth 100000 in
set_option maxHeartbeats 0 in
theorem circles17 : ∀ i : Fin 41, circlesB 17 i.val = true := by decide +kernel
set_option maxRecDepth 100000 in
set_option maxHeartbeats 0 in
theorem circles18 : ∀ i : Fin 41, circlesB 18 i.val = true := by decide +kernel
set_option maxRecDepth 100000 in
set_option maxHeartbeats 0 in
theorem circles19 : ∀ i : Fin 41, circlesB 19 i.val = true := by decide +kernel
set_option maxRecDepth 100000 in
set_option maxHeartbeats 0 in
theorem circles20 : ∀ i : Fin 41, circlesB 20 i.val = true := by decide +kernel
set_option maxRecDepth 100000 in
set_option maxHeartbeats 0 in
theorem circles21 : ∀ i : Fin 41, circlesB 21 i.val = true := by decide +kernel
set_option maxRecDepth 100000 in
set_option maxHeartbeats 0 in
theorem circles22 : ∀ i : Fin 41, circlesB 22 i.val = true := by decide +kernel
set_option maxRecDepth 100000 in
set_option maxHeartbeats 0 in
theorem circles23 : ∀ i : Fin 41, circlesB 23 i.val = true := by decide +kernel
set_option maxRecDepth 100000 in
set_option maxHeartbeats 0 in
theorem circles24 : ∀ i : Fin 41, circlesB 24 i.val = true := by decide +kernel
set_option maxRecDepth 100000 in
set_option maxHeartbeats 0 in
theorem circles25 : ∀ i : Fin 41, circlesB 25 i.val = true := by decide +kernel
set_option maxRecDepth 100000 in
set_option maxHeartbeats 0 in
theorem circles26 : ∀ i : Fin 41, circlesB 26 i.val = true := by decide +kernel
set_option maxRecDepth 100000 in
set_option maxHeartbeats 0 in
theorem circles27 : ∀ i : Fin 41, circlesB 27 i.val = true := by decide +kernel
set_option maxRecDepth 100000 in
set_option maxHeartbeats 0 in
theorem circles28 : ∀ i : Fin 41, circlesB 28 i.val = true := by decide +kernel
set_option maxRecDepth 100000 in
set_option maxHeartbeats 0 in
theorem circles29 : ∀ i : Fin 41, circlesB 29 i.val = true := by decide +kernel
set_option maxRecDepth 100000 in
set_option maxHeartbeats 0 in
theorem circles30 : ∀ i : Fin 41, circlesB 30 i.val = true := by decide +kernel
set_option maxRecDepth 100000 in
set_option maxHeartbeats 0 in
theorem circles31 : ∀ i : Fin 41, circlesB 31 i.val = true := by decide +kernel
set_option maxRecDepth 100000 in
set_option maxHeartbeats 0 in
theorem circles32 : ∀ i : Fin 41, circlesB 32 i.val = true := by decide +kernel
set_option maxRecDepth 100000 in
set_option maxHeartbeats 0 in
theorem circles33 : ∀ i : Fin 41, circlesB 33 i.val = true := by decide +kernel
set_option maxRecDepth 100000 in
set_option maxHeartbeats 0 in
theorem circles34 : ∀ i : Fin 41, circlesB 34 i.val = true := by decide +kernel
set_option maxRecDepth 100000 in
set_option maxHeartbeats 0 in
theorem circles35 : ∀ i : Fin 41, circlesB 35 i.val = true := by decide +kernel
set_option maxRecDepth 100000 in
set_option maxHeartbeats 0 in
theorem circles36 : ∀ i : Fin 41, circlesB 36 i.val = true := by decide +kernel
set_option maxRecDepth 100000 in
set_option maxHeartbeats 0 in
theorem circles37 : ∀ i : Fin 41, circlesB 37 i.val = true := by decide +kernel
set_option maxRecDepth 100000 in
set_option maxHeartbeats 0 in
theorem circles38 : ∀ i : Fin 41, circlesB 38 i.val = true := by decide +kernel
set_option maxRecDepth 100000 in
set_option maxHeartbeats 0 in
theorem circles39 : ∀ i : Fin 41, circlesB 39 i.val = true := by decide +kernel
set_option maxRecDepth 100000 in
set_option maxHeartbeats 0 in
theorem circles40 : ∀ i : Fin 41, circlesB 40 i.val = true := by decide +kernel
theorem circles_ok (k i j : Nat) (hk : k ≤ 40) (hij : i < j) (hjk : j ≤ k) : checkE (k : Int) (circL (i : Int) (j : Int)) = 0 := by
  have h : circlesB k i = true := by
    have hi : i < 41 := by omega
    have : k = 0 ∨ k = 1 ∨ k = 2 ∨ k = 3 ∨ k = 4 ∨ k = 5 ∨ k = 6 ∨ k = 7 ∨ k = 8 ∨ k = 9 ∨ k = 10 ∨ k = 11 ∨ k = 12 ∨ k = 13 ∨ k = 14 ∨ k = 15 ∨ k = 16 ∨ k = 17 ∨ k = 18 ∨ k = 19 ∨ k = 20 ∨ k = 21 ∨ k = 22 ∨ k = 23 ∨ k = 24 ∨ k = 25 ∨ k = 26 ∨ k = 27 ∨ k = 28 ∨ k = 29 ∨ k = 30 ∨ k = 31 ∨ k = 32 ∨ k = 33 ∨ k = 34 ∨ k = 35 ∨ k = 36 ∨ k = 37 ∨ k = 38 ∨ k = 39 ∨ k = 40 := by omega
    rcases this with rfl | rfl | rfl | rfl | rfl | rfl | rfl | rfl | rfl | rfl | rfl | rfl | rfl | rfl | rfl | rfl | rfl | rfl | rfl | rfl | rfl | rfl | rfl | rfl | rfl | rfl | rfl | rfl | rfl | rfl | rfl | rfl | rfl | rfl | rfl | rfl | rfl | rfl | rfl | rfl | rfl
    · exact circles0 ⟨i, hi⟩
    · exact circles1 ⟨i, hi⟩
    · exact circles2 ⟨i, hi⟩
    · exact circles3 ⟨i, hi⟩
    · exact circles4 ⟨i, hi⟩
    · exact circles5 ⟨i, hi⟩
    · exact circles6 ⟨i, hi⟩
    · exact circles7 ⟨i, hi⟩
    · exact circles8 ⟨i, hi⟩
    · exact circles9 ⟨i, hi⟩
    · exact circles10 ⟨i, hi⟩
    · exact circles11 ⟨i, hi⟩
    · exact circles12 ⟨i, hi⟩
    · exact circles13 ⟨i, hi⟩
    · exact circles14 ⟨i, hi⟩
    · exact circles15 ⟨i, hi⟩
    · exact circles16 ⟨i, hi⟩
    · exact circles17 ⟨i, hi⟩
    · exact circles18 ⟨i, hi⟩
    · exact circles19 ⟨i, hi⟩
    · exact circles20 ⟨i, hi⟩
    · exact circles21 ⟨i, hi⟩
    · exact circles22 ⟨i, hi⟩
    · exact circles23 ⟨i, hi⟩
    · exact circles24 ⟨i, hi⟩
    · exact circles25 ⟨i, hi⟩
    · exact circles26 ⟨i, hi⟩
    · exact circles27 ⟨i, hi⟩
    · exact circles28 ⟨i, hi⟩
    · exact circles29 ⟨i, hi⟩
    · exact circles30 ⟨i, hi⟩
    · exact circles31 ⟨i, hi⟩
    · exact circles32 ⟨i, hi⟩
    · exact circles33 ⟨i, hi⟩
    · exact circles34 ⟨i, hi⟩
    · exact circles35 ⟨i, hi⟩
    · exact circles36 ⟨i, hi⟩
    · exact circles37 ⟨i, hi⟩
    · exact circles38 ⟨i, hi⟩
    · exact circles39 ⟨i, hi⟩
    · exact circles40 ⟨i, hi⟩
  unfold circlesB at h
  rw [List.all_eq_true] at h
  have h2 := h j (List.mem_range.2 (by omega))
  simp only [hij, hjk, decide_true, Bool.and_self, Bool.not_true, Bool.false_or, decide_eq_true_eq] at h2
  exact h2

def circFaces : Option (List FaceM) :=
  match ordM (circL 0 1) (numP 2 (circL 0 1)) 2 2 with
  | none => none
  | some st => match pairM (circL 0 1) (cntK 2 (circL 0 1) / 2) 2 2 with
    | none => none
    | some pt => some ((dmOf 2 (circL 0 1) st pt).faces 2)
theorem circ_faces : circFaces = some [⟨false, [0], [(1, 0), (0, 1)], [1], false⟩, ⟨false, [1], [(0, 0), (2, 0), (1, 1)], [2], true⟩, ⟨true, [2], [(0, 1), (1, 0)], [1], false⟩, ⟨true, [3], [(1, 1), (2, 0), (0, 0)], [2], true⟩] := by kernel_rfl
end Go.Proofs.YtbbpockkafbfmaaDoor
