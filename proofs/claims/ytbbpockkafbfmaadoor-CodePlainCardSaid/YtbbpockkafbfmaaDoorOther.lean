/-
  The walks of otherStrand, pass, cross, Bare and Circle of codes.
-/
import Derived.Test.YtbbpockkafbfmaaDoorPlain
namespace Go.Proofs.YtbbpockkafbfmaaDoor
open Go.RowKit

/-- A letter on the other strand. -/
def otherL (l : Lt) : Lt := ⟨l.kind, l.gate, l.rank, l.id, l.sign, decide (l.kind = 2) && !l.over⟩

set_option maxHeartbeats 1000000 in
theorem otherStrand_calls (l : Lt) (w : World) : Calls Tryd.prog 107 #[l.val] w fun e w' => e = .returned (otherL l).val ∧ Below w.heap.size w w' := by
  unfold Lt.val
  by_cases hk : l.kind = 2
  · have hke : (l.kind == 2) = true := by rw [beq_iff_eq]; exact hk
    have HE : Hid (otherL l = ⟨l.kind, l.gate, l.rank, l.id, l.sign, !l.over⟩) := by unfold Hid otherL; simp [hk]
    rw [HE.out]
    clear hk
    go_enter Tryd.func107, Tryd.ntmps107
    go_wp2_with fail
    try go_quiet (fail)
    try go_wp2_with fail
    refine bodyPost_ret (v := Lt.val ⟨l.kind, l.gate, l.rank, l.id, l.sign, !l.over⟩) (by simp [results, Tryd.results107, go_sem, Lt.val]) rfl ⟨rfl, (by first | exact (Below.refl _ _).alloc (Nat.le_refl _) _ | exact ((Below.refl _ _).alloc (Nat.le_refl _) _).alloc (by simp) _ | exact below_drewN ((Below.refl _ _).alloc (Nat.le_refl _) _) _ | exact below_drewN (((Below.refl _ _).alloc (Nat.le_refl _) _).alloc (by simp) _) _)⟩
  · have hke : (l.kind == 2) = false := by rw [beq_eq_false_iff_ne]; exact hk
    have HE : Hid (otherL l = ⟨l.kind, l.gate, l.rank, l.id, l.sign, false⟩) := by unfold Hid otherL; simp [hk]
    rw [HE.out]
    clear hk
    go_enter Tryd.func107, Tryd.ntmps107
    go_wp2_with fail
    try go_quiet (fail)
    try go_wp2_with fail
    refine bodyPost_ret (v := Lt.val ⟨l.kind, l.gate, l.rank, l.id, l.sign, false⟩) (by simp [results, Tryd.results107, go_sem, Lt.val]) rfl ⟨rfl, (by first | exact (Below.refl _ _).alloc (Nat.le_refl _) _ | exact ((Below.refl _ _).alloc (Nat.le_refl _) _).alloc (by simp) _ | exact below_drewN ((Below.refl _ _).alloc (Nat.le_refl _) _) _ | exact below_drewN (((Below.refl _ _).alloc (Nat.le_refl _) _).alloc (by simp) _) _)⟩

set_option maxHeartbeats 1000000 in
theorem lawPass_calls (g r : Int) (w : World) : Calls Tryd.prog 22 #[.int .i64 g, .int .i64 r] w fun e w' => e = .returned (Lt.val ⟨1, g, r, 0, 0, false⟩) ∧ Below w.heap.size w w' := by
  go_enter Tryd.func22, Tryd.ntmps22
  go_wp2_with fail
  refine bodyPost_ret (v := Lt.val ⟨1, g, r, 0, 0, false⟩) (by simp [results, Tryd.results22, go_sem, Lt.val]) rfl ⟨rfl, (by first | exact (Below.refl _ _).alloc (Nat.le_refl _) _ | exact ((Below.refl _ _).alloc (Nat.le_refl _) _).alloc (by simp) _ | exact below_drewN ((Below.refl _ _).alloc (Nat.le_refl _) _) _ | exact below_drewN (((Below.refl _ _).alloc (Nat.le_refl _) _).alloc (by simp) _) _)⟩
set_option maxHeartbeats 1000000 in
theorem lawCross_calls (i s : Int) (o : Bool) (w : World) : Calls Tryd.prog 39 #[.int .i64 i, .bool o, .int .i64 s] w fun e w' => e = .returned (Lt.val ⟨2, 0, 0, i, s, o⟩) ∧ Below w.heap.size w w' := by
  go_enter Tryd.func39, Tryd.ntmps39
  go_wp2_with fail
  refine bodyPost_ret (v := Lt.val ⟨2, 0, 0, i, s, o⟩) (by simp [results, Tryd.results39, go_sem, Lt.val]) rfl ⟨rfl, (by first | exact (Below.refl _ _).alloc (Nat.le_refl _) _ | exact ((Below.refl _ _).alloc (Nat.le_refl _) _).alloc (by simp) _ | exact below_drewN ((Below.refl _ _).alloc (Nat.le_refl _) _) _ | exact below_drewN (((Below.refl _ _).alloc (Nat.le_refl _) _).alloc (by simp) _) _)⟩

theorem ls_two (w : World) (a b : Lt) (T : TypeId) : LS (w.alloc (.cells #[.int .i64 a.kind, .int .i64 a.gate, .int .i64 a.rank, .int .i64 a.id, .int .i64 a.sign, .bool a.over, .int .i64 b.kind, .int .i64 b.gate, .int .i64 b.rank, .int .i64 b.id, .int .i64 b.sign, .bool b.over] T)) (some ⟨w.heap.size, 0, none⟩) 2 [a, b] := by
  have h := heap_alloc_new w (.cells #[.int .i64 a.kind, .int .i64 a.gate, .int .i64 a.rank, .int .i64 a.id, .int .i64 a.sign, .bool a.over, .int .i64 b.kind, .int .i64 b.gate, .int .i64 b.rank, .int .i64 b.id, .int .i64 b.sign, .bool b.over] T)
  refine ⟨rfl, fun _ => ⟨w.heap.size, 0, rfl, by simp, fun k l hk => ?_⟩⟩
  have h2 : k = 0 ∨ k = 1 := by
    have : k < [a, b].length := by
      rcases Nat.lt_or_ge k [a, b].length with q | q
      · exact q
      · rw [List.getElem?_eq_none q] at hk; cases hk
    simp at this
    omega
  rcases h2 with rfl | rfl
  · injection hk with hk
    subst hk
    exact ⟨Lib.cell_of_heap h 0, Lib.cell_of_heap h 1, Lib.cell_of_heap h 2, Lib.cell_of_heap h 3, Lib.cell_of_heap h 4, Lib.cell_of_heap h 5⟩
  · injection hk with hk
    subst hk
    exact ⟨Lib.cell_of_heap h 6, Lib.cell_of_heap h 7, Lib.cell_of_heap h 8, Lib.cell_of_heap h 9, Lib.cell_of_heap h 10, Lib.cell_of_heap h 11⟩

end Go.Proofs.YtbbpockkafbfmaaDoor
