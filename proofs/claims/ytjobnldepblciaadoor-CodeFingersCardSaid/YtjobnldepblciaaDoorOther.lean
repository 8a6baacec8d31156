/-
  The walks of otherStrand, pass, cross, Bare and Circle of codes.
-/
import Derived.Test.YtjobnldepblciaaDoorPlain
namespace Go.Proofs.YtjobnldepblciaaDoor
open Go.RowKit

/-- A letter on the other strand. -/
def otherL (l : Lt) : Lt := ⟨l.kind, l.gate, l.rank, l.id, l.sign, decide (l.kind = 2) && !l.over⟩

set_option maxHeartbeats 1000000 in
theorem otherStrand_calls (l : Lt) (w : World) : Calls Tryd.prog 58 #[l.val] w fun e w' => e = .returned (otherL l).val ∧ Below w.heap.size w w' := by
  unfold Lt.val
  by_cases hk : l.kind = 2
  · have hke : (l.kind == 2) = true := by rw [beq_iff_eq]; exact hk
    have HE : Hid (otherL l = ⟨l.kind, l.gate, l.rank, l.id, l.sign, !l.over⟩) := by unfold Hid otherL; simp [hk]
    rw [HE.out]
    clear hk
    go_enter Tryd.func58, Tryd.ntmps58
    go_wp2_with fail
    try go_quiet (fail)
    try go_wp2_with fail
    refine bodyPost_ret (v := Lt.val ⟨l.kind, l.gate, l.rank, l.id, l.sign, !l.over⟩) (by simp [results, Tryd.results58, go_sem, Lt.val]) rfl ⟨rfl, (by first | exact (Below.refl _ _).alloc (Nat.le_refl _) _ | exact ((Below.refl _ _).alloc (Nat.le_refl _) _).alloc (by simp) _ | exact below_drewN ((Below.refl _ _).alloc (Nat.le_refl _) _) _ | exact below_drewN (((Below.refl _ _).alloc (Nat.le_refl _) _).alloc (by simp) _) _)⟩
  · have hke : (l.kind == 2) = false := by rw [beq_eq_false_iff_ne]; exact hk
    have HE : Hid (otherL l = ⟨l.kind, l.gate, l.rank, l.id, l.sign, false⟩) := by unfold Hid otherL; simp [hk]
    rw [HE.out]
    clear hk
    go_enter Tryd.func58, Tryd.ntmps58
    go_wp2_with fail
    try go_quiet (fail)
    try go_wp2_with fail
    refine bodyPost_ret (v := Lt.val ⟨l.kind, l.gate, l.rank, l.id, l.sign, false⟩) (by simp [results, Tryd.results58, go_sem, Lt.val]) rfl ⟨rfl, (by first | exact (Below.refl _ _).alloc (Nat.le_refl _) _ | exact ((Below.refl _ _).alloc (Nat.le_refl _) _).alloc (by simp) _ | exact below_drewN ((Below.refl _ _).alloc (Nat.le_refl _) _) _ | exact below_drewN (((Below.refl _ _).alloc (Nat.le_refl _) _).alloc (by simp) _) _)⟩

set_option maxHeartbeats 1000000 in
theorem lawPass_calls (g r : Int) (w : World) : Calls Tryd.prog 42 #[.int .i64 g, .int .i64 r] w fun e w' => e = .returned (Lt.val ⟨1, g, r, 0, 0, false⟩) ∧ Below w.heap.size w w' := by
  go_enter Tryd.func42, Tryd.ntmps42
  go_wp2_with fail
  refine bodyPost_ret (v := Lt.val ⟨1, g, r, 0, 0, false⟩) (by simp [results, Tryd.results42, go_sem, Lt.val]) rfl ⟨rfl, (by first | exact (Below.refl _ _).alloc (Nat.le_refl _) _ | exact ((Below.refl _ _).alloc (Nat.le_refl _) _).alloc (by simp) _ | exact below_drewN ((Below.refl _ _).alloc (Nat.le_refl _) _) _ | exact below_drewN (((Below.refl _ _).alloc (Nat.le_refl _) _).alloc (by simp) _) _)⟩
set_option maxHeartbeats 1000000 in
theorem lawCross_calls (i s : Int) (o : Bool) (w : World) : Calls Tryd.prog 43 #[.int .i64 i, .bool o, .int .i64 s] w fun e w' => e = .returned (Lt.val ⟨2, 0, 0, i, s, o⟩) ∧ Below w.heap.size w w' := by
  go_enter Tryd.func43, Tryd.ntmps43
  go_wp2_with fail
  refine bodyPost_ret (v := Lt.val ⟨2, 0, 0, i, s, o⟩) (by simp [results, Tryd.results43, go_sem, Lt.val]) rfl ⟨rfl, (by first | exact (Below.refl _ _).alloc (Nat.le_refl _) _ | exact ((Below.refl _ _).alloc (Nat.le_refl _) _).alloc (by simp) _ | exact below_drewN ((Below.refl _ _).alloc (Nat.le_refl _) _) _ | exact below_drewN (((Below.refl _ _).alloc (Nat.le_refl _) _).alloc (by simp) _) _)⟩

/-- The error of Bare. -/
def bareE (k : Int) : Int := if 0 ≤ k ∧ k ≤ 40 then 0 else 2
set_option maxHeartbeats 1000000 in
theorem bare_calls (k : Int) (w : World) : Calls Tryd.prog 40 #[.int .i64 k] w fun e w' => e = .returned (.tuple #[.agg #[.int .i64 (if 0 ≤ k ∧ k ≤ 40 then k else 0), .slice none 0 0], .int .i64 (bareE k)]) ∧ Below w.heap.size w w' := by
  unfold bareE
  by_cases h : 0 ≤ k ∧ k ≤ 40
  · rw [if_pos h, if_pos h]
    obtain ⟨h1, h2⟩ := h
    go_enter Tryd.func40, Tryd.ntmps40
    go_wp2_with fail
    refine bodyPost_ret (v := .tuple #[.agg #[.int .i64 k, .slice none 0 0], .int .i64 0]) (by simp [results, Tryd.results40, go_sem]) rfl ⟨rfl, (by first | exact (Below.refl _ _).alloc (Nat.le_refl _) _ | exact ((Below.refl _ _).alloc (Nat.le_refl _) _).alloc (by simp) _ | exact below_drewN ((Below.refl _ _).alloc (Nat.le_refl _) _) _ | exact below_drewN (((Below.refl _ _).alloc (Nat.le_refl _) _).alloc (by simp) _) _)⟩
  · rw [if_neg h, if_neg h]
    have h3 : k < 0 ∨ (¬ k < 0 ∧ 40 < k) := by omega
    clear h
    rcases h3 with h1 | ⟨h1, h2⟩
    all_goals
      go_enter Tryd.func40, Tryd.ntmps40
      go_wp2_with fail
      refine bodyPost_ret (v := .tuple #[.agg #[.int .i64 0, .slice none 0 0], .int .i64 2]) (by simp [results, Tryd.results40, go_sem]) rfl ⟨rfl, (by first | exact (Below.refl _ _).alloc (Nat.le_refl _) _ | exact ((Below.refl _ _).alloc (Nat.le_refl _) _).alloc (by simp) _ | exact below_drewN ((Below.refl _ _).alloc (Nat.le_refl _) _) _ | exact below_drewN (((Below.refl _ _).alloc (Nat.le_refl _) _).alloc (by simp) _) _)⟩

theorem ls_two (w : World) (a b : Lt) (T : TypeId) : LS (w.alloc (.cells #[.int .i64 a.kind, .int .i64 a.gate, .int .i64 a.rank, .int .i64 a.id, .int .i64 a.sign, .bool a.over, .int .i64 b.kind, .int .i64 b.gate, .int .i64 b.rank, .int .i64 b.id, .int .i64 b.sign, .bool b.over] T)) (some ⟨w.heap.size, 0, none⟩) 2 [a, b] := by
  have h := heap_alloc_new w (.cells #[.int .i64 a.kind, .int .i64 a.gate, .int .i64 a.rank, .int .i64 a.id, .int .i64 a.sign, .bool a.over, .int .i64 b.kind, .int .i64 b.gate, .int .i64 b.rank, .int .i64 b.id, .int .i64 b.sign, .bool b.over] T)
  refine ⟨rfl, fun _ => ⟨w.heap.size, 0, rfl, by simp, fun k l hk => ?_⟩⟩
  have h2 : k = 0 ∨ k = 1 := by
    have : k < [a, b].length := by
      rcases Nat.lt_or_ge k [a, b].length with q | q
      · exact q
      · rw [List.getElem?_eq_none q] at hk; cases hk
    simp at this
    omega
  rcases h2 with rfl | rfl
  · injection hk with hk
    subst hk
    exact ⟨Lib.cell_of_heap h 0, Lib.cell_of_heap h 1, Lib.cell_of_heap h 2, Lib.cell_of_heap h 3, Lib.cell_of_heap h 4, Lib.cell_of_heap h 5⟩
  · injection hk with hk
    subst hk
    exact ⟨Lib.cell_of_heap h 6, Lib.cell_of_heap h 7, Lib.cell_of_heap h 8, Lib.cell_of_heap h 9, Lib.cell_of_heap h 10, Lib.cell_of_heap h 11⟩

/-- What Circle of codes answers. -/
def CirclePost (k i j : Int) (w : World) (e : Ending) (w' : World) : Prop :=
  (0 ≤ k ∧ k ≤ 40 ∧ 1 ≤ i ∧ i ≤ j ∧ j ≤ k ∧ ∃ A c, e = .returned (.tuple #[.agg #[.int .i64 k, .slice A 2 c], .int .i64 0]) ∧ LS w' A 2 [⟨1, i - 1, 1, 0, 0, false⟩, ⟨1, j, 1, 0, 0, false⟩] ∧ Below w.heap.size w w') ∨
  (¬ (0 ≤ k ∧ k ≤ 40 ∧ 1 ≤ i ∧ i ≤ j ∧ j ≤ k) ∧ e = .returned (.tuple #[.agg #[.int .i64 0, .slice none 0 0], .int .i64 2]) ∧ Below w.heap.size w w')

set_option maxHeartbeats 1000000 in
theorem codeCircle_calls (k i j : Int) (w : World) : Calls Tryd.prog 41 #[.int .i64 k, .int .i64 i, .int .i64 j] w (CirclePost k i j w) := by
  by_cases h : 0 ≤ k ∧ k ≤ 40 ∧ 1 ≤ i ∧ i ≤ j ∧ j ≤ k
  · have HH := Lib.hid h
    obtain ⟨h1, h2, h3, h4, h5⟩ := h
    go_enter Tryd.func41, Tryd.ntmps41
    go_wp2_with fail
    refine bodyPost_ret (v := .tuple #[.agg #[.int .i64 k, .slice (some ⟨w.heap.size + 1 + 1 + 1, 0, none⟩) 2 2], .int .i64 0]) (by simp [results, Tryd.results41, go_sem]) rfl ?_
    have hl := ls_two (((w.alloc (.cells #[.int .i64 k, .slice (some ⟨w.heap.size + 1 + 1 + 1, 0, none⟩) 2 2] 24)).alloc (.cells #[.int .i64 1, .int .i64 (i - 1), .int .i64 1, .int .i64 0, .int .i64 0, .bool false] 58)).alloc (.cells #[.int .i64 1, .int .i64 j, .int .i64 1, .int .i64 0, .int .i64 0, .bool false] 58)) ⟨1, i - 1, 1, 0, 0, false⟩ ⟨1, j, 1, 0, 0, false⟩ 58
    rw [World.size_alloc, World.size_alloc, World.size_alloc] at hl
    obtain ⟨q1, q2, q3, q4, q5⟩ := HH.out
    exact .inl ⟨q1, q2, q3, q4, q5, _, _, rfl, hl, ((((Below.refl _ _).alloc (Nat.le_refl _) _).alloc (by simp) _).alloc (by simp; omega) _).alloc (by simp; omega) _⟩
  · have h6 : k < 0 ∨ (¬ k < 0 ∧ 40 < k) ∨ (¬ k < 0 ∧ ¬ 40 < k ∧ i < 1) ∨ (¬ k < 0 ∧ ¬ 40 < k ∧ ¬ i < 1 ∧ j < i) ∨ (¬ k < 0 ∧ ¬ 40 < k ∧ ¬ i < 1 ∧ ¬ j < i ∧ k < j) := by omega
    have HH := Lib.hid h
    clear h
    rcases h6 with h1 | ⟨h1, h2⟩ | ⟨h1, h2, h3⟩ | ⟨h1, h2, h3, h4⟩ | ⟨h1, h2, h3, h4, h5⟩
    all_goals
      go_enter Tryd.func41, Tryd.ntmps41
      go_wp2_with fail
      refine bodyPost_ret (v := .tuple #[.agg #[.int .i64 0, .slice none 0 0], .int .i64 2]) (by simp [results, Tryd.results41, go_sem]) rfl (.inr ⟨HH.out, rfl, ?_⟩)
      first | exact (Below.refl _ _).alloc (Nat.le_refl _) _ | exact ((Below.refl _ _).alloc (Nat.le_refl _) _).alloc (by simp) _

end Go.Proofs.YtjobnldepblciaaDoor
