/-
  The walks of line.tangled for one arc, line.drawn for two positions, line.Ranks of a circle, line.Circle.
-/
import Derived.Test.YtiiepdcojkdidaaDoorPos
namespace Go.Proofs.YtiiepdcojkdidaaDoor
open Go.RowKit

def TanRel (w : World) (i : Value) (wr : World) : Prop := ∃ j : Nat, j ≤ 1 ∧ i = .int .i64 j ∧ Below w.heap.size w wr

set_option maxHeartbeats 1000000 in
theorem tangled_one (g c : Nat) (a b : Int) (w : World) (h0 : w.cell? ⟨g, 0, none⟩ = some (.int .i64 a)) (h1 : w.cell? ⟨g, 1, none⟩ = some (.int .i64 b)) :
    Calls Tryd.prog 67 #[.slice (some ⟨g, 0, none⟩) 1 c] w fun e w' => e = .returned (.bool false) ∧ Below w.heap.size w w' := by
  go_enter Tryd.func67, Tryd.ntmps67
  go_wp2_with fail
  go_loopw [9] (fun i wr => TanRel w i wr) (fun i _ => 1 - (intOf i).toNat)
  case atStart => exact ⟨0, by omega, rfl, Below.refl _ _⟩
  case round =>
    obtain ⟨j, hj, rfl, hb⟩ := hrel
    have HB := Lib.hid hb
    have hg := World.block_lt_of_cell? w _ h0
    by_cases hlt : j < 1
    · obtain rfl : j = 0 := by omega
      have e0 := (hb.cell (p := ⟨g, 0, none⟩) hg).trans h0
      have e1 := (hb.cell (p := ⟨g, 1, none⟩) hg).trans h1
      clear hb
      go_wp2_with fail
      go_loopw [18] (fun i wr => i = .int .i64 0 ∧ Below w.heap.size w wr) (fun _ _ => 0)
      case atStart => exact ⟨rfl, by first | exact HB.out.alloc HB.out.size _ | exact (HB.out.alloc HB.out.size _).setCell (p := ⟨wr.heap.size, 0, none⟩) HB.out.size _⟩
      case round =>
        obtain ⟨rfl, hb2⟩ := hrel
        have HB2 := Lib.hid hb2
        go_wp2_with fail
        go_roundw
        case rel => exact ⟨1, by omega, rfl, HB2.out⟩
        case measure => simp [intOf]
    · obtain rfl : j = 1 := by omega
      go_wp2_with fail
      go_ret
      exact ⟨rfl, hb⟩

theorem OwnI.made2 (w : World) (a b : Int) : OwnI (w.alloc (.cells #[.int .i64 a, .int .i64 b] 3)) w.heap.size (.slice (some ⟨w.heap.size, 0, none⟩) 2 2) [a, b] :=
  ⟨rfl, .inr ⟨w.heap.size, 2, #[.int .i64 a, .int .i64 b], rfl, Nat.le_refl _, heap_alloc_new _ _, Nat.le_refl _, by decide, rfl, rfl⟩⟩

theorem circle_calls (i j : Int) (w : World) :
    Calls Tryd.prog 39 #[.int .i64 i, .int .i64 j] w (ErrPost w (if 1 ≤ i ∧ i ≤ j ∧ j ≤ 40 then 0 else 2) [i - 1, j]) := by
  by_cases h : 1 ≤ i ∧ i ≤ j ∧ j ≤ 40
  · rw [if_pos h]
    obtain ⟨h1, h2, h3⟩ := h
    go_enter Tryd.func39, Tryd.ntmps39
    go_wp2_with fail
    go_ret2
    exact ErrPost.ok rfl (OwnI.made2 w _ _) ((Below.refl _ w).alloc (Nat.le_refl _) _)
  · rw [if_neg h]
    have h3 : i < 1 ∨ (¬ i < 1 ∧ j < i) ∨ (¬ i < 1 ∧ ¬ j < i ∧ 40 < j) := by omega
    clear h
    rcases h3 with h1 | ⟨h1, h2⟩ | ⟨h1, h2, h3⟩
    all_goals
      go_enter Tryd.func39, Tryd.ntmps39
      go_wp2_with fail
      go_ret2
      exact ErrPost.err (by decide) (Below.refl _ _)

set_option maxHeartbeats 1000000 in
theorem drawn_two (A : Option Addr) (cap : Nat) (a b : Int) (w : World) (h : SL w A 2 [a, b]) (ha : 0 ≤ a ∧ a < b ∧ b ≤ 1000000) :
    Calls Tryd.prog 55 #[.slice A 2 cap] w fun e w' => e = .returned (.bool true) ∧ Below w.heap.size w w' := by
  have HA := Lib.hid ha
  clear ha
  go_enter Tryd.func55, Tryd.ntmps55
  go_wp2_with fail
  refine (arcs_two 0 (.inl rfl) A cap a b w h HA.out).mono ?_
  rintro e w1 ⟨g1, c1, rfl, p0, p1, hb1⟩
  have HT := Lib.hid (tangled_one g1 c1 a b w1 p0 p1)
  clear p0 p1
  go_wp2_with fail
  refine HT.out.mono ?_
  rintro e w2 ⟨rfl, hb2⟩
  have b2 : Below w.heap.size w w2 := hb1.trans (hb2.mono hb1.size)
  clear hb2
  go_wp2_with fail
  refine (arcs_two 1 (.inr rfl) A cap a b w2 (h.below b2) HA.out).mono ?_
  rintro e w3 ⟨g3, c3, rfl, q0, q1, hb3⟩
  have b3 : Below w.heap.size w w3 := b2.trans (hb3.mono b2.size)
  have HT3 := Lib.hid (tangled_one g3 c3 a b w3 q0 q1)
  clear q0 q1 hb3
  go_wp2_with fail
  refine HT3.out.mono ?_
  rintro e w4 ⟨rfl, hb4⟩
  go_wp2_with fail
  go_ret
  exact ⟨rfl, b3.trans (hb4.mono b3.size)⟩

theorem outer_two {x y : Int} (h : x < y) : outerM [x, y] 2 = some [1, 1] := by
  have hne : ¬ y = x := by omega
  simp [outerM, innerM, hne, List.replicate]
theorem reducedB_two {x y : Int} (h0 : 0 ≤ x) (h : x < y) (h1 : y ≤ 40) : reducedB [x, y] = true := by
  unfold reducedB
  have hv : validB 40 [x, y] = true := by
    rw [validB_iff]
    refine ⟨by decide, by decide, by simp, by simp, fun u hu => ?_⟩
    rcases List.mem_cons.1 hu with rfl | hu
    · omega
    · rw [List.mem_singleton] at hu; subst hu; omega
  rw [hv, Bool.true_and, cycB_true]
  intro i hi
  have : i = 0 ∨ i = 1 := by simp at hi; omega
  rcases this with rfl | rfl
  · simp; omega
  · simp; omega

set_option maxHeartbeats 1000000 in
theorem ranks_two (A : Option Addr) (cap : Nat) (x y : Int) (w : World) (h : SL w A 2 [x, y]) (h0 : 0 ≤ x) (hxy : x < y) (h1 : y ≤ 40) :
    Calls Tryd.prog 40 #[.slice A 2 cap] w (OkPost w [1, 1] 2) := by
  have hv := reducedB_two h0 hxy h1
  have hv1 : validB 40 [x, y] = true := by unfold reducedB at hv; simp only [Bool.and_eq_true] at hv; exact hv.1
  have HC := Lib.hid (check_calls 40 A 2 cap [x, y] w h (by decide))
  have HE := Lib.hid (errB_of_valid hv1)
  have HV := Lib.hid hv
  have HR := Lib.hid (reduced_calls A 2 cap [x, y] w h (by decide))
  have HO := Lib.hid (onlyRanks_calls A 2 cap [x, y] w h (by decide) (fun x hx => validB_range hv1 hx))
  have HN := Lib.hid (outer_two hxy)
  have HVR := Lib.hid hv1
  clear hv hv1
  go_enter Tryd.func40, Tryd.ntmps40
  go_wp2_with (first
    | (go_at_call 44; refine HC.out.mono ?_; rw [HE.out]; rintro e w' ⟨rfl, rfl⟩)
    | (go_at_call 17; refine HR.out.mono ?_; rw [HV.out]; rintro e w' ⟨rfl, rfl⟩)
    | (go_at_call 54; refine HO.out.mono ?_; rintro e w1 ⟨A1, c1, r, rfl, hown, hr, hc, hb⟩; obtain rfl := hr _ HN.out; rw [HN.out]))
  have HP := Lib.hid (positions_calls A A1 2 cap c1 [x, y] [1, 1] w1 (h.below hb) hown.sl (by decide) (fun u hu => validB_range HVR.out hu) (fun u hu => by simp at hu; omega))
  have hs1 := Lib.hid hown.sl
  clear hown hr
  refine HP.out.mono ?_
  rintro e w2 ⟨A2, c2, rfl, hown2, _, hb2⟩
  have e2 : posL [x, y] [1, 1] = [x * 401 + 1, y * 401 + 1] := rfl
  rw [e2] at hown2
  have b2 : Below w.heap.size w w2 := hb.trans (hb2.mono hb.size)
  have HD := Lib.hid (drawn_two A2 c2 (x * 401 + 1) (y * 401 + 1) w2 hown2.sl (by omega))
  have hs2 := Lib.hid (hs1.out.below hb2)
  clear hown2 e2 hb2
  go_wp2_with fail
  refine HD.out.mono ?_
  rintro e w3 ⟨rfl, hb3⟩
  go_wp2_with fail
  go_ret2
  exact ⟨A1, c1, rfl, hs2.out.below hb3, hc, b2.trans (hb3.mono b2.size)⟩

end Go.Proofs.YtiiepdcojkdidaaDoor
