/-
  MoveKinds: the walk.
-/
import Derived.Test.YtdjoolpdabffjaaGreatDoorKnM
import Derived.WalkKit
import Derived.Lib.Hide
import Derived.WalkSpells
import Derived.WalkLawsBesides
namespace Go.Proofs.YtdjoolpdabffjaaGreatDoor
open Go.RowKit

/-- The kind that leads back. -/
def oppM (k : Int) : Int := if k = 1 then 2 else if k = 2 then 1 else if k = 4 then 5 else if k = 5 then 4 else if k = 6 then 7 else if k = 7 then 6 else if k = 9 then 10 else if k = 10 then 9 else if k = 3 then 3 else if k = 8 then 8 else 0

theorem kind_cases (k : Int) : k = 1 ∨ k = 2 ∨ k = 3 ∨ k = 4 ∨ k = 5 ∨ k = 6 ∨ k = 7 ∨ k = 8 ∨ k = 9 ∨ k = 10 ∨ (k ≠ 1 ∧ k ≠ 2 ∧ k ≠ 3 ∧ k ≠ 4 ∧ k ≠ 5 ∧ k ≠ 6 ∧ k ≠ 7 ∧ k ≠ 8 ∧ k ≠ 9 ∧ k ≠ 10) := by omega

set_option maxHeartbeats 1000000 in
theorem opposite_calls (k : Int) (w : World) : Calls Tryz.prog 6 #[.int .i64 k] w fun e w' => e = .returned (.int .i64 (oppM k)) ∧ w' = w := by
  rcases kind_cases k with rfl | rfl | rfl | rfl | rfl | rfl | rfl | rfl | rfl | rfl | ⟨h1, h2, h3, h4, h5, h6, h7, h8, h9, h10⟩
  all_goals
    go_enter Tryz.func6, Tryz.ntmps6
    go_wp2_with fail
    go_ret
    first
      | exact ⟨rfl, rfl⟩
      | exact ⟨by unfold oppM; simp [h1, h2, h3, h4, h5, h6, h7, h8, h9, h10], rfl⟩

set_option maxHeartbeats 1000000 in
theorem refOpposite_calls (k : Int) (w : World) : Calls Tryz.prog 7 #[.int .i64 k] w fun e w' => e = .returned (.int .i64 (oppM k)) ∧ w' = w := by
  rcases kind_cases k with rfl | rfl | rfl | rfl | rfl | rfl | rfl | rfl | rfl | rfl | ⟨h1, h2, h3, h4, h5, h6, h7, h8, h9, h10⟩
  all_goals
    go_enter Tryz.func7, Tryz.ntmps7
    go_wp2_with fail
    go_ret
    first
      | exact ⟨rfl, rfl⟩
      | exact ⟨by unfold oppM; simp [h1, h2, h3, h4, h5, h6, h7, h8, h9, h10], rfl⟩

def slackB (k : Int) : Bool := decide (1 ≤ k) && decide (k ≤ 8)

set_option maxHeartbeats 1000000 in
theorem slack_calls (k : Int) (w : World) : Calls Tryz.prog 8 #[.int .i64 k] w fun e w' => e = .returned (.bool (slackB k)) ∧ w' = w := by
  obtain ⟨b, hb⟩ : ∃ b, slackB k = b := ⟨_, rfl⟩
  rw [hb]
  have HBB := Lib.hid hb
  clear hb
  go_enter Tryz.func8, Tryz.ntmps8
  go_wp2_with fail
  all_goals
    go_ret
    have h := HBB.out
    refine ⟨?_, rfl⟩
    rw [← h]
    simp [slackB]
    omega

set_option maxHeartbeats 4000000 in
theorem moveKinds_walk (k : Int) (w : World) (_hk : I64 k) (hT : Vr.TabAt w 0 spellB) :
    Calls Tryz.prog 3 #[.int .i64 k] w fun e w' => e = .returned (.bool true) ∧ Below w.heap.size w w' := by
  have HK := Lib.hid (known_calls hT)
  obtain ⟨o, ho⟩ : ∃ o, oppM k = o := ⟨_, rfl⟩
  have HO := Lib.hid (opposite_calls k w)
  rw [ho] at HO
  have HR := Lib.hid (refOpposite_calls k w)
  rw [ho] at HR
  clear ho
  have HS := Lib.hid (slack_calls k w)
  by_cases h1 : 1 ≤ k <;> by_cases h2 : k ≤ 8 <;> by_cases h3 : k ≤ 10
  all_goals
    have hs : slackB k = (decide (1 ≤ k) && decide (k ≤ 8)) := rfl
    simp only [h1, h2, decide_true, decide_false, Bool.and_true, Bool.and_false] at hs
    rw [hs] at HS
    clear hs
    go_enter Tryz.func3, Tryz.ntmps3
    go_wp2_with (first
      | (go_at_call 6; refine HO.out.mono ?_; rintro e w' ⟨rfl, rfl⟩)
      | (go_at_call 7; refine HR.out.mono ?_; rintro e w' ⟨rfl, rfl⟩)
      | (go_at_call 8; refine HS.out.mono ?_; rintro e w' ⟨rfl, rfl⟩)
      | (go_at_call 9; refine HK.out.mono ?_; rintro e w' ⟨rfl, hb⟩))
    all_goals first
      | (exfalso; omega)
      | (go_ret; exact ⟨rfl, hb⟩)
      | (go_ret; refine ⟨?_, hb⟩; simp; omega)

end Go.Proofs.YtdjoolpdabffjaaGreatDoor
