/-
  The walks of strand and sign of codes.
-/
import Derived.Test.YtnommkbcffikaaaDoorOther
namespace Go.Proofs.YtnommkbcffikaaaDoor
open Go.RowKit

set_option maxHeartbeats 1000000 in
theorem strand_calls (o : Bool) (w : World) : Calls Tryd.prog 121 #[.bool o] w fun e w' => e = .returned (.string ⟨#[if o then 111 else 117]⟩) ∧ w' = w := by
  cases o
  · go_enter Tryd.func121, Tryd.ntmps121
    go_wp2_with fail
    go_ret
    exact ⟨rfl, rfl⟩
  · go_enter Tryd.func121, Tryd.ntmps121
    go_wp2_with fail
    go_ret
    exact ⟨rfl, rfl⟩

set_option maxHeartbeats 1000000 in
theorem sign_calls (s : Int) (w : World) : Calls Tryd.prog 122 #[.int .i64 s] w fun e w' => e = .returned (.string ⟨#[if s = 1 then 43 else if s = -1 then 45 else 63]⟩) ∧ w' = w := by
  by_cases h1 : s = 1
  · subst h1
    go_enter Tryd.func122, Tryd.ntmps122
    go_wp2_with fail
    go_ret
    exact ⟨rfl, rfl⟩
  · have e1 : (s == 1) = false := by rw [beq_eq_false_iff_ne]; exact h1
    have e1' : ((1 : Int) == s) = false := by rw [beq_eq_false_iff_ne]; exact fun c => h1 c.symm
    by_cases h2 : s = -1
    · subst h2
      go_enter Tryd.func122, Tryd.ntmps122
      go_wp2_with fail
      go_ret
      exact ⟨rfl, rfl⟩
    · have e2 : (s == -1) = false := by rw [beq_eq_false_iff_ne]; exact h2
      have e2' : ((-1 : Int) == s) = false := by rw [beq_eq_false_iff_ne]; exact fun c => h2 c.symm
      rw [if_neg h1, if_neg h2]
      go_enter Tryd.func122, Tryd.ntmps122
      go_wp2_with fail
      go_ret
      exact ⟨rfl, rfl⟩

end Go.Proofs.YtnommkbcffikaaaDoor
