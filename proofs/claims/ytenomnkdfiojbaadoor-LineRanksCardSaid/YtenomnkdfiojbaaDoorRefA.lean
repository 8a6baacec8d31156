/-
  The walks of the law package's wrong, wrongFor.
-/
import Derived.Test.YtenomnkdfiojbaaDoorRefV
namespace Go.Proofs.YtenomnkdfiojbaaDoor
open Go.RowKit

set_option maxHeartbeats 1000000 in
theorem wrong_calls (A : Option Addr) (n cap : Nat) (xs : List Int) (w : World) (h : SL w A n xs) (hn : n ≤ maxLen) :
    Calls Tryd.prog 16 #[.slice A n cap] w fun e w' => e = .returned (.int .i64 (errB 40 xs)) ∧ w = w' := by
  have HL := Lib.hid h.1
  have HW := Lib.hid (word_calls A n cap xs w h hn)
  by_cases h4 : n ≤ 400
  · cases hv : validB 40 xs with
    | true =>
      have HV := Lib.hid hv
      clear hv
      go_enter Tryd.func16, Tryd.ntmps16
      go_wp2_with (go_at_call 21; refine HW.out.mono ?_; rw [HV.out]; rintro e w' ⟨rfl, rfl⟩)
      go_ret
      exact ⟨ret_int (by unfold errB; rw [HL.out, HV.out, if_neg (by omega)]; rfl), rfl⟩
    | false =>
      have HV := Lib.hid hv
      clear hv
      go_enter Tryd.func16, Tryd.ntmps16
      go_wp2_with (go_at_call 21; refine HW.out.mono ?_; rw [HV.out]; rintro e w' ⟨rfl, rfl⟩)
      go_ret
      exact ⟨ret_int (by unfold errB; rw [HL.out, HV.out, if_neg (by omega)]; rfl), rfl⟩
  · unfold maxLen at hn
    go_enter Tryd.func16, Tryd.ntmps16
    go_wp2_with fail
    go_ret
    exact ⟨ret_int (by unfold errB; rw [HL.out, if_pos (by omega)]), rfl⟩

theorem errB_valid40 {k : Int} {xs : List Int} (h : validB k xs = true) : validB 40 xs = true := by
  rw [validB_split] at h
  simp only [Bool.and_eq_true] at h
  exact h.1.2

set_option maxHeartbeats 1000000 in
theorem wrongFor_calls (k : Int) (A : Option Addr) (n cap : Nat) (xs : List Int) (w : World) (h : SL w A n xs) (hn : n ≤ maxLen) :
    Calls Tryd.prog 26 #[.int .i64 k, .slice A n cap] w fun e w' => e = .returned (.int .i64 (errB k xs)) ∧ w = w' := by
  have HL := Lib.hid h.1
  have HW := Lib.hid (wrong_calls A n cap xs w h hn)
  have HV := Lib.hid (refValid_calls k A n cap xs w h hn)
  by_cases h4 : 400 < n
  · have e4 : Hid (errB 40 xs = 7) := by unfold Hid errB; rw [HL.out, if_pos h4]
    have ek : Hid (errB k xs = 7) := by unfold Hid errB; rw [HL.out, if_pos h4]
    go_enter Tryd.func26, Tryd.ntmps26
    go_wp2_with (go_at_call 16; refine HW.out.mono ?_; rw [e4.out]; rintro e w' ⟨rfl, rfl⟩)
    go_ret
    exact ⟨ret_int ek.out.symm, rfl⟩
  · cases hv : validB k xs with
    | true =>
      have e4 : Hid (errB 40 xs = 0) := errB_of_valid' (errB_valid40 hv)
      have ek : Hid (errB k xs = 0) := errB_of_valid' hv
      have HVV := Lib.hid hv
      clear hv
      go_enter Tryd.func26, Tryd.ntmps26
      go_wp2_with (first
        | (go_at_call 16; refine HW.out.mono ?_; rw [e4.out]; rintro e w' ⟨rfl, rfl⟩)
        | (go_at_call 30; refine HV.out.mono ?_; rw [HVV.out]; rintro e w' ⟨rfl, rfl⟩))
      go_ret
      exact ⟨ret_int ek.out.symm, rfl⟩
    | false =>
      have ek : Hid (errB k xs = 2) := by unfold Hid errB; rw [HL.out, if_neg h4, hv]; rfl
      have hne : (errB 40 xs == 7) = false := by
        rw [beq_eq_false_iff_ne]
        unfold errB
        rw [HL.out, if_neg h4]
        split <;> omega
      have HVV := Lib.hid hv
      clear hv
      go_enter Tryd.func26, Tryd.ntmps26
      go_wp2_with (first
        | (go_at_call 16; refine HW.out.mono ?_; rintro e w' ⟨rfl, rfl⟩)
        | (go_at_call 30; refine HV.out.mono ?_; rw [HVV.out]; rintro e w' ⟨rfl, rfl⟩))
      go_ret
      exact ⟨ret_int ek.out.symm, rfl⟩

end Go.Proofs.YtenomnkdfiojbaaDoor
