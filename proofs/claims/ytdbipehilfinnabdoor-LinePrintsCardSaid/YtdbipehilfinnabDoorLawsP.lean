/-
  The walks of the laws LineParses and LinePrints.
-/
import Derived.Test.YtdbipehilfinnabDoorDoorT
namespace Go.Proofs.YtdbipehilfinnabDoor
open Go.RowKit

theorem known_at {w W : World} (hb : Below w.heap.size w W) : Calls Tryd.prog 9 #[] W fun e w' => e = .returned (.bool true) ∧ Below w.heap.size w w' :=
  (known_calls W).mono fun _ _ ⟨he, hb'⟩ => ⟨he, hb.trans (hb'.mono hb.size)⟩

theorem validB_len {k : Int} {xs : List Int} (h : validB k xs = true) : xs.length ≤ 400 := by
  unfold validB at h
  simp only [Bool.and_eq_true, decide_eq_true_eq] at h
  exact h.1.1.2

set_option maxHeartbeats 1000000 in
set_option maxRecDepth 100000 in
theorem lineParses_walk (s : ByteArray) (w : World) (hT : Tabs w ∧ TabsI w) :
    Calls Tryd.prog 6 #[.string s] w fun e w' => e = .returned (.bool true) ∧ Below w.heap.size w w' := by
  have HP := Lib.hid (parse_calls s w hT.1)
  go_enter Tryd.func6, Tryd.ntmps6
  go_wp2_with fail
  refine HP.out.mono ?_
  rintro e w1 ⟨hb1, (⟨h2, rfl⟩ | ⟨h2, A, n, c, ws, rfl, hsl, hv, hp⟩ | ⟨h2, rfl, hnw⟩)⟩
  · have h2i : (2000 : Int) < s.size := by omega
    go_wp2_with (go_at_call 9; refine (known_at hb1).mono ?_; rintro e wz ⟨rfl, hz⟩)
    go_ret
    exact ⟨rfl, hz⟩
  · have h2i : ¬ (2000 : Int) < s.size := by omega
    have hl := hsl.1
    have hl400 := validB_len hv
    have HW := Lib.hid (word_calls A n c ws w1 hsl (by unfold maxLen; omega))
    have HR := Lib.hid (refPrint_calls A n c ws w1 hsl (by omega) (fun x hx => by have := validB_range hv hx; exact ⟨by omega, by omega⟩))
    have hpb : (printL ws == s.toList) = true := by rw [ByteArray.toList_eq, beq_iff_eq]; exact hp
    have HV := Lib.hid hv
    clear hv hp hsl hl hl400
    go_wp2_with (first
      | (go_at_call 22; refine HW.out.mono ?_; rw [HV.out]; rintro e w' ⟨rfl, rfl⟩)
      | (go_at_call 20; refine HR.out.mono ?_; rintro e w3 ⟨rfl, hb3⟩)
      | (go_at_call 9; refine (known_at (hb1.trans (hb3.mono hb1.size))).mono ?_; rintro e wz ⟨rfl, hz⟩))
    go_ret
    exact ⟨rfl, hz⟩
  · have h2i : ¬ (2000 : Int) < s.size := by omega
    go_wp2_with (go_at_call 9; refine (known_at hb1).mono ?_; rintro e wz ⟨rfl, hz⟩)
    go_ret
    exact ⟨rfl, hz⟩

end Go.Proofs.YtdbipehilfinnabDoor
