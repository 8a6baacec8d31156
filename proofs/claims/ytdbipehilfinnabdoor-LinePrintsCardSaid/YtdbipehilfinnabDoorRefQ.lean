/-
  The reference's Print.
-/
import Derived.Test.YtdbipehilfinnabDoorRefP
namespace Go.Proofs.YtdbipehilfinnabDoor
open Go.RowKit

def RefPrintRel (xs : List Int) (n : Nat) (w : World) (v i : Value) (wr : World) : Prop :=
  ∃ j : Nat, 1 ≤ j ∧ j ≤ n ∧ i = .int .i64 j ∧ v = .string ⟨(printTo (xs.take j)).toArray⟩ ∧ (printTo (xs.take j)).length ≤ 22 * j ∧ Below w.heap.size w wr

set_option maxHeartbeats 1000000 in
set_option maxRecDepth 100000 in
theorem refPrint_calls (A : Option Addr) (n cap : Nat) (xs : List Int) (w : World) (h : SL w A n xs) (hn : n ≤ 100000) (hI : ∀ x, x ∈ xs → I64 x) :
    Calls Tryd.prog 20 #[.slice A n cap] w fun e w' => e = .returned (.string ⟨(printL xs).toArray⟩) ∧ Below w.heap.size w w' := by
  have HL := Lib.hid h.1
  have HI := Lib.hid hI
  clear hI
  by_cases h0 : n = 0
  · subst h0
    go_enter Tryd.func20, Tryd.ntmps20
    go_wp2
    go_ret
    refine ⟨?_, Below.refl _ _⟩
    unfold printL; rw [HL.out]; rfl
  · have hne : ((n : Int) == 0) = false := by rw [beq_eq_false_iff_ne]; omega
    obtain ⟨b, off, x, rfl, hbb, hx, hc⟩ := h.at_ (k := 0) (by omega)
    rw [Nat.add_zero] at hc
    have HN := Lib.hid (number_calls x (HI.out x (List.mem_of_getElem? hx)) w)
    have H0 := Lib.hid h0
    have HX := Lib.hid hx
    have hp : 0 < n := by omega
    have hpi : (0 : Int) < n := by omega
    clear h0 hx
    go_enter Tryd.func20, Tryd.ntmps20
    go_wp2_with (go_at_call 42; refine HN.out.mono ?_; rintro e w1 ⟨rfl, hb1⟩)
    clear hc
    go_loopw [3, 4] (fun v i wr => RefPrintRel xs n w v i wr) (fun _ i _ => n - (intOf i).toNat)
    case atStart =>
      have e : xs.take 1 = [x] := by
        cases xs with
        | nil => cases HX.out
        | cons y l => have := HX.out; injection this with this; subst this; rfl
      have hl21 := Lib.itoa_length_le x (HI.out x (List.mem_of_getElem? HX.out)).1 (HI.out x (List.mem_of_getElem? HX.out)).2
      exact ⟨1, Nat.le_refl _, hp, rfl, by rw [e, printTo_one], by rw [e, printTo_one]; omega, hb1⟩
    case round =>
      obtain ⟨j, hj1, hj, rfl, rfl, hlen, hb⟩ := hrel
      by_cases hlt : j < n
      · obtain ⟨b2, off2, y, hA, hbb2, hy, hcy⟩ := (h.below hb).at_ hlt
        injection hA with hA
        injection hA with e1 e2
        subst e1; subst e2
        have hIy := HI.out y (List.mem_of_getElem? hy)
        have hl21 := Lib.itoa_length_le y hIy.1 hIy.2
        have HNY := Lib.hid (number_calls y hIy wr)
        have l1 : ¬ 9223372036854775807 < (printTo (xs.take j)).length + 1 := by omega
        have l2 : ¬ 9223372036854775807 < (printTo (xs.take j)).length + 1 + (Lib.itoa y).length := by omega
        have hne2 : xs.take j ≠ [] := by
          intro e
          have := congrArg List.length e
          rw [List.length_take, HL.out] at this
          simp at this
          omega
        have HS : Hid (printTo (xs.take (j + 1)) = printTo (xs.take j) ++ 32 :: Lib.itoa y) := by
          unfold Hid
          rw [List.take_add_one, hy]
          exact printTo_snoc hne2 y
        have hlen2 : (printTo (xs.take (j + 1))).length ≤ 22 * (j + 1) := by rw [HS.out, List.length_append, List.length_cons]; omega
        have HLEN := Lib.hid hlen2
        clear hy hlen2 hne2 hlen hl21
        go_wp2_with (go_at_call 42; refine HNY.out.mono ?_; rintro e w2 ⟨rfl, hb2⟩)
        go_roundw
        case rel => exact ⟨j + 1, by omega, by omega, by rw [Int.natCast_add]; rfl, by rw [HS.out, show (32 : UInt8) :: Lib.itoa y = [32] ++ Lib.itoa y from rfl, ← List.append_assoc, ← bytes_app, ← bytes_app], HLEN.out, hb.trans (hb2.mono hb.size)⟩
        case measure => simp [intOf]; omega
      · obtain rfl : j = n := by omega
        go_wp2_with fail
        go_ret
        refine ⟨?_, hb⟩
        rw [List.take_of_length_le (by rw [HL.out]; exact Nat.le_refl _)]
        unfold printL
        rw [if_neg (by rw [HL.out]; exact H0.out)]
        rfl

end Go.Proofs.YtdbipehilfinnabDoor
