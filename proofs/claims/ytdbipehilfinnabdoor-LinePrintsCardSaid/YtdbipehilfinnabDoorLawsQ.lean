/-
  The walk of the law LinePrints.
-/
import Derived.Test.YtdbipehilfinnabDoorLawsP
namespace Go.Proofs.YtdbipehilfinnabDoor
open Go.RowKit

theorem itoa_len2 : ∀ i : Nat, i < 41 → (Lib.itoa (i : Int)).length ≤ 2 := by decide +kernel
theorem flat_len : ∀ l : List Int, (∀ x, x ∈ l → 0 ≤ x ∧ x ≤ 40) → (l.flatMap fun y => 32 :: Lib.itoa y).length ≤ 3 * l.length
  | [], _ => by simp
  | x :: l, h => by
    obtain ⟨x0, x1⟩ := h x (List.mem_cons_self ..)
    obtain ⟨i, rfl⟩ := Int.eq_ofNat_of_zero_le x0
    have h1 := itoa_len2 i (by omega)
    have h2 := flat_len l (fun y hy => h y (List.mem_cons_of_mem _ hy))
    rw [List.flatMap_cons, List.length_append, List.length_cons, List.length_cons]
    omega
theorem printL_len {xs : List Int} (h : validB 40 xs = true) : (printL xs).length ≤ 1200 := by
  have hl := validB_len h
  cases xs with
  | nil => simp [printL]
  | cons x r =>
    obtain ⟨x0, x1⟩ := validB_range h (List.mem_cons_self ..)
    obtain ⟨i, rfl⟩ := Int.eq_ofNat_of_zero_le x0
    have h1 := itoa_len2 i (by omega)
    have h2 := flat_len r (fun y hy => validB_range h (List.mem_cons_of_mem _ hy))
    rw [printL_cons, printTo, List.length_append]
    rw [List.length_cons] at hl
    omega

set_option maxHeartbeats 1000000 in
set_option maxRecDepth 100000 in
theorem linePrints_walk (A : Option Addr) (n cap : Nat) (xs : List Int) (w : World) (h : SL w A n xs) (hn : n ≤ maxLen) (hi : ∀ y, y ∈ xs → I64 y) (_hs : (A = none → cap = 0) ∧ n ≤ cap) (hT : Tabs w ∧ TabsI w) :
    Calls Tryd.prog 5 #[.slice A n cap] w fun e w' => e = .returned (.bool true) ∧ Below w.heap.size w w' := by
  by_cases h1 : 1000 < n
  · have h1i : (1000 : Int) < n := by omega
    go_enter Tryd.func5, Tryd.ntmps5
    go_wp2_with (go_at_call 9; refine (known_at (Below.refl w.heap.size w)).mono ?_; rintro e wz ⟨rfl, hz⟩)
    go_ret
    exact ⟨rfl, hz⟩
  · have h1i : ¬ (1000 : Int) < n := by omega
    have HP := Lib.hid (print_calls A n cap xs w h (by omega) (fun x hx => itoaAt_any hT.2 (hi x hx)) (fun x hx => Lib.itoa_length_le x (hi x hx).1 (hi x hx).2))
    have HL := Lib.hid h.1
    have HS := Lib.hid h
    have HI := Lib.hid hi
    have hnn : n ≤ 1000 := by omega
    have hself : (printL xs == printL xs) = true := by simp
    clear hi h
    go_enter Tryd.func5, Tryd.ntmps5
    go_wp2_with fail
    refine HP.out.mono ?_
    rintro e w1 ⟨rfl, hb1⟩
    go_wp2_with fail
    refine (refPrint_calls A n cap xs w1 (HS.out.below hb1) (by omega) HI.out).mono ?_
    rintro e w2 ⟨rfl, hb2⟩
    have hb := hb1.trans (hb2.mono hb1.size)
    clear hb1 hb2
    go_wp2_with fail
    refine (parse_calls ⟨(printL xs).toArray⟩ w2 (hT.1.below hb)).mono ?_
    have HW := fun (W : World) (hW : Below w.heap.size w W) => word_calls A n cap xs W (HS.out.below hW) hn
    rintro e w3 ⟨hb3, (⟨h2, rfl⟩ | ⟨h2, A3, n3, c3, ws, rfl, hsl, hv, hp⟩ | ⟨h2, rfl, hnw⟩)⟩
    · have hB := hb.trans (hb3.mono hb.size)
      cases hv : validB 40 xs with
      | true =>
        have := printL_len hv
        have e2 : (⟨(printL xs).toArray⟩ : ByteArray).size = (printL xs).length := by simp [ByteArray.size]
        omega
      | false =>
        have HWW := Lib.hid (HW w3 hB)
        have HV := Lib.hid hv
        clear hv HW
        go_wp2_with (first
          | (go_at_call 22; refine HWW.out.mono ?_; rw [HV.out]; rintro e w' ⟨rfl, rfl⟩)
          | (go_at_call 9; refine (known_at hB).mono ?_; rintro e wz ⟨rfl, hz⟩))
        go_ret
        exact ⟨rfl, hz⟩
    · have hB := hb.trans (hb3.mono hb.size)
      have e : ws = xs := printL_inj hp
      subst e
      have hl3 := hsl.1
      have hl := HL.out
      obtain rfl : n3 = n := by omega
      have HWW := Lib.hid (HW w3 hB)
      have HE := Lib.hid (equal_yes A3 A n3 c3 cap ws w3 hsl (HS.out.below hB) hnn)
      have HV := Lib.hid hv
      clear hv HW
      go_wp2_with (first
        | (go_at_call 22; refine HWW.out.mono ?_; rw [HV.out]; rintro e w' ⟨rfl, rfl⟩)
        | (go_at_call 18; refine HE.out.mono ?_; rintro e w4 ⟨rfl, hb4⟩)
        | (go_at_call 9; refine (known_at (hB.trans (hb4.mono hB.size))).mono ?_; rintro e wz ⟨rfl, hz⟩))
      go_ret
      exact ⟨rfl, hz⟩
    · have hB := hb.trans (hb3.mono hb.size)
      cases hv : validB 40 xs with
      | true => exact absurd rfl (hnw xs hv)
      | false =>
        have HWW := Lib.hid (HW w3 hB)
        have HV := Lib.hid hv
        clear hv HW
        go_wp2_with (first
          | (go_at_call 22; refine HWW.out.mono ?_; rw [HV.out]; rintro e w' ⟨rfl, rfl⟩)
          | (go_at_call 9; refine (known_at hB).mono ?_; rintro e wz ⟨rfl, hz⟩))
        go_ret
        exact ⟨rfl, hz⟩

end Go.Proofs.YtdbipehilfinnabDoor
