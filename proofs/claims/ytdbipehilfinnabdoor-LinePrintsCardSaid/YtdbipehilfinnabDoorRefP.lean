/-
  The reference's number and Print.
-/
import Derived.Test.YtdbipehilfinnabDoorParse
namespace Go.Proofs.YtdbipehilfinnabDoor
open Go.RowKit

theorem conv_digit (u : Nat) (h : u < 10) (w : World) :
    (convert 55 9 (.slice (some ⟨w.heap.size, 0, none⟩) 1 1)).run Tryd.prog (w.alloc (.cells #[.int .u8 (48 + (u : Int))] 5)) = .ok (.string ⟨(Lib.decDigits u).toArray⟩) (w.alloc (.cells #[.int .u8 (48 + (u : Int))] 5)) := by
  rw [Lib.decDigits_one h]
  refine run_convert_bytes_back (P := Tryd.prog) _ 55 9 5 ⟨w.heap.size, 0, none⟩ 1 [UInt8.ofNat (48 + u)] (by kernel_rfl) (by kernel_rfl) (by kernel_rfl) ?_
  intro j hj
  simp only [List.length_singleton] at hj
  obtain rfl : j = 0 := by omega
  rw [Go.WideShapes.add_plain, World.cell?_alloc_new]
  simp
  omega

theorem bytes_app (a b : List UInt8) : (⟨a.toArray⟩ : ByteArray) ++ (⟨b.toArray⟩ : ByteArray) = ⟨(a ++ b).toArray⟩ := by
  apply Go.WideShapes.bytes_inj
  simp
theorem decDigits_len {u : Nat} (h : u ≤ 9223372036854775807) : (Lib.decDigits u).length ≤ 21 := by
  rw [← Lib.itoa_nonneg]
  exact Lib.itoa_length_le _ (by omega) (by omega)

set_option maxHeartbeats 1000000 in
set_option maxRecDepth 100000 in
theorem number_pos (u : Nat) : u ≤ 9223372036854775807 → ∀ w : World, Calls Tryd.prog 42 #[.int .i64 u] w fun e w' => e = .returned (.string ⟨(Lib.decDigits u).toArray⟩) ∧ Below w.heap.size w w' := by
  induction u using Nat.strongRecOn with
  | ind u ih =>
    intro hu w
    have h0 : ¬ (u : Int) < 0 := by omega
    by_cases h : u < 10
    · have hi : (u : Int) < 10 := by omega
      have hc := conv_digit u h w
      have HC := Lib.hid hc
      clear hc ih
      go_enter Tryd.func42, Tryd.ntmps42
      go_wp2
      rw [HC.out]
      go_wp2
      go_ret
      exact ⟨rfl, (Below.refl _ _).alloc (Nat.le_refl _) _⟩
    · have hi : ¬ (u : Int) < 10 := by omega
      have h1 := ih (u / 10) (by omega) (by omega)
      have h2 := ih (u % 10) (by omega) (by omega)
      have e1 : ((u / 10 : Nat) : Int) = (u : Int) / 10 := by omega
      have e2 : ((u % 10 : Nat) : Int) = (u : Int) % 10 := by omega
      rw [e1] at h1
      rw [e2] at h2
      have H1 := Lib.hid h1
      have H2 := Lib.hid h2
      have HD : Hid (Lib.decDigits u = Lib.decDigits (u / 10) ++ Lib.decDigits (u % 10)) := by
        unfold Hid
        rw [Lib.decDigits_one (i := u % 10) (by omega), Lib.decDigits, dif_neg h]
      have l1 := decDigits_len (u := u / 10) (by omega)
      have l2 := decDigits_len (u := u % 10) (by omega)
      have l3 : ¬ 9223372036854775807 < (Lib.decDigits (u / 10)).length + (Lib.decDigits (u % 10)).length := by omega
      clear h1 h2 e1 e2 ih
      go_enter Tryd.func42, Tryd.ntmps42
      go_wp2_with (first
        | (with_reducible refine Calls.mono (H1.out _) ?_; rintro e w1 ⟨rfl, hb1⟩)
        | (with_reducible refine Calls.mono (H2.out _) ?_; rintro e w2 ⟨rfl, hb2⟩))
      go_ret
      refine ⟨?_, hb1.trans (hb2.mono hb1.size)⟩
      rw [HD.out, ← bytes_app]
      rfl

set_option maxHeartbeats 1000000 in
set_option maxRecDepth 100000 in
theorem number_calls (x : Int) (hx : I64 x) (w : World) : Calls Tryd.prog 42 #[.int .i64 x] w fun e w' => e = .returned (.string ⟨(Lib.itoa x).toArray⟩) ∧ Below w.heap.size w w' := by
  obtain ⟨x0, x1⟩ := hx
  by_cases h0 : x < 0
  · by_cases hm : x = -9223372036854775808
    · have HD : Hid (Lib.itoa (-9223372036854775808) = [45, 57, 50, 50, 51, 51, 55, 50, 48, 51, 54, 56, 53, 52, 55, 55, 53, 56, 48, 56]) := by unfold Hid; decide +kernel
      have hb : ((-9223372036854775808 : Int) == wrap64 9223372036854775808) = true := by unfold wrap64; decide
      go_enter Tryd.func42, Tryd.ntmps42
      go_wp2_with fail
      go_ret
      rw [hm, HD.out]
      exact ⟨rfl, Below.refl _ _⟩
    · obtain ⟨u, hu⟩ := Int.eq_ofNat_of_zero_le (a := -x) (by omega)
      obtain rfl : x = -(u : Int) := by omega
      have h1 := number_pos u (by omega)
      have HD : Hid (Lib.itoa (-(u : Int)) = 45 :: Lib.decDigits u) := Lib.itoa_neg u (by omega)
      have l1 := decDigits_len (u := u) (by omega)
      have l3 : ¬ 9223372036854775807 < 1 + (Lib.decDigits u).length := by omega
      have H1 := Lib.hid h1
      have hne : (-(u : Int) == (u : Int)) = false := by rw [beq_eq_false_iff_ne]; omega
      clear h1 hu
      go_enter Tryd.func42, Tryd.ntmps42
      go_wp2_with (with_reducible refine Calls.mono (H1.out _) ?_; rintro e w1 ⟨rfl, hb1⟩)
      go_ret
      refine ⟨?_, hb1⟩
      rw [HD.out, show (45 : UInt8) :: Lib.decDigits u = [45] ++ Lib.decDigits u from rfl, ← bytes_app]
      rfl
  · obtain ⟨u, rfl⟩ := Int.eq_ofNat_of_zero_le (a := x) (by omega)
    rw [Lib.itoa_nonneg]
    exact number_pos u (by omega) w

end Go.Proofs.YtdbipehilfinnabDoor
