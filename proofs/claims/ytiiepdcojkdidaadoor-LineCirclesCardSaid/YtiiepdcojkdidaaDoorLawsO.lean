/-
  The walk of the law LineCircles.
-/
import Derived.Test.YtiiepdcojkdidaaDoorCirc
namespace Go.Proofs.YtiiepdcojkdidaaDoor
open Go.RowKit

theorem circle_at (i j : Int) (m : Nat) : wsum [i - 1, j] m 2 = (if i - 1 ≤ (m : Int) then 1 else 0) + (if j ≤ (m : Int) then -1 else 0) := by
  simp only [wsum]
  simp
theorem circle_in {i j : Int} {m : Nat} (h1 : i ≤ (m : Int) + 1) (h2 : (m : Int) + 1 ≤ j) : wsum [i - 1, j] m 2 = 1 := by
  rw [circle_at, if_pos (by omega), if_neg (by omega)]; rfl
theorem circle_out {i j : Int} {m : Nat} (h : (m : Int) + 1 < i ∨ j < (m : Int) + 1) (hij : i ≤ j) : wsum [i - 1, j] m 2 = 0 := by
  rw [circle_at]
  by_cases h1 : i - 1 ≤ (m : Int)
  · rw [if_pos h1, if_pos (by omega)]; rfl
  · rw [if_neg h1, if_neg (by omega)]; rfl
theorem sl_two (w : World) (a b : Int) : SL (w.alloc (.cells #[.int .i64 a, .int .i64 b] 3)) (some ⟨w.heap.size, 0, none⟩) 2 [a, b] := SL.made w 3 [a, b]
theorem validB_circle {i j k : Int} (h1 : 1 ≤ i) (h2 : i ≤ j) (h3 : j ≤ k) (h4 : k ≤ 40) : validB k [i - 1, j] = true := by
  rw [validB_iff]
  refine ⟨by omega, h4, by simp, by simp, fun u hu => ?_⟩
  rcases List.mem_cons.1 hu with rfl | hu
  · omega
  · rw [List.mem_singleton] at hu; subst hu; omega
def CircRel (kn : Nat) (w : World) (f : Value) (wr : World) : Prop := ∃ m : Nat, m ≤ kn ∧ f = .int .i64 ((m : Int) + 1) ∧ Below w.heap.size w wr

set_option maxHeartbeats 4000000 in
set_option maxRecDepth 100000 in
theorem lineCircles_walk (i j k : Int) (w : World) (_hi : I64 i) (_hj : I64 j) (_hk : I64 k) (_t : True) :
    Calls Tryd.prog 13 #[.int .i64 i, .int .i64 j, .int .i64 k] w fun e w' => e = .returned (.bool true) ∧ Below w.heap.size w w' := by
  have HC := Lib.hid (circle_calls i j w)
  by_cases h : 1 ≤ i ∧ i ≤ j ∧ j ≤ 40
  · have HK := Lib.hid (HC.out.mono fun e w' hp => OkPost.of (n := 2) (if_pos h) rfl hp)
    obtain ⟨i1, ij, j40⟩ := h
    by_cases hk : j ≤ k ∧ k ≤ 40
    · obtain ⟨jk, k40⟩ := hk
      obtain ⟨kn, rfl⟩ := Int.eq_ofNat_of_zero_le (by omega : 0 ≤ k)
      have HE := Lib.hid (errB_of_valid (validB_circle i1 ij jk k40))
      go_enter Tryd.func13, Tryd.ntmps13
      go_wp2_with fail
      refine HK.out.mono ?_
      rintro e w1 ⟨A1, c1, rfl, s1, hc1, hb1⟩
      have HS1 := Lib.hid s1
      clear s1
      go_wp2_with fail
      refine (equal_yes A1 _ 2 c1 2 [i - 1, j] _ (HS1.out.alloc _) (sl_two w1 _ _) (by decide)).mono ?_
      rintro e w2 ⟨rfl, hb2⟩
      have b12 : Below w1.heap.size w1 w2 := ((Below.refl _ w1).alloc (Nat.le_refl _) _).trans (hb2.mono (by simp))
      have H := Lib.hid (show Held w w2 [(A1, 2, [i - 1, j])] from ⟨hb1.trans (b12.mono hb1.size), fun t ht => by rw [List.mem_singleton] at ht; subst ht; exact HS1.out.below b12⟩)
      clear hb1 hb2 b12
      go_wp2_with fail
      refine (winding_ok c1 (H.out.get 0 rfl) (by decide) HE.out).mono ?_
      rintro e w3 ⟨A3, c3, rfl, s3, hc3, hb3⟩
      have H := Lib.hid (H.out.add hb3 s3)
      clear s3 hb3
      go_wp2_with fail
      refine (ranks_two A1 c1 (i - 1) j w3 (H.out.get 1 rfl) (by omega) (by omega) j40).mono ?_
      rintro e w4 ⟨A4, c4, rfl, s4, hc4, hb4⟩
      have H := Lib.hid (H.out.add hb4 s4)
      clear s4 hb4
      go_wp2_with fail
      refine (equal_yes A4 _ 2 c4 2 [1, 1] _ ((H.out.get 0 rfl).alloc _) (sl_two w4 _ _) (by decide)).mono ?_
      rintro e w5 ⟨rfl, hb5⟩
      have b45 : Below w4.heap.size w4 w5 := ((Below.refl _ w4).alloc (Nat.le_refl _) _).trans (hb5.mono (by simp))
      have H := Lib.hid (H.out.step b45)
      clear hb5 b45
      go_wp2_with fail
      go_loopw [13] (fun f wr => CircRel kn w5 f wr) (fun f _ => kn + 1 - (intOf f).toNat)
      case atStart => exact ⟨0, Nat.zero_le _, rfl, Below.refl _ _⟩
      case round =>
        obtain ⟨m, hm, rfl, hb⟩ := hrel
        have HB := Lib.hid hb
        by_cases hlt : m < kn
        · obtain ⟨b, off, x, rfl, hbs, hx, hc⟩ := ((H.out.get 1 rfl).below hb).at_ hlt
          have hxw : wsum [i - 1, j] m 2 = x := by
            unfold windL at hx
            rw [List.getElem?_map, List.getElem?_range hlt] at hx
            injection hx
          have hj1 : (m : Int) + 1 - 1 < kn := by omega
          have hj2 : 0 ≤ (m : Int) + 1 - 1 := by omega
          have hj3 : (m : Int) < kn := by omega
          have hj4 : (m : Int) + 1 ≤ kn := by omega
          clear hx hb
          have h3 : (i ≤ (m : Int) + 1 ∧ (m : Int) + 1 ≤ j) ∨ (m : Int) + 1 < i ∨ (i ≤ (m : Int) + 1 ∧ j < (m : Int) + 1) := by omega
          rcases h3 with ⟨q1, q2⟩ | q1 | ⟨q1, q2⟩
          · have hx1 : x = 1 := by rw [← hxw]; exact circle_in q1 q2
            subst hx1
            clear hxw
            go_wp2_with fail
            go_roundw
            case rel => exact ⟨m + 1, by omega, by rw [Int.natCast_add]; rfl, HB.out⟩
            case measure => simp [intOf]; omega
          · have hx0 : x = 0 := by rw [← hxw]; exact circle_out (.inl q1) ij
            subst hx0
            clear hxw
            go_wp2_with fail
            go_roundw
            case rel => exact ⟨m + 1, by omega, by rw [Int.natCast_add]; rfl, HB.out⟩
            case measure => simp [intOf]; omega
          · have hx0 : x = 0 := by rw [← hxw]; exact circle_out (.inr q2) ij
            subst hx0
            clear hxw
            go_wp2_with fail
            go_roundw
            case rel => exact ⟨m + 1, by omega, by rw [Int.natCast_add]; rfl, HB.out⟩
            case measure => simp [intOf]; omega
        · obtain rfl : m = kn := by omega
          have b6 := H.out.1.trans (hb.mono H.out.1.size)
          go_wp2_with fail
          refine (known_after b6).mono ?_
          rintro e wc ⟨rfl, hbc⟩
          go_wp2_with fail
          go_ret
          exact ⟨rfl, hbc⟩
    · have h3 : k < j ∨ (¬ k < j ∧ 40 < k) := by omega
      clear hk
      rcases h3 with q1 | ⟨q1, q2⟩
      all_goals
        go_enter Tryd.func13, Tryd.ntmps13
        go_wp2_with fail
        refine HK.out.mono ?_
        rintro e w1 ⟨A1, c1, rfl, s1, hc1, hb1⟩
        have HS1 := Lib.hid s1
        clear s1
        go_wp2_with fail
        refine (equal_yes A1 _ 2 c1 2 [i - 1, j] _ (HS1.out.alloc _) (sl_two w1 _ _) (by decide)).mono ?_
        rintro e w2 ⟨rfl, hb2⟩
        have b12 : Below w1.heap.size w1 w2 := ((Below.refl _ w1).alloc (Nat.le_refl _) _).trans (hb2.mono (by simp))
        have b2 := hb1.trans (b12.mono hb1.size)
        clear hb1 hb2 b12
        go_wp2_with fail
        refine (known_after b2).mono ?_
        rintro e wc ⟨rfl, hbc⟩
        go_wp2_with fail
        go_ret
        exact ⟨rfl, hbc⟩
  · have HK := Lib.hid (HC.out.mono fun e w' hp => ErrPost.get_err (by rw [if_neg h]; decide) hp)
    rw [if_neg h] at HK
    have h3 : i < 1 ∨ (¬ i < 1 ∧ j < i) ∨ (¬ i < 1 ∧ ¬ j < i ∧ 40 < j) := by omega
    clear h HC
    rcases h3 with h1 | ⟨h1, h2⟩ | ⟨h1, h2, h3⟩
    all_goals
      go_enter Tryd.func13, Tryd.ntmps13
      go_wp2_with fail
      refine HK.out.mono ?_
      rintro e w1 ⟨A1, c1, rfl, hb1⟩
      go_wp2_with fail
      refine (known_after hb1).mono ?_
      rintro e wc ⟨rfl, hbc⟩
      go_wp2_with fail
      go_ret
      exact ⟨rfl, hbc⟩

end Go.Proofs.YtiiepdcojkdidaaDoor
