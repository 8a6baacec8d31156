/-
  The walks of the laws LineTurns and LineSymmetries.
-/
import Derived.Test.YtenomnkdfiojbaaDoorLawsA
import Derived.Test.YtenomnkdfiojbaaDoorTurns
namespace Go.Proofs.YtenomnkdfiojbaaDoor
open Go.RowKit

theorem equal_after {w W : World} (hb : Below w.heap.size w W) (A1 A2 : Option Addr) (n c1 c2 : Nat) (xs : List Int) (h1 : SL W A1 n xs) (h2 : SL W A2 n xs) (hn : n ≤ 1000) :
    Calls Tryd.prog 18 #[.slice A1 n c1, .slice A2 n c2] W fun e w' => e = .returned (.bool true) ∧ Below W.heap.size W w' ∧ Below w.heap.size w w' :=
  (equal_yes A1 A2 n c1 c2 xs W h1 h2 hn).mono fun _ _ ⟨he, h⟩ => ⟨he, h, hb.trans (h.mono hb.size)⟩

set_option maxHeartbeats 4000000 in
set_option maxRecDepth 100000 in
theorem lineTurns_walk (k : Int) (A : Option Addr) (n cap : Nat) (xs : List Int) (w : World) (_hk : I64 k) (h : SL w A n xs) (hn : n ≤ maxLen) (_hi : ∀ y, y ∈ xs → I64 y) (hs : (A = none → cap = 0) ∧ n ≤ cap) (_t : True) :
    Calls Tryd.prog 6 #[.int .i64 k, .slice A n cap] w fun e w' => e = .returned (.bool true) ∧ Below w.heap.size w w' := by
  have HL := Lib.hid h.1
  have HR := Lib.hid (reverse_calls A n cap xs w h hn)
  have HM := Lib.hid (fun W (hb : Below w.heap.size w W) => mirror_calls k A n cap xs W (h.below hb) hn)
  have HT := Lib.hid (fun W (hb : Below w.heap.size w W) => turn_calls A n cap xs W (h.below hb) hn hs.2)
  have HW := Lib.hid (fun W (hb : Below w.heap.size w W) => wrong_calls A n cap xs W (h.below hb) hn)
  have HWF := Lib.hid (fun W (hb : Below w.heap.size w W) => wrongFor_calls k A n cap xs W (h.below hb) hn)
  by_cases h4 : errB 40 xs = 0
  · have hv4 := errB_ok h.1 h4
    have HR1 := Lib.hid (HR.out.mono fun e w' h => ErrPost.get_ok (n := n) h4 (by rw [List.length_reverse, HL.out]) h)
    have HT1 := Lib.hid (fun W (hb : Below w.heap.size w W) => (HT.out W hb).mono fun e w' h => ErrPost.get_ok (n := n) h4 (by rw [Ln.length_rot1, HL.out]) h)
    have H4 := Lib.hid h4
    have hr40 : ∀ x, x ∈ xs → 0 ≤ x ∧ x ≤ 40 := fun x hx => validB_range hv4.1 hx
    have HR40 := Lib.hid hr40
    have HV4 := Lib.hid hv4
    clear hr40 hv4
    by_cases hk : errB k xs = 0
    · have hvk := errB_ok h.1 hk
      have HM1 := Lib.hid (fun W (hb : Below w.heap.size w W) => (HM.out W hb).mono fun e w' h => ErrPost.get_ok (n := n) hk (by unfold mirrorL; rw [List.length_map, HL.out]) h)
      have HK := Lib.hid hk
      have HVK := Lib.hid hvk
      clear hk hvk h4
      go_enter Tryd.func6, Tryd.ntmps6
      go_wp2_with fail
      refine HR1.out.mono ?_
      rintro e w1 ⟨A1, c1, rfl, hown1, _, hb1⟩
      have s1 := Lib.hid hown1.sl
      clear hown1
      go_wp2_with fail
      refine (HM1.out w1 hb1).mono ?_
      rintro e w2 ⟨A2, c2, rfl, hown2, _, hb2⟩
      have b2 : Below w.heap.size w w2 := hb1.trans (hb2.mono hb1.size)
      have s1 := Lib.hid (s1.out.below hb2)
      have s2 := Lib.hid hown2.sl
      clear hown2 hb2
      go_wp2_with fail
      refine (HT1.out w2 b2).mono ?_
      rintro e w3 ⟨A3, c3, rfl, hown3, _, hb3⟩
      have b3 : Below w.heap.size w w3 := b2.trans (hb3.mono b2.size)
      have s1 := Lib.hid (s1.out.below hb3)
      have s2 := Lib.hid (s2.out.below hb3)
      have s3 := Lib.hid hown3.sl
      clear hown3 hb3
      go_wp2_with (first
        | ((with_reducible refine (HW.out w3 b3).mono ?_); rw [H4.out]; rintro e w' ⟨rfl, rfl⟩)
        | ((with_reducible refine (HWF.out w3 b3).mono ?_); rw [HK.out]; rintro e w' ⟨rfl, rfl⟩))
      refine (refReverse_calls A n cap xs w3 (h.below b3) (by have := HV4.out; omega)).mono ?_
      rintro e w4 ⟨A4, c4, rfl, hown4, _, hb4⟩
      have b4 : Below w.heap.size w w4 := b3.trans (hb4.mono b3.size)
      have s1 := Lib.hid (s1.out.below hb4)
      have s2 := Lib.hid (s2.out.below hb4)
      have s3 := Lib.hid (s3.out.below hb4)
      have s4 := Lib.hid hown4.sl
      clear hown4 hb4
      go_wp2_with fail
      refine (equal_after b4 A1 A4 n c1 c4 xs.reverse s1.out s4.out (by have := HV4.out; omega)).mono ?_
      rintro e w5 ⟨rfl, hb5, b5⟩
      have s2 := Lib.hid (s2.out.below hb5)
      have s3 := Lib.hid (s3.out.below hb5)
      clear hb5
      go_wp2_with fail
      refine (refTurn_calls A n cap xs w5 (h.below b5) hs.2 (by have := HV4.out; omega) (by have := HV4.out; omega)).mono ?_
      rintro e w6 ⟨A6, c6, rfl, hown6, _, hb6⟩
      have b6 : Below w.heap.size w w6 := b5.trans (hb6.mono b5.size)
      have s2 := Lib.hid (s2.out.below hb6)
      have s3 := Lib.hid (s3.out.below hb6)
      have s6 := Lib.hid hown6.sl
      clear hown6 hb6
      go_wp2_with fail
      refine (equal_after b6 A3 A6 n c3 c6 (Ln.rot1 xs) s3.out s6.out (by have := HV4.out; omega)).mono ?_
      rintro e w7 ⟨rfl, hb7, b7⟩
      have s2 := Lib.hid (s2.out.below hb7)
      clear hb7
      go_wp2_with fail
      refine (refMirror_calls k A n cap xs w7 (h.below b7) (by have := HV4.out; omega) (by have := HVK.out; omega) (by have := HVK.out; omega) HR40.out).mono ?_
      rintro e w8 ⟨A8, c8, rfl, hown8, _, hb8⟩
      have b8 : Below w.heap.size w w8 := b7.trans (hb8.mono b7.size)
      have s2 := Lib.hid (s2.out.below hb8)
      have s8 := Lib.hid hown8.sl
      clear hown8 hb8
      go_wp2_with fail
      refine (equal_after b8 A2 A8 n c2 c8 (mirrorL k xs) s2.out s8.out (by have := HV4.out; omega)).mono ?_
      rintro e w9 ⟨rfl, hb9, b9⟩
      go_wp2_with fail
      refine (known_after b9).mono ?_
      rintro e wa ⟨rfl, ba⟩
      go_wp2_with fail
      go_ret
      exact ⟨rfl, ba⟩
    · have hne : (errB k xs != 0) = true := by rw [bne_iff_ne]; exact hk
      have HM1 := Lib.hid (fun W (hb : Below w.heap.size w W) => (HM.out W hb).mono fun e w' h => ErrPost.get_err hk h)
      clear hk h4
      go_enter Tryd.func6, Tryd.ntmps6
      go_wp2_with fail
      refine HR1.out.mono ?_
      rintro e w1 ⟨A1, c1, rfl, hown1, _, hb1⟩
      have s1 := Lib.hid hown1.sl
      clear hown1
      go_wp2_with fail
      refine (HM1.out w1 hb1).mono ?_
      rintro e w2 ⟨A2, c2, rfl, hb2⟩
      have b2 : Below w.heap.size w w2 := hb1.trans (hb2.mono hb1.size)
      have s1 := Lib.hid (s1.out.below hb2)
      clear hb2
      go_wp2_with fail
      refine (HT1.out w2 b2).mono ?_
      rintro e w3 ⟨A3, c3, rfl, hown3, _, hb3⟩
      have b3 : Below w.heap.size w w3 := b2.trans (hb3.mono b2.size)
      have s1 := Lib.hid (s1.out.below hb3)
      have s3 := Lib.hid hown3.sl
      clear hown3 hb3
      go_wp2_with (first
        | ((with_reducible refine (HW.out w3 b3).mono ?_); rw [H4.out]; rintro e w' ⟨rfl, rfl⟩)
        | ((with_reducible refine (HWF.out w3 b3).mono ?_); rintro e w' ⟨rfl, rfl⟩))
      refine (refReverse_calls A n cap xs w3 (h.below b3) (by have := HV4.out; omega)).mono ?_
      rintro e w4 ⟨A4, c4, rfl, hown4, _, hb4⟩
      have b4 : Below w.heap.size w w4 := b3.trans (hb4.mono b3.size)
      have s1 := Lib.hid (s1.out.below hb4)
      have s3 := Lib.hid (s3.out.below hb4)
      have s4 := Lib.hid hown4.sl
      clear hown4 hb4
      go_wp2_with fail
      refine (equal_after b4 A1 A4 n c1 c4 xs.reverse s1.out s4.out (by have := HV4.out; omega)).mono ?_
      rintro e w5 ⟨rfl, hb5, b5⟩
      have s3 := Lib.hid (s3.out.below hb5)
      clear hb5
      go_wp2_with fail
      refine (refTurn_calls A n cap xs w5 (h.below b5) hs.2 (by have := HV4.out; omega) (by have := HV4.out; omega)).mono ?_
      rintro e w6 ⟨A6, c6, rfl, hown6, _, hb6⟩
      have b6 : Below w.heap.size w w6 := b5.trans (hb6.mono b5.size)
      have s3 := Lib.hid (s3.out.below hb6)
      have s6 := Lib.hid hown6.sl
      clear hown6 hb6
      go_wp2_with fail
      refine (equal_after b6 A3 A6 n c3 c6 (Ln.rot1 xs) s3.out s6.out (by have := HV4.out; omega)).mono ?_
      rintro e w7 ⟨rfl, hb7, b7⟩
      clear hb7
      go_wp2_with fail
      refine (known_after b7).mono ?_
      rintro e wa ⟨rfl, ba⟩
      go_wp2_with fail
      go_ret
      exact ⟨rfl, ba⟩
  · have hk : ¬ errB k xs = 0 := fun e => h4 (errB_of_valid' (errB_valid40 (errB_ok h.1 e).1))
    have hne4 : (errB 40 xs != 0) = true := by rw [bne_iff_ne]; exact h4
    have hne4' : (errB 40 xs == 0) = false := by rw [beq_eq_false_iff_ne]; exact h4
    have hne : (errB k xs != 0) = true := by rw [bne_iff_ne]; exact hk
    have HR1 := Lib.hid (HR.out.mono fun e w' h => ErrPost.get_err h4 h)
    have HT1 := Lib.hid (fun W (hb : Below w.heap.size w W) => (HT.out W hb).mono fun e w' h => ErrPost.get_err h4 h)
    have HM1 := Lib.hid (fun W (hb : Below w.heap.size w W) => (HM.out W hb).mono fun e w' h => ErrPost.get_err hk h)
    clear hk h4
    go_enter Tryd.func6, Tryd.ntmps6
    go_wp2_with fail
    refine HR1.out.mono ?_
    rintro e w1 ⟨A1, c1, rfl, hb1⟩
    go_wp2_with fail
    refine (HM1.out w1 hb1).mono ?_
    rintro e w2 ⟨A2, c2, rfl, hb2⟩
    have b2 : Below w.heap.size w w2 := hb1.trans (hb2.mono hb1.size)
    clear hb2
    go_wp2_with fail
    refine (HT1.out w2 b2).mono ?_
    rintro e w3 ⟨A3, c3, rfl, hb3⟩
    have b3 : Below w.heap.size w w3 := b2.trans (hb3.mono b2.size)
    clear hb3
    go_wp2_with (first
      | ((with_reducible refine (HW.out w3 b3).mono ?_); rintro e w' ⟨rfl, rfl⟩)
      | ((with_reducible refine (HWF.out w3 b3).mono ?_); rintro e w' ⟨rfl, rfl⟩))
    refine (known_after b3).mono ?_
    rintro e wa ⟨rfl, ba⟩
    go_wp2_with fail
    go_ret
    exact ⟨rfl, ba⟩

end Go.Proofs.YtenomnkdfiojbaaDoor
