/-
  The walk of LineWords.
-/
import Derived.Test.YtiiepdcojkdidaaDoorRefA
import Derived.Test.YtiiepdcojkdidaaDoorKnown
namespace Go.Proofs.YtiiepdcojkdidaaDoor
open Go.RowKit

set_option maxHeartbeats 1000000 in
theorem lineWords_walk (k : Int) (A : Option Addr) (n cap : Nat) (xs : List Int) (w : World) (_hk : I64 k) (h : SL w A n xs) (hn : n ≤ maxLen) (_hi : ∀ y, y ∈ xs → I64 y) (_t : True) :
    Calls Tryd.prog 3 #[.int .i64 k, .slice A n cap] w fun e w' => e = .returned (.bool true) ∧ Below w.heap.size w w' := by
  have H1 := Lib.hid (valid_calls k A n cap xs w h hn)
  have H2 := Lib.hid (refValid_calls k A n cap xs w h hn)
  have H3 := Lib.hid (reduced_calls A n cap xs w h hn)
  have H4 := Lib.hid (refReduced_calls A n cap xs w h hn)
  obtain ⟨b1, hb1⟩ : ∃ b, validB k xs = b := ⟨_, rfl⟩
  obtain ⟨b2, hb2⟩ : ∃ b, reducedB xs = b := ⟨_, rfl⟩
  rw [hb1] at H1 H2
  rw [hb2] at H3 H4
  clear hb1 hb2
  go_enter Tryd.func3, Tryd.ntmps3
  go_wp2_with (first
    | (go_at_call 15; refine H1.out.mono ?_; rintro e w' ⟨rfl, rfl⟩)
    | (go_at_call 16; refine H2.out.mono ?_; rintro e w' ⟨rfl, rfl⟩)
    | (go_at_call 17; refine H3.out.mono ?_; rintro e w' ⟨rfl, rfl⟩)
    | (go_at_call 18; refine H4.out.mono ?_; rintro e w1 ⟨rfl, hbw⟩)
    | (go_at_call 19; refine (known_calls _).mono ?_; rintro e w2 ⟨rfl, hbk⟩))
  go_ret
  exact ⟨rfl, hbw.trans (hbk.mono hbw.size)⟩

end Go.Proofs.YtiiepdcojkdidaaDoor
