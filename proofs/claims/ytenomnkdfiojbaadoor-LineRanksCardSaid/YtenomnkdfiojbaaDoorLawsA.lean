/-
  The walks of line.Same and of the laws LineNormals, LineSame, LineForgets.
-/
import Derived.Test.YtenomnkdfiojbaaDoorRefD
import Derived.Test.YtenomnkdfiojbaaDoorKnown
namespace Go.Proofs.YtenomnkdfiojbaaDoor
open Go.RowKit

/-- slices.Equal of what reads as lists. -/
theorem slicesEqual_calls (A1 A2 : Option Addr) (n c1 m c2 : Nat) (xs ys : List Int) (w : World) (h1 : SL w A1 n xs) (h2 : SL w A2 m ys) (hn : n ≤ 1000) (hm : m ≤ 1000) :
    Calls Tryd.prog 51 #[.slice A1 n c1, .slice A2 m c2] w fun e w' => e = .returned (.bool (decide (xs = ys))) ∧ Below w.heap.size w w' := by
  by_cases hnm : n = m
  · subst hnm
    rcases Nat.eq_zero_or_pos n with h0 | hp
    · subst h0
      refine (Tryd.slices_Equal_int_empty A1 A2 c1 0 c2 w (by omega)).mono ?_
      rintro e w' ⟨rfl, rfl⟩
      have e1 : xs = [] := List.eq_nil_of_length_eq_zero h1.1
      have e2 : ys = [] := List.eq_nil_of_length_eq_zero h2.1
      subst e1; subst e2
      exact ⟨rfl, Below.refl _ _⟩
    · obtain ⟨b1, o1, rfl, _, d1⟩ := h1.2 hp
      obtain ⟨b2, o2, rfl, _, d2⟩ := h2.2 hp
      have l1 := h1.1
      have l2 := h2.1
      refine (Tryd.slices_Equal_int b1 o1 n c1 b2 o2 n c2 xs ys w (by omega) (by omega) (by omega) (by omega) (fun j hj => by rw [List.getD_eq_getElem?_getD]; exact d1 j (by omega)) (fun j hj => by rw [List.getD_eq_getElem?_getD]; exact d2 j (by omega))).mono ?_
      rintro e w' ⟨rfl, q, rfl⟩
      refine ⟨?_, below_drewN (Below.refl _ _) _⟩
      rw [List.take_of_length_le (by omega), List.take_of_length_le (by omega)]
      congr 2
      rw [Bool.eq_iff_iff]; simp
  · refine (Tryd.slices_Equal_int_lens A1 A2 n c1 m c2 w hnm).mono ?_
    rintro e w' ⟨rfl, rfl⟩
    refine ⟨?_, Below.refl _ _⟩
    have : ¬ xs = ys := fun e => hnm (by rw [← h1.1, ← h2.1, e])
    rw [decide_eq_false this]

def sameErr (a b : List Int) : Int := if errB 40 a = 0 then errB 40 b else errB 40 a
def sameB (a b : List Int) : Bool := if errB 40 a = 0 ∧ errB 40 b = 0 then decide (Ln.normal a = Ln.normal b) else false

set_option maxHeartbeats 1000000 in
theorem same_calls (A1 A2 : Option Addr) (n c1 m c2 : Nat) (xs ys : List Int) (w : World) (h1 : SL w A1 n xs) (h2 : SL w A2 m ys) (hn : n ≤ maxLen) (hm : m ≤ maxLen) :
    Calls Tryd.prog 20 #[.slice A1 n c1, .slice A2 m c2] w fun e w' => e = .returned (.tuple #[.bool (sameB xs ys), .int .i64 (sameErr xs ys)]) ∧ Below w.heap.size w w' := by
  have HN1 := Lib.hid (normal_calls A1 n c1 xs w h1 hn)
  by_cases he : errB 40 xs = 0
  · have HK1 := Lib.hid (HN1.out.mono fun e w' h => ErrPost.get_ok he rfl h)
    have hl1 := (Ln.length_normal xs).2
    have hv1 := (errB_ok h1.1 he).2.1
    have hle1 : (Ln.normal xs).length ≤ 1000 := by have := h1.1; omega
    have HE := Lib.hid he
    by_cases hf : errB 40 ys = 0
    · have hl2 := (Ln.length_normal ys).2
      have hv2 := (errB_ok h2.1 hf).2.1
      have hle2 : (Ln.normal ys).length ≤ 1000 := by have := h2.1; omega
      have HF := Lib.hid hf
      have HS : Hid (sameB xs ys = decide (Ln.normal xs = Ln.normal ys) ∧ sameErr xs ys = 0) := by unfold Hid sameB sameErr; simp [he, hf]
      clear he hf hl1 hl2
      go_enter Tryd.func20, Tryd.ntmps20
      go_wp2_with fail
      refine HK1.out.mono ?_
      rintro e w1 ⟨B1, d1, rfl, hown1, _, hb1⟩
      have hs1 := hown1.sl
      have HN2 := Lib.hid ((normal_calls A2 m c2 ys w1 (h2.below hb1) hm).mono fun e w' h => ErrPost.get_ok HF.out rfl h)
      clear hown1
      go_wp2_with fail
      refine HN2.out.mono ?_
      rintro e w2 ⟨B2, d2, rfl, hown2, _, hb2⟩
      have hb12 : Below w.heap.size w w2 := hb1.trans (hb2.mono hb1.size)
      have HQ := Lib.hid (slicesEqual_calls B1 B2 _ d1 _ d2 (Ln.normal xs) (Ln.normal ys) w2 (hs1.below hb2) hown2.sl hle1 hle2)
      clear hown2 hs1
      go_wp2_with fail
      refine HQ.out.mono ?_
      rintro e w3 ⟨rfl, hb3⟩
      go_wp2_with fail
      go_ret2
      rw [HS.out.1, HS.out.2]
      exact ⟨rfl, hb12.trans (hb3.mono hb12.size)⟩
    · have hne : (errB 40 ys != 0) = true := by rw [bne_iff_ne]; exact hf
      have HF := Lib.hid hf
      have HS : Hid (sameB xs ys = false ∧ sameErr xs ys = errB 40 ys) := by unfold Hid sameB sameErr; simp [he, hf]
      clear he hf
      go_enter Tryd.func20, Tryd.ntmps20
      go_wp2_with fail
      refine HK1.out.mono ?_
      rintro e w1 ⟨B1, d1, rfl, hown1, _, hb1⟩
      have HN2 := Lib.hid ((normal_calls A2 m c2 ys w1 (h2.below hb1) hm).mono fun e w' h => ErrPost.get_err HF.out h)
      clear hown1
      go_wp2_with fail
      refine HN2.out.mono ?_
      rintro e w2 ⟨B2, d2, rfl, hb2⟩
      go_wp2_with fail
      go_ret2
      rw [HS.out.1, HS.out.2]
      exact ⟨rfl, hb1.trans (hb2.mono hb1.size)⟩
  · have hne : (errB 40 xs != 0) = true := by rw [bne_iff_ne]; exact he
    have HK1 := Lib.hid (HN1.out.mono fun e w' h => ErrPost.get_err he h)
    have HS : Hid (sameB xs ys = false ∧ sameErr xs ys = errB 40 xs) := by unfold Hid sameB sameErr; simp [he]
    clear he
    go_enter Tryd.func20, Tryd.ntmps20
    go_wp2_with fail
    refine HK1.out.mono ?_
    rintro e w1 ⟨B1, d1, rfl, hb1⟩
    go_wp2_with fail
    go_ret2
    rw [HS.out.1, HS.out.2]
    exact ⟨rfl, hb1⟩

theorem known_after {w w' : World} (hb : Below w.heap.size w w') : Calls Tryd.prog 17 #[] w' fun e w2 => e = .returned (.bool true) ∧ Below w.heap.size w w2 := by
  refine (known_calls w').mono ?_
  rintro e w2 ⟨rfl, h2⟩
  exact ⟨rfl, hb.trans (h2.mono hb.size)⟩

set_option maxHeartbeats 1000000 in
theorem lineNormals_walk (A : Option Addr) (n cap : Nat) (xs : List Int) (w : World) (h : SL w A n xs) (hn : n ≤ maxLen) (_hi : ∀ y, y ∈ xs → I64 y) (hs : (A = none → cap = 0) ∧ n ≤ cap) (_t : True) :
    Calls Tryd.prog 3 #[.slice A n cap] w fun e w' => e = .returned (.bool true) ∧ Below w.heap.size w w' := by
  have HN := Lib.hid (normal_calls A n cap xs w h hn)
  have HW := Lib.hid (fun W (hb : Below w.heap.size w W) => wrong_calls A n cap xs W (h.below hb) hn)
  by_cases he : errB 40 xs = 0
  · have HK := Lib.hid (HN.out.mono fun e w' h => ErrPost.get_ok he rfl h)
    have hv := errB_ok h.1 he
    have hle : (Ln.normal xs).length ≤ 1000 := by have := h.1; have := (Ln.length_normal xs).2; omega
    have HE := Lib.hid he
    have HV := Lib.hid hv
    clear he hv
    go_enter Tryd.func3, Tryd.ntmps3
    go_wp2_with fail
    refine HK.out.mono ?_
    rintro e w1 ⟨B1, d1, rfl, hown1, _, hb1⟩
    have hs1 := Lib.hid hown1.sl
    clear hown1
    go_wp2_with (go_at_call 16; refine (HW.out w1 hb1).mono ?_; rw [HE.out]; rintro e w' ⟨rfl, rfl⟩)
    refine (refNormal_calls A n cap xs w1 (h.below hb1) hs.1 HV.out.2.2.1 HV.out.2.1).mono ?_
    rintro e w2 ⟨B2, m2, d2, rfl, hs2, _, hb2⟩
    have hb12 : Below w.heap.size w w2 := hb1.trans (hb2.mono hb1.size)
    obtain rfl : (Ln.normal xs).length = m2 := hs2.1
    have HQ := Lib.hid (equal_yes B1 B2 _ d1 d2 (Ln.normal xs) w2 (hs1.out.below hb2) hs2 hle)
    clear hs2
    go_wp2_with fail
    refine HQ.out.mono ?_
    rintro e w3 ⟨rfl, hb3⟩
    have hb13 : Below w.heap.size w w3 := hb12.trans (hb3.mono hb12.size)
    go_wp2_with fail
    refine (known_after hb13).mono ?_
    rintro e w4 ⟨rfl, hb4⟩
    go_wp2_with fail
    go_ret
    exact ⟨rfl, hb4⟩
  · have hne : (errB 40 xs != 0) = true := by rw [bne_iff_ne]; exact he
    have HK := Lib.hid (HN.out.mono fun e w' h => ErrPost.get_err he h)
    clear he
    go_enter Tryd.func3, Tryd.ntmps3
    go_wp2_with fail
    refine HK.out.mono ?_
    rintro e w1 ⟨B1, d1, rfl, hb1⟩
    go_wp2_with (go_at_call 16; refine (HW.out w1 hb1).mono ?_; rintro e w' ⟨rfl, rfl⟩)
    refine (known_after hb1).mono ?_
    rintro e w4 ⟨rfl, hb4⟩
    go_wp2_with fail
    go_ret
    exact ⟨rfl, hb4⟩

end Go.Proofs.YtenomnkdfiojbaaDoor
