/-
  The walks of the laws LineSame and LineForgets.
-/
import Derived.Test.YtenomnkdfiojbaaDoorLawsA
namespace Go.Proofs.YtenomnkdfiojbaaDoor
open Go.RowKit

set_option maxHeartbeats 2000000 in
theorem lineSame_walk (A1 : Option Addr) (n c1 : Nat) (xs : List Int) (A2 : Option Addr) (m c2 : Nat) (ys : List Int) (w : World) (h1 : SL w A1 n xs) (hn : n ≤ maxLen) (_hi1 : ∀ y, y ∈ xs → I64 y) (hs1 : (A1 = none → c1 = 0) ∧ n ≤ c1)
    (h2 : SL w A2 m ys) (hm : m ≤ maxLen) (_hi2 : ∀ y, y ∈ ys → I64 y) (hs2 : (A2 = none → c2 = 0) ∧ m ≤ c2) (_t : True) :
    Calls Tryd.prog 4 #[.slice A1 n c1, .slice A2 m c2] w fun e w' => e = .returned (.bool true) ∧ Below w.heap.size w w' := by
  have HS := Lib.hid (same_calls A1 A2 n c1 m c2 xs ys w h1 h2 hn hm)
  have HW1 := Lib.hid (fun W (hb : Below w.heap.size w W) => wrong_calls A1 n c1 xs W (h1.below hb) hn)
  have HW2 := Lib.hid (fun W (hb : Below w.heap.size w W) => wrong_calls A2 m c2 ys W (h2.below hb) hm)
  by_cases he : errB 40 xs = 0
  · have hv1 := errB_ok h1.1 he
    by_cases hf : errB 40 ys = 0
    · have hv2 := errB_ok h2.1 hf
      have HR : Hid (sameB xs ys = decide (Ln.normal xs = Ln.normal ys) ∧ sameErr xs ys = 0) := by unfold Hid sameB sameErr; simp [he, hf]
      have hle : (Ln.normal xs).length ≤ maxLen := by have := h1.1; have := (Ln.length_normal xs).2; unfold maxLen; omega
      have HE := Lib.hid he
      have HF := Lib.hid hf
      have HV1 := Lib.hid hv1
      have HV2 := Lib.hid hv2
      obtain ⟨q, hq⟩ : ∃ q, decide (Ln.normal xs = Ln.normal ys) = q := ⟨_, rfl⟩
      have HQ := Lib.hid hq
      clear he hf hv1 hv2 hq
      go_enter Tryd.func4, Tryd.ntmps4
      go_wp2_with fail
      refine HS.out.mono ?_
      rw [HR.out.1, HR.out.2, HQ.out]
      rintro e w1 ⟨rfl, hb1⟩
      go_wp2_with (first
        | ((with_reducible refine (HW1.out w1 hb1).mono ?_); rw [HE.out]; rintro e w' ⟨rfl, rfl⟩)
        | ((with_reducible refine (HW2.out w1 hb1).mono ?_); rw [HF.out]; rintro e w' ⟨rfl, rfl⟩))
      refine (refNormal_calls A1 n c1 xs w1 (h1.below hb1) hs1.1 HV1.out.2.2.1 HV1.out.2.1).mono ?_
      rintro e w2 ⟨B2, m2, d2, rfl, hsl2, _, hb2⟩
      have hb12 : Below w.heap.size w w2 := hb1.trans (hb2.mono hb1.size)
      go_wp2_with fail
      refine (refNormal_calls A2 m c2 ys w2 (h2.below hb12) hs2.1 HV2.out.2.2.1 HV2.out.2.1).mono ?_
      rintro e w3 ⟨B3, m3, d3, rfl, hsl3, _, hb3⟩
      have hb13 : Below w.heap.size w w3 := hb12.trans (hb3.mono hb12.size)
      have hm2 : m2 ≤ maxLen := by have := hsl2.1; omega
      have HEQ := Lib.hid (equal_calls B2 B3 m2 d2 m3 d3 (Ln.normal xs) (Ln.normal ys) w3 (hsl2.below hb3) hsl3 hm2)
      clear hsl2 hsl3 hm2
      go_wp2_with fail
      refine HEQ.out.mono ?_
      rw [HQ.out]
      rintro e w4 ⟨rfl, hb4⟩
      have hb14 : Below w.heap.size w w4 := hb13.trans (hb4.mono hb13.size)
      go_wp2_with fail
      refine (known_after hb14).mono ?_
      rintro e w5 ⟨rfl, hb5⟩
      go_wp2_with fail
      go_ret
      exact ⟨rfl, hb5⟩
    · have hne : (errB 40 ys != 0) = true := by rw [bne_iff_ne]; exact hf
      have HR : Hid (sameB xs ys = false ∧ sameErr xs ys = errB 40 ys) := by unfold Hid sameB sameErr; simp [he, hf]
      have HE := Lib.hid he
      clear he hf hv1
      go_enter Tryd.func4, Tryd.ntmps4
      go_wp2_with fail
      refine HS.out.mono ?_
      rw [HR.out.1, HR.out.2]
      rintro e w1 ⟨rfl, hb1⟩
      go_wp2_with (first
        | ((with_reducible refine (HW1.out w1 hb1).mono ?_); rw [HE.out]; rintro e w' ⟨rfl, rfl⟩)
        | ((with_reducible refine (HW2.out w1 hb1).mono ?_); rintro e w' ⟨rfl, rfl⟩))
      refine (known_after hb1).mono ?_
      rintro e w5 ⟨rfl, hb5⟩
      go_wp2_with fail
      go_ret
      exact ⟨rfl, hb5⟩
  · have hne : (errB 40 xs != 0) = true := by rw [bne_iff_ne]; exact he
    have hne2 : (errB 40 xs == 0) = false := by rw [beq_eq_false_iff_ne]; exact he
    have HR : Hid (sameB xs ys = false ∧ sameErr xs ys = errB 40 xs) := by unfold Hid sameB sameErr; simp [he]
    clear he
    go_enter Tryd.func4, Tryd.ntmps4
    go_wp2_with fail
    refine HS.out.mono ?_
    rw [HR.out.1, HR.out.2]
    rintro e w1 ⟨rfl, hb1⟩
    go_wp2_with ((with_reducible refine (HW1.out w1 hb1).mono ?_); rintro e w' ⟨rfl, rfl⟩)
    refine (known_after hb1).mono ?_
    rintro e w5 ⟨rfl, hb5⟩
    go_wp2_with fail
    go_ret
    exact ⟨rfl, hb5⟩

theorem length_dropL (f : Int) (xs : List Int) : (dropL f xs).length = xs.length := by simp [dropL]

set_option maxHeartbeats 2000000 in
theorem lineForgets_walk (k : Int) (A : Option Addr) (n cap : Nat) (xs : List Int) (f : Int) (w : World) (_hk : I64 k) (h : SL w A n xs) (hn : n ≤ maxLen) (_hi : ∀ y, y ∈ xs → I64 y) (_hs : (A = none → cap = 0) ∧ n ≤ cap) (_hf : I64 f) (_t : True) :
    Calls Tryd.prog 8 #[.int .i64 k, .slice A n cap, .int .i64 f] w fun e w' => e = .returned (.bool true) ∧ Below w.heap.size w w' := by
  have HN := Lib.hid (forget_calls k A n cap xs f w h hn)
  have HW := Lib.hid (fun W (hb : Below w.heap.size w W) => wrongFor_calls k A n cap xs W (h.below hb) hn)
  by_cases he : errB k xs = 0
  · have hv := errB_ok h.1 he
    have HE := Lib.hid he
    by_cases hf : 1 ≤ f ∧ f ≤ k
    · have hfe : forgetErr k xs f = 0 := by unfold forgetErr; rw [if_neg (by rw [he]; simp), if_neg (by omega)]
      have HK := Lib.hid (HN.out.mono fun e w' h => ErrPost.get_ok hfe rfl h)
      obtain ⟨f1, fk⟩ := hf
      have hv2 := errB_ok (length_dropL f xs) (errB_of_valid (validB_drop hv.1 f1))
      rw [h.1] at hv2
      have hle : (Ln.normal (dropL f xs)).length ≤ 1000 := by have := h.1; have := (Ln.length_normal (dropL f xs)).2; rw [length_dropL] at this; omega
      have HV := Lib.hid hv
      have HV2 := Lib.hid hv2
      have hr : ∀ x, x ∈ xs → 0 ≤ x ∧ x ≤ 40 := fun x hx => by have := validB_range hv.1 hx; omega
      have HR := Lib.hid hr
      clear he hv hv2 hfe hr
      go_enter Tryd.func8, Tryd.ntmps8
      go_wp2_with fail
      refine HK.out.mono ?_
      rintro e w1 ⟨B1, d1, rfl, hown1, _, hb1⟩
      have hs1 := Lib.hid hown1.sl
      clear hown1
      go_wp2_with (go_at_call 26; refine (HW.out w1 hb1).mono ?_; rw [HE.out]; rintro e w' ⟨rfl, rfl⟩)
      refine (refDrop_calls A n cap xs f w1 (h.below hb1) (by have := HV.out; omega) HR.out).mono ?_
      rintro e w2 ⟨B2, d2, rfl, hown2, _, hb2⟩
      have hb12 : Below w.heap.size w w2 := hb1.trans (hb2.mono hb1.size)
      have hcap2 : B2 = none → d2 = 0 := by
        obtain ⟨A', c', hv', hc', hA'⟩ := hown2.form
        injection hv' with e1 e2 e3
        rintro rfl
        rcases hown2.2 with ⟨hv2, _⟩ | ⟨g, cap', cur, hv2, _⟩
        · injection hv2
        · injection hv2 with e4
          cases e4
      have hs2 := Lib.hid hown2.sl
      have hs12 := Lib.hid (hs1.out.below hb2)
      clear hown2
      go_wp2_with fail
      refine (refNormal_calls B2 n d2 (dropL f xs) w2 hs2.out hcap2 HV2.out.2.2.1 HV2.out.2.1).mono ?_
      rintro e w3 ⟨B3, m3, d3, rfl, hs3, _, hb3⟩
      have hb13 : Below w.heap.size w w3 := hb12.trans (hb3.mono hb12.size)
      obtain rfl : (Ln.normal (dropL f xs)).length = m3 := hs3.1
      have HQ := Lib.hid (equal_yes B1 B3 _ d1 d3 (Ln.normal (dropL f xs)) w3 (hs12.out.below hb3) hs3 hle)
      clear hs3 hcap2
      go_wp2_with fail
      refine HQ.out.mono ?_
      rintro e w4 ⟨rfl, hb4⟩
      have hb14 : Below w.heap.size w w4 := hb13.trans (hb4.mono hb13.size)
      go_wp2_with fail
      refine (known_after hb14).mono ?_
      rintro e w5 ⟨rfl, hb5⟩
      go_wp2_with fail
      go_ret
      exact ⟨rfl, hb5⟩
    · have hfe : forgetErr k xs f = 2 := by unfold forgetErr; rw [if_neg (by rw [he]; simp), if_pos (by omega)]
      have HK := Lib.hid (HN.out.mono fun e w' h => ErrPost.get_err (by rw [hfe]; decide) h)
      rw [hfe] at HK
      clear he hv
      by_cases hf1 : f < 1
      · clear hf
        go_enter Tryd.func8, Tryd.ntmps8
        go_wp2_with fail
        refine HK.out.mono ?_
        rintro e w1 ⟨B1, d1, rfl, hb1⟩
        go_wp2_with (go_at_call 26; refine (HW.out w1 hb1).mono ?_; rw [HE.out]; rintro e w' ⟨rfl, rfl⟩)
        refine (known_after hb1).mono ?_
        rintro e w5 ⟨rfl, hb5⟩
        go_wp2_with fail
        go_ret
        exact ⟨rfl, hb5⟩
      · have hkf : k < f := by omega
        have hf2 : 1 ≤ f := by omega
        clear hf hf1
        go_enter Tryd.func8, Tryd.ntmps8
        go_wp2_with fail
        refine HK.out.mono ?_
        rintro e w1 ⟨B1, d1, rfl, hb1⟩
        go_wp2_with (go_at_call 26; refine (HW.out w1 hb1).mono ?_; rw [HE.out]; rintro e w' ⟨rfl, rfl⟩)
        refine (known_after hb1).mono ?_
        rintro e w5 ⟨rfl, hb5⟩
        go_wp2_with fail
        go_ret
        exact ⟨rfl, hb5⟩
  · have hne : (errB k xs != 0) = true := by rw [bne_iff_ne]; exact he
    have hne2 : (errB k xs == 0) = false := by rw [beq_eq_false_iff_ne]; exact he
    have hfe : forgetErr k xs f = errB k xs := by unfold forgetErr; rw [if_pos he]
    have HK := Lib.hid (HN.out.mono fun e w' h => ErrPost.get_err (by rw [hfe]; exact he) h)
    rw [hfe] at HK
    clear he hfe
    go_enter Tryd.func8, Tryd.ntmps8
    go_wp2_with fail
    refine HK.out.mono ?_
    rintro e w1 ⟨B1, d1, rfl, hb1⟩
    go_wp2_with (go_at_call 26; refine (HW.out w1 hb1).mono ?_; rintro e w' ⟨rfl, rfl⟩)
    refine (known_after hb1).mono ?_
    rintro e w5 ⟨rfl, hb5⟩
    go_wp2_with fail
    go_ret
    exact ⟨rfl, hb5⟩

end Go.Proofs.YtenomnkdfiojbaaDoor
