/-
  The walk of the law LineSymmetries.
-/
import Derived.Test.YtiiepdcojkdidaaDoorHeld
namespace Go.Proofs.YtiiepdcojkdidaaDoor
open Go.RowKit

set_option maxHeartbeats 4000000 in
set_option maxRecDepth 100000 in
theorem lineSymmetries_walk (k : Int) (A : Option Addr) (n cap : Nat) (xs : List Int) (w : World) (_hk : I64 k) (h : SL w A n xs) (hn : n ≤ maxLen) (_hi : ∀ y, y ∈ xs → I64 y) (hs : (A = none → cap = 0) ∧ n ≤ cap) (_t : True) :
    Calls Tryd.prog 8 #[.int .i64 k, .slice A n cap] w fun e w' => e = .returned (.bool true) ∧ Below w.heap.size w w' := by
  have HL := Lib.hid h.1
  have HV0 := Lib.hid (refValid_calls k A n cap xs w h hn)
  have HN := Lib.hid hn
  by_cases hv : validB k xs = true
  · have HV := Lib.hid hv
    have HE : Hid (xs.length % 2 = 0 ∧ n ≤ 400) := Lib.hid ⟨(validB_iff.1 hv).2.2.2.1, by have := (validB_iff.1 hv).2.2.1; rw [h.1] at this; exact this⟩
    have HC := Lib.hid hs.2
    have H := Lib.hid (Held.start h)
    clear hv hs h
    go_enter Tryd.func8, Tryd.ntmps8
    go_wp2_with (go_at_call 16; refine HV0.out.mono ?_; rw [HV.out]; rintro e w' ⟨rfl, rfl⟩)
    refine (reverse_ok cap (H.out.get 0 rfl) HN.out HV.out).mono ?_
    rintro e w1 ⟨A1, c1, rfl, s1, hc1, hb1⟩
    have HC1 := Lib.hid hc1
    have H := Lib.hid (H.out.add hb1 s1)
    clear s1 hb1 hc1
    go_wp2_with fail
    refine (mirror_ok cap (H.out.get 1 rfl) HN.out HV.out).mono ?_
    rintro e w2 ⟨A2, c2, rfl, s2, hc2, hb2⟩
    have HC2 := Lib.hid hc2
    have H := Lib.hid (H.out.add hb2 s2)
    clear s2 hb2 hc2
    go_wp2_with fail
    refine (turn_ok (H.out.get 2 rfl) HN.out HC.out HV.out).mono ?_
    rintro e w3 ⟨A3, c3, rfl, s3, hc3, hb3⟩
    have HC3 := Lib.hid hc3
    have H := Lib.hid (H.out.add hb3 s3)
    clear s3 hb3 hc3
    go_wp2_with fail
    refine (mirror_ok c2 (H.out.get 1 rfl) HN.out (validB_mirror HV.out)).mono ?_
    rintro e w4 ⟨A4, c4, rfl, s4, hc4, hb4⟩
    have HC4 := Lib.hid hc4
    have H := Lib.hid (H.out.add hb4 s4)
    clear s4 hb4 hc4
    go_wp2_with fail
    refine (turn_ok (H.out.get 1 rfl) HN.out HC3.out (validB_rot1 HV.out)).mono ?_
    rintro e w5 ⟨A5, c5, rfl, s5, hc5, hb5⟩
    have HC5 := Lib.hid hc5
    have H := Lib.hid (H.out.add hb5 s5)
    clear s5 hb5 hc5
    go_wp2_with fail
    refine (turn_ok (H.out.get 3 rfl) HN.out HC2.out (validB_mirror HV.out)).mono ?_
    rintro e w6 ⟨A6, c6, rfl, s6, hc6, hb6⟩
    have HC6 := Lib.hid hc6
    have H := Lib.hid (H.out.add hb6 s6)
    clear s6 hb6 hc6
    go_wp2_with fail
    refine (mirror_ok c3 (H.out.get 3 rfl) HN.out (validB_rot1 HV.out)).mono ?_
    rintro e w7 ⟨A7, c7, rfl, s7, hc7, hb7⟩
    have HC7 := Lib.hid hc7
    have H := Lib.hid (H.out.add hb7 s7)
    clear s7 hb7 hc7
    go_wp2_with fail
    refine (reverse_ok c3 (H.out.get 4 rfl) HN.out (validB_rot1 HV.out)).mono ?_
    rintro e w8 ⟨A8, c8, rfl, s8, hc8, hb8⟩
    have HC8 := Lib.hid hc8
    have H := Lib.hid (H.out.add hb8 s8)
    clear s8 hb8 hc8
    go_wp2_with fail
    refine (turn_ok (H.out.get 7 rfl) HN.out HC1.out (validB_reverse HV.out)).mono ?_
    rintro e w9 ⟨A9, c9, rfl, s9, hc9, hb9⟩
    have HC9 := Lib.hid hc9
    have H := Lib.hid (H.out.add hb9 s9)
    clear s9 hb9 hc9
    -- held now, newest first: 0 turn(reverse) 1 reverse(turn) 2 mirror(turn) 3 turn(mirror) 4 turn(turn) 5 mirror(mirror) 6 turn 7 mirror 8 reverse 9 w
    have HLN : Hid (∀ ys, ys.length = n → (Ln.normal ys).length ≤ maxLen) := Lib.hid fun ys hy => by have := (Ln.length_normal ys).2; have := HN.out; omega
    go_wp2_with fail
    refine (nrm_ok c1 (H.out.get 8 rfl) HN.out (validB_reverse HV.out)).mono ?_
    rintro e wa ⟨Aa, ca, rfl, sa, hca, hba⟩
    have H := Lib.hid (H.out.add hba sa)
    clear sa hba hca
    go_wp2_with fail
    refine (nrm_ok cap (H.out.get 10 rfl) HN.out HV.out).mono ?_
    rintro e wb ⟨Ab, cb, rfl, sb, hcb, hbb⟩
    have H := Lib.hid (H.out.add hbb sb)
    clear sb hbb hcb
    go_wp2_with fail
    refine (eq_ok ca cb (H.out.get 1 rfl) (H.out.get 0 rfl) (HLN.out _ (by rw [List.length_reverse, HL.out])) (Ln.normal_reverse xs HE.out.1)).mono ?_
    rintro e wc ⟨rfl, hbc⟩
    have H := Lib.hid (H.out.step hbc)
    clear hbc
    go_wp2_with fail
    refine (eq_ok c4 cap (H.out.get 7 rfl) (H.out.get 11 rfl) HN.out (mirror_mirror k xs)).mono ?_
    rintro e wd ⟨rfl, hbd⟩
    have H := Lib.hid (H.out.step hbd)
    clear hbd
    go_wp2_with fail
    refine (nrm_ok c5 (H.out.get 6 rfl) HN.out (validB_rot1 (validB_rot1 HV.out))).mono ?_
    rintro e we ⟨Ae, ce, rfl, se, hce, hbe⟩
    have H := Lib.hid (H.out.add hbe se)
    clear se hbe hce
    go_wp2_with fail
    refine (nrm_ok cap (H.out.get 12 rfl) HN.out HV.out).mono ?_
    rintro e wf ⟨Af, cf, rfl, sf, hcf, hbf⟩
    have H := Lib.hid (H.out.add hbf sf)
    clear sf hbf hcf
    go_wp2_with fail
    refine (eq_ok ce cf (H.out.get 1 rfl) (H.out.get 0 rfl) (HLN.out _ (by rw [Ln.length_rot1, Ln.length_rot1, HL.out])) (normal_turn_twice HE.out.1)).mono ?_
    rintro e wg ⟨rfl, hbg⟩
    have H := Lib.hid (H.out.step hbg)
    clear hbg
    go_wp2_with fail
    refine (eq_ok c6 c7 (H.out.get 7 rfl) (H.out.get 6 rfl) HN.out (mirror_rot1 k xs).symm).mono ?_
    rintro e wh ⟨rfl, hbh⟩
    have H := Lib.hid (H.out.step hbh)
    clear hbh
    go_wp2_with fail
    refine (nrm_ok c8 (H.out.get 5 rfl) HN.out (validB_reverse (validB_rot1 HV.out))).mono ?_
    rintro e wi ⟨Ai, ci, rfl, si, hci, hbi⟩
    have H := Lib.hid (H.out.add hbi si)
    clear si hbi hci
    go_wp2_with fail
    refine (nrm_ok c9 (H.out.get 5 rfl) HN.out (validB_rot1 (validB_reverse HV.out))).mono ?_
    rintro e wj ⟨Aj, cj, rfl, sj, hcj, hbj⟩
    have H := Lib.hid (H.out.add hbj sj)
    clear sj hbj hcj
    go_wp2_with fail
    refine (eq_ok ci cj (H.out.get 1 rfl) (H.out.get 0 rfl) (HLN.out _ (by rw [List.length_reverse, Ln.length_rot1, HL.out])) (normal_turn_reverse HE.out.1)).mono ?_
    rintro e wk ⟨rfl, hbk⟩
    have H := Lib.hid (H.out.step hbk)
    clear hbk
    go_wp2_with fail
    refine (known_after H.out.1).mono ?_
    rintro e wz ⟨rfl, hz⟩
    go_wp2_with fail
    go_ret
    exact ⟨rfl, hz⟩
  · have hv' : validB k xs = false := by simpa using hv
    have HV := Lib.hid hv'
    clear hv hv'
    go_enter Tryd.func8, Tryd.ntmps8
    go_wp2_with (go_at_call 16; refine HV0.out.mono ?_; rw [HV.out]; rintro e w' ⟨rfl, rfl⟩)
    refine (known_after (Below.refl w.heap.size w)).mono ?_
    rintro e wz ⟨rfl, hz⟩
    go_wp2_with fail
    go_ret
    exact ⟨rfl, hz⟩

end Go.Proofs.YtiiepdcojkdidaaDoor
