/-
  The walk of the law LineRanks.
-/
import Derived.Test.YtenomnkdfiojbaaDoorTry
namespace Go.Proofs.YtenomnkdfiojbaaDoor
open Go.RowKit

set_option maxHeartbeats 1000000 in
theorem refRanks_calls (A : Option Addr) (n cap : Nat) (xs : List Int) (w : World) (h : SL w A n xs) (hn : n ≤ 400) :
    Calls Tryd.prog 40 #[.slice A n cap] w (TryPost xs n [] w) := by
  have HT := Lib.hid (try_calls A n cap xs hn n [] 0 none 0 w h (SL.nil w none) (fun _ => ⟨rfl, rfl⟩) (by omega))
  clear h
  go_enter Tryd.func40, Tryd.ntmps40
  go_wp2_with fail
  refine HT.out.mono ?_
  rintro e w1 ⟨A1, m1, c1, b, rfl, hb, hy, hno⟩
  have HP : Hid (TryPost xs n [] w (.returned (.tuple #[.slice A1 m1 c1, .bool b])) w1) := ⟨A1, m1, c1, b, rfl, hb, hy, hno⟩
  clear hb hy hno
  go_wp2_with fail
  go_ret2
  exact HP.out

theorem refRanks_none {A : Option Addr} {n : Nat} (cap : Nat) {xs : List Int} {w : World} (h : SL w A n xs) (hr : reducedB xs = true) (hm : ranksM xs n = none) :
    Calls Tryd.prog 40 #[.slice A n cap] w fun e w' => ∃ A1 m c, e = .returned (.tuple #[.slice A1 m c, .bool false]) ∧ Below w.heap.size w w' := by
  have hl := h.1
  refine (refRanks_calls A n cap xs w h (by have := (red_rng hr).2.1; omega)).mono ?_
  rintro e w' ⟨A1, m, c, b, rfl, hb, hy, hno⟩
  cases b with
  | false => exact ⟨A1, m, c, rfl, hb⟩
  | true =>
    obtain ⟨R, _, _, hd⟩ := hy rfl
    rw [(ranksM_drawn hl hr).2 hd] at hm
    cases hm
theorem refRanks_some {A : Option Addr} {n : Nat} (cap : Nat) {xs R : List Int} {w : World} (h : SL w A n xs) (hr : reducedB xs = true) (hm : ranksM xs n = some R) :
    Calls Tryd.prog 40 #[.slice A n cap] w fun e w' => ∃ A1 c, e = .returned (.tuple #[.slice A1 n c, .bool true]) ∧ SL w' A1 n R ∧ Below w.heap.size w w' := by
  have hl := h.1
  refine (refRanks_calls A n cap xs w h (by have := (red_rng hr).2.1; omega)).mono ?_
  rintro e w' ⟨A1, m, c, b, rfl, hb, hy, hno⟩
  cases b with
  | false => exact absurd (List.nil_prefix) (hno rfl R ((ranksM_drawn hl hr).1 hm))
  | true =>
    obtain ⟨R', rfl, hs, hd⟩ := hy rfl
    have := (ranksM_drawn hl hr).2 hd
    rw [hm] at this
    injection this with this
    subst this
    exact ⟨A1, c, rfl, hs, hb⟩

set_option maxHeartbeats 4000000 in
set_option maxRecDepth 100000 in
theorem lineRanks_walk (A : Option Addr) (n cap : Nat) (xs : List Int) (w : World) (h : SL w A n xs) (hn : n ≤ maxLen) (_hi : ∀ y, y ∈ xs → I64 y) (_hs : (A = none → cap = 0) ∧ n ≤ cap) (_t : True) :
    Calls Tryd.prog 12 #[.slice A n cap] w fun e w' => e = .returned (.bool true) ∧ Below w.heap.size w w' := by
  have HN := Lib.hid (ranks_calls A n cap xs w h hn)
  have HW := Lib.hid (fun W (hb : Below w.heap.size w W) => wrong_calls A n cap xs W (h.below hb) hn)
  have HR := Lib.hid (fun W (hb : Below w.heap.size w W) => refReduced_calls A n cap xs W (h.below hb) hn)
  have HSL := Lib.hid h
  have HMX := Lib.hid hn
  by_cases he : errB 40 xs = 0
  · have HE := Lib.hid he
    cases hr : reducedB xs with
    | false =>
      have hk : rkE xs n = 2 := by unfold rkE; rw [if_pos he, hr]; rfl
      have HK := Lib.hid (HN.out.mono fun e w' h => ErrPost.get_err (by rw [hk]; decide) h)
      have HV := Lib.hid hr
      rw [hk] at HK
      clear he hr hk h hn
      go_enter Tryd.func12, Tryd.ntmps12
      go_wp2_with fail
      refine HK.out.mono ?_
      rintro e w1 ⟨B1, d1, rfl, hb1⟩
      have HB1 := Lib.hid hb1
      clear hb1
      go_wp2_with (first
        | (go_at_call 16; refine (HW.out w1 HB1.out).mono ?_; rw [HE.out]; rintro e w' ⟨rfl, rfl⟩)
        | (go_at_call 39; refine (HR.out w1 HB1.out).mono ?_; rw [HV.out]; rintro e w2 ⟨rfl, hb2⟩))
      refine (known_after (HB1.out.trans (hb2.mono HB1.out.size))).mono ?_
      rintro e w4 ⟨rfl, hb4⟩
      go_wp2_with fail
      go_ret
      exact ⟨rfl, hb4⟩
    | true =>
      have HV := Lib.hid hr
      have hk : rkE xs n = if (ranksM xs n).isSome = true then 0 else 8 := by unfold rkE; rw [if_pos he, if_pos hr]
      by_cases h8 : n ≤ 8
      · cases hm : ranksM xs n with
        | none =>
          rw [hm] at hk
          have hk2 : rkE xs n = 8 := hk
          have HK := Lib.hid (HN.out.mono fun e w' h => ErrPost.get_err (by rw [hk2]; decide) h)
          have HM := Lib.hid hm
          rw [hk2] at HK
          clear he hr hk hk2 hm h hn
          go_enter Tryd.func12, Tryd.ntmps12
          go_wp2_with fail
          refine HK.out.mono ?_
          rintro e w1 ⟨B1, d1, rfl, hb1⟩
          have HB1 := Lib.hid hb1
          clear hb1
          go_wp2_with (first
            | (go_at_call 16; refine (HW.out w1 HB1.out).mono ?_; rw [HE.out]; rintro e w' ⟨rfl, rfl⟩)
            | (go_at_call 39; refine (HR.out w1 HB1.out).mono ?_; rw [HV.out]; rintro e w2 ⟨rfl, hb2⟩; have HB2 := Lib.hid (HB1.out.trans (hb2.mono HB1.out.size)); clear hb2)
            | (go_at_call 40; refine (refRanks_none cap (HSL.out.below HB2.out) HV.out HM.out).mono ?_; rintro e w3 ⟨A3, m3, c3, rfl, hb3⟩; have HB3 := Lib.hid (HB2.out.trans (hb3.mono HB2.out.size)); clear hb3))
          refine (known_after HB3.out).mono ?_
          rintro e w4 ⟨rfl, hb4⟩
          go_wp2_with fail
          go_ret
          exact ⟨rfl, hb4⟩
        | some R =>
          rw [hm] at hk
          have hk2 : rkE xs n = 0 := hk
          have hR : rkR xs n = R := by unfold rkR; rw [hm]; rfl
          have hlR : R.length = n := ((ranksM_drawn HSL.out.1 hr).1 hm).1
          have HK := Lib.hid (HN.out.mono fun e w' h => OkPost.of (n := n) hk2 (by rw [hR, hlR]) h)
          have HM := Lib.hid hm
          rw [hR] at HK
          clear he hr hk hk2 hm h hn hR hlR
          go_enter Tryd.func12, Tryd.ntmps12
          go_wp2_with fail
          refine HK.out.mono ?_
          rintro e w1 ⟨B1, d1, rfl, hs1, _, hb1⟩
          have HB1 := Lib.hid hb1
          have HS1 := Lib.hid hs1
          clear hb1 hs1
          go_wp2_with (first
            | (go_at_call 16; refine (HW.out w1 HB1.out).mono ?_; rw [HE.out]; rintro e w' ⟨rfl, rfl⟩)
            | (go_at_call 39; refine (HR.out w1 HB1.out).mono ?_; rw [HV.out]; rintro e w2 ⟨rfl, hb2⟩; have HB2 := Lib.hid (HB1.out.trans (hb2.mono HB1.out.size)); have HS2 := Lib.hid (HS1.out.below hb2); clear hb2)
            | (go_at_call 40; refine (refRanks_some cap (HSL.out.below HB2.out) HV.out HM.out).mono ?_; rintro e w3 ⟨A3, c3, rfl, hs3, hb3⟩; have HB3 := Lib.hid (HB2.out.trans (hb3.mono HB2.out.size)); have HQ := Lib.hid (equal_yes B1 A3 n d1 c3 R w3 (HS2.out.below hb3) hs3 (by omega)); clear hb3 hs3)
            | (go_at_call 18; refine HQ.out.mono ?_; rintro e w5 ⟨rfl, hb5⟩; have HB5 := Lib.hid (HB3.out.trans (hb5.mono HB3.out.size)); clear hb5))
          refine (known_after HB5.out).mono ?_
          rintro e w4 ⟨rfl, hb4⟩
          go_wp2_with fail
          go_ret
          exact ⟨rfl, hb4⟩
      · have h8i : (8 : Int) < n := by omega
        have HNP := Lib.hid (show Calls Tryd.prog 38 #[.slice A n cap] w (fun e w' => ∃ v k, e = .returned (.tuple #[v, .int .i64 k]) ∧ Below w.heap.size w w') from HN.out.mono fun e w' ⟨v, hv, _, hb⟩ => ⟨v, _, hv, hb⟩)
        clear he hr hk h hn h8
        go_enter Tryd.func12, Tryd.ntmps12
        go_wp2_with fail
        refine HNP.out.mono ?_
        rintro e w1 ⟨v1, k1, rfl, hb1⟩
        have HB1 := Lib.hid hb1
        clear hb1
        go_wp2_with (first
          | (go_at_call 16; refine (HW.out w1 HB1.out).mono ?_; rw [HE.out]; rintro e w' ⟨rfl, rfl⟩)
          | (go_at_call 39; refine (HR.out w1 HB1.out).mono ?_; rw [HV.out]; rintro e w2 ⟨rfl, hb2⟩; have HB2 := Lib.hid (HB1.out.trans (hb2.mono HB1.out.size)); clear hb2))
        refine (known_after HB2.out).mono ?_
        rintro e w4 ⟨rfl, hb4⟩
        go_wp2_with fail
        go_ret
        exact ⟨rfl, hb4⟩
  · have hne : (errB 40 xs != 0) = true := by rw [bne_iff_ne]; exact he
    have hk : rkE xs n = errB 40 xs := by unfold rkE; rw [if_neg he]
    have HK := Lib.hid (HN.out.mono fun e w' h => ErrPost.get_err (by rw [hk]; exact he) h)
    rw [hk] at HK
    clear he hk h hn
    go_enter Tryd.func12, Tryd.ntmps12
    go_wp2_with fail
    refine HK.out.mono ?_
    rintro e w1 ⟨B1, d1, rfl, hb1⟩
    go_wp2_with (go_at_call 16; refine (HW.out w1 hb1).mono ?_; rintro e w' ⟨rfl, rfl⟩)
    refine (known_after hb1).mono ?_
    rintro e w4 ⟨rfl, hb4⟩
    go_wp2_with fail
    go_ret
    exact ⟨rfl, hb4⟩

end Go.Proofs.YtenomnkdfiojbaaDoor
