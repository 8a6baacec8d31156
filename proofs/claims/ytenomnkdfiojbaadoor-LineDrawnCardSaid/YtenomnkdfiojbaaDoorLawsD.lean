/-
  The walk of the law LineDrawn.
-/
import Derived.Test.YtenomnkdfiojbaaDoorRanks
import Derived.Test.YtenomnkdfiojbaaDoorRkE
import Derived.Test.YtenomnkdfiojbaaDoorRedH
namespace Go.Proofs.YtenomnkdfiojbaaDoor
open Go.RowKit

theorem cycB_cyc {xs : List Int} : cycB xs = true ↔ Ln.cyc xs := by
  rw [cycB_true]
  unfold Ln.cyc
  constructor
  · intro h i hi he
    refine h i hi ?_
    rw [List.getD_eq_getElem?_getD, List.getD_eq_getElem?_getD, he]
  · intro h i hi he
    refine h i hi ?_
    have h2 : (i + 1) % xs.length < xs.length := Nat.mod_lt _ (by omega)
    rw [List.getD_eq_getElem?_getD, List.getD_eq_getElem?_getD, List.getElem?_eq_getElem hi, List.getElem?_eq_getElem h2] at he
    rw [List.getElem?_eq_getElem hi, List.getElem?_eq_getElem h2]
    exact congrArg some he
theorem reducedB_iff {xs : List Int} : reducedB xs = true ↔ validB 40 xs = true ∧ Ln.cyc xs := by
  unfold reducedB
  rw [Bool.and_eq_true, cycB_cyc]
theorem reducedB_rot1 {xs : List Int} (h : reducedB xs = true) : reducedB (Ln.rot1 xs) = true := by
  rw [reducedB_iff] at h ⊢
  exact ⟨validB_rot1 h.1, Ln.cyc_rot1 h.2⟩
theorem reducedB_mirror {k : Int} {xs : List Int} (hv : validB k xs = true) (h : reducedB xs = true) : reducedB (mirrorL k xs) = true := by
  rw [reducedB_iff] at h ⊢
  refine ⟨errB_valid40 (validB_mirror hv), ?_⟩
  intro i hi he
  rw [length_mirrorL] at hi he
  have h2 : (i + 1) % xs.length < xs.length := Nat.mod_lt _ (by omega)
  refine h.2 i hi ?_
  unfold mirrorL at he
  rw [List.getElem?_map, List.getElem?_map, List.getElem?_eq_getElem hi, List.getElem?_eq_getElem h2] at he
  rw [List.getElem?_eq_getElem hi, List.getElem?_eq_getElem h2]
  simp only [Option.map_some, Option.some.injEq] at he ⊢
  omega

open Classical in
theorem rkE_has {ys : List Int} {m : Nat} (hl : ys.length = m) (hr : reducedB ys = true) : rkE ys m = if HasPos ys then 0 else 8 := by
  have he : errB 40 ys = 0 := errB_of_valid (reducedB_iff.1 hr).1
  unfold rkE
  rw [if_pos he, if_pos hr]
  by_cases hp : HasPos ys
  · obtain ⟨R, hR⟩ := (hasPos_iff hl hr).2 hp
    rw [if_pos hp, (ranksM_drawn hl hr).2 hR]
    rfl
  · rw [if_neg hp]
    cases hm : ranksM ys m with
    | none => rfl
    | some R => exact absurd ((hasPos_iff hl hr).1 ⟨R, (ranksM_drawn hl hr).1 hm⟩) hp
theorem rkE_eq {xs ys : List Int} {n m : Nat} (hl : xs.length = n) (hm : ys.length = m) (hr : reducedB xs = true) (hs : reducedB ys = true) (h : HasPos ys ↔ HasPos xs) : rkE ys m = rkE xs n := by
  rw [rkE_has hl hr, rkE_has hm hs]
  by_cases hp : HasPos xs
  · rw [if_pos hp, if_pos (h.2 hp)]
  · rw [if_neg hp, if_neg (fun c => hp (h.1 c))]
theorem rkE_normal {xs : List Int} {n : Nat} (hl : xs.length = n) (hr : reducedB xs = true) : rkE (Ln.normal xs) (Ln.normal xs).length = rkE xs n := by
  obtain ⟨he, _, _⟩ := red_rng hr
  have hc := (reducedB_iff.1 hr).2
  refine rkE_eq hl rfl hr (reducedB_normal (reducedB_iff.1 hr).1) (hasPos_cd he ?_)
  rw [Ln.normal_cyc hc]
  exact (Ln.isLeast_least xs he).1
theorem rkE_mirror {xs : List Int} {n : Nat} {k : Int} (hl : xs.length = n) (hv : validB k xs = true) (hr : reducedB xs = true) : rkE (mirrorL k xs) n = rkE xs n := by
  obtain ⟨_, k40, _, _, hx⟩ := validB_iff.1 hv
  exact rkE_eq hl (by rw [length_mirrorL, hl]) hr (reducedB_mirror hv hr) (hasPos_mirror k k40 hx)
theorem rkE_turn {xs : List Int} {n : Nat} (hl : xs.length = n) (hr : reducedB xs = true) : rkE (Ln.rot1 xs) n = rkE xs n :=
  rkE_eq hl (by rw [Ln.length_rot1, hl]) hr (reducedB_rot1 hr) hasPos_rot1

/-- What line.Ranks leaves, its list left open. -/
theorem ranks_any {W : World} {A : Option Addr} {n : Nat} {xs : List Int} (cap : Nat) {er : Int} (h : SL W A n xs) (hn : n ≤ maxLen) (he : rkE xs n = er) :
    Calls Tryd.prog 38 #[.slice A n cap] W fun e w' => ∃ v, e = .returned (.tuple #[v, .int .i64 er]) ∧ Below W.heap.size W w' :=
  (ranks_calls A n cap xs W h hn).mono fun e w' ⟨v, hv, _, hb⟩ => ⟨v, by rw [hv, he], hb⟩

def SgnRel (xs : List Int) (n kn : Nat) (w : World) (p m i : Value) (wr : World) : Prop :=
  ∃ (j : Nat) (pb mb : Bool), j ≤ kn ∧ i = .int .i64 ((j : Int) + 1) ∧ p = .bool pb ∧ m = .bool mb ∧ (pb = true → ∃ f, wsum xs f n = 1) ∧ (mb = true → ∃ f, wsum xs f n = -1) ∧ Below w.heap.size w wr

set_option maxHeartbeats 8000000 in
set_option maxRecDepth 100000 in
theorem lineDrawn_walk (k : Int) (A : Option Addr) (n cap : Nat) (xs : List Int) (w : World) (_hk : I64 k) (h : SL w A n xs) (hn : n ≤ maxLen) (_hi : ∀ y, y ∈ xs → I64 y) (hs : (A = none → cap = 0) ∧ n ≤ cap) (_t : True) :
    Calls Tryd.prog 13 #[.int .i64 k, .slice A n cap] w fun e w' => e = .returned (.bool true) ∧ Below w.heap.size w w' := by
  have HL := Lib.hid h.1
  have HV0 := Lib.hid (refValid_calls k A n cap xs w h hn)
  have HR0 := Lib.hid (refReduced_calls A n cap xs w h hn)
  have HN := Lib.hid hn
  have HC := Lib.hid hs.2
  have HSL := Lib.hid h
  by_cases h60 : n ≤ 60
  · cases hv : validB k xs with
    | false =>
      have HV := Lib.hid hv
      clear hv hs h
      go_enter Tryd.func13, Tryd.ntmps13
      go_wp2_with (go_at_call 30; refine HV0.out.mono ?_; rw [HV.out]; rintro e w' ⟨rfl, rfl⟩)
      refine (known_after (Below.refl w.heap.size w)).mono ?_
      rintro e wz ⟨rfl, hz⟩
      go_wp2_with fail
      go_ret
      exact ⟨rfl, hz⟩
    | true =>
      have HV := Lib.hid hv
      cases hr : reducedB xs with
      | false =>
        have HR := Lib.hid hr
        clear hv hs h hr
        go_enter Tryd.func13, Tryd.ntmps13
        go_wp2_with (first
          | (go_at_call 30; refine HV0.out.mono ?_; rw [HV.out]; rintro e w' ⟨rfl, rfl⟩)
          | (go_at_call 39; refine HR0.out.mono ?_; rw [HR.out]; rintro e w1 ⟨rfl, hb1⟩))
        refine (known_after hb1).mono ?_
        rintro e wz ⟨rfl, hz⟩
        go_wp2_with fail
        go_ret
        exact ⟨rfl, hz⟩
      | true =>
        have HR := Lib.hid hr
        have HE1 := Lib.hid (rkE_normal HL.out hr)
        have HE2 := Lib.hid (rkE_mirror HL.out hv hr)
        have HE3 := Lib.hid (rkE_turn HL.out hr)
        have HLN : Hid ((Ln.normal xs).length ≤ maxLen) := by unfold Hid; have := (Ln.length_normal xs).2; have := HL.out; omega
        obtain ⟨kn, rfl⟩ := Int.eq_ofNat_of_zero_le (validB_iff.1 hv).1
        have hk40 : kn ≤ 40 := by have := (validB_iff.1 hv).2.1; omega
        cases hm : ranksM xs n with
        | none =>
          have hk8 : rkE xs n = 8 := by unfold rkE; rw [if_pos (errB_of_valid (reducedB_iff.1 hr).1), if_pos hr, hm]; rfl
          have HK8 := Lib.hid hk8
          have HRK := Lib.hid (fun W (hb : Below w.heap.size w W) => (ranks_calls A n cap xs W (h.below hb) hn).mono fun e w' h => ErrPost.get_err (by rw [hk8]; decide) h)
          rw [hk8] at HE1 HE2 HE3 HRK
          clear hv hs h hr hm hk8
          go_enter Tryd.func13, Tryd.ntmps13
          go_wp2_with (first
            | (go_at_call 30; refine HV0.out.mono ?_; rw [HV.out]; rintro e w' ⟨rfl, rfl⟩)
            | (go_at_call 39; refine HR0.out.mono ?_; rw [HR.out]; rintro e w1 ⟨rfl, hb1⟩))
          have H := Lib.hid ((Held.start HSL.out).step hb1)
          clear hb1
          refine (HRK.out w1 H.out.1).mono ?_
          rintro e w2 ⟨B2, d2, rfl, hb2⟩
          have H := Lib.hid (H.out.step hb2)
          clear hb2
          go_wp2_with fail
          refine (nrm_ok cap (H.out.get 0 rfl) HN.out HV.out).mono ?_
          rintro e w3 ⟨A3, c3, rfl, s3, hc3, hb3⟩
          have H := Lib.hid (H.out.add hb3 s3)
          clear s3 hb3 hc3
          go_wp2_with fail
          refine (ranks_any c3 (H.out.get 0 rfl) HLN.out HE1.out).mono ?_
          rintro e w4 ⟨v4, rfl, hb4⟩
          have H := Lib.hid (H.out.step hb4)
          clear hb4
          go_wp2_with fail
          refine (mirror_ok cap (H.out.get 1 rfl) HN.out HV.out).mono ?_
          rintro e w5 ⟨A5, c5, rfl, s5, hc5, hb5⟩
          have H := Lib.hid (H.out.add hb5 s5)
          clear s5 hb5 hc5
          go_wp2_with fail
          refine (ranks_any c5 (H.out.get 0 rfl) HN.out HE2.out).mono ?_
          rintro e w6 ⟨v6, rfl, hb6⟩
          have H := Lib.hid (H.out.step hb6)
          clear hb6
          go_wp2_with fail
          refine (turn_ok (H.out.get 2 rfl) HN.out HC.out HV.out).mono ?_
          rintro e w7 ⟨A7, c7, rfl, s7, hc7, hb7⟩
          have H := Lib.hid (H.out.add hb7 s7)
          clear s7 hb7 hc7
          go_wp2_with fail
          refine (ranks_any c7 (H.out.get 0 rfl) HN.out HE3.out).mono ?_
          rintro e w8 ⟨v8, rfl, hb8⟩
          have H := Lib.hid (H.out.step hb8)
          clear hb8
          go_wp2_with fail
          refine (known_after H.out.1).mono ?_
          rintro e wz ⟨rfl, hz⟩
          go_wp2_with fail
          go_ret
          exact ⟨rfl, hz⟩
        | some R =>
          have hk0 : rkE xs n = 0 := by unfold rkE; rw [if_pos (errB_of_valid (reducedB_iff.1 hr).1), if_pos hr, hm]; rfl
          have hD := (ranksM_drawn HL.out hr).1 hm
          have hRR : rkR xs n = R := by unfold rkR; rw [hm]; rfl
          have HD := Lib.hid hD
          have HRK := Lib.hid (fun W (hb : Below w.heap.size w W) => (ranks_calls A n cap xs W (h.below hb) hn).mono fun e w' h => OkPost.of (n := n) hk0 (by rw [hRR]; exact hD.1) h)
          have HWD := Lib.hid (drawn_winds HL.out hr hD)
          rw [hk0] at HE1 HE2 HE3
          rw [hRR] at HRK
          clear hv hs h hr hm hk0 hD hRR
          go_enter Tryd.func13, Tryd.ntmps13
          go_wp2_with (first
            | (go_at_call 30; refine HV0.out.mono ?_; rw [HV.out]; rintro e w' ⟨rfl, rfl⟩)
            | (go_at_call 39; refine HR0.out.mono ?_; rw [HR.out]; rintro e w1 ⟨rfl, hb1⟩))
          have H := Lib.hid ((Held.start HSL.out).step hb1)
          clear hb1
          refine (HRK.out w1 H.out.1).mono ?_
          rintro e w2 ⟨B2, d2, rfl, s2, _, hb2⟩
          have H := Lib.hid (H.out.add hb2 s2)
          clear hb2 s2
          go_wp2_with fail
          refine (nrm_ok cap (H.out.get 1 rfl) HN.out HV.out).mono ?_
          rintro e w3 ⟨A3, c3, rfl, s3, hc3, hb3⟩
          have H := Lib.hid (H.out.add hb3 s3)
          clear s3 hb3 hc3
          go_wp2_with fail
          refine (ranks_any c3 (H.out.get 0 rfl) HLN.out HE1.out).mono ?_
          rintro e w4 ⟨v4, rfl, hb4⟩
          have H := Lib.hid (H.out.step hb4)
          clear hb4
          go_wp2_with fail
          refine (mirror_ok cap (H.out.get 2 rfl) HN.out HV.out).mono ?_
          rintro e w5 ⟨A5, c5, rfl, s5, hc5, hb5⟩
          have H := Lib.hid (H.out.add hb5 s5)
          clear s5 hb5 hc5
          go_wp2_with fail
          refine (ranks_any c5 (H.out.get 0 rfl) HN.out HE2.out).mono ?_
          rintro e w6 ⟨v6, rfl, hb6⟩
          have H := Lib.hid (H.out.step hb6)
          clear hb6
          go_wp2_with fail
          refine (turn_ok (H.out.get 3 rfl) HN.out HC.out HV.out).mono ?_
          rintro e w7 ⟨A7, c7, rfl, s7, hc7, hb7⟩
          have H := Lib.hid (H.out.add hb7 s7)
          clear s7 hb7 hc7
          go_wp2_with fail
          refine (ranks_any c7 (H.out.get 0 rfl) HN.out HE3.out).mono ?_
          rintro e w8 ⟨v8, rfl, hb8⟩
          have H := Lib.hid (H.out.step hb8)
          clear hb8
          go_wp2_with fail
          refine (drawnR_calls A B2 n n cap d2 xs R w8 (H.out.get 4 rfl) (H.out.get 3 rfl) (by omega) (by omega)).mono ?_
          rintro e w9 ⟨bb, rfl, hbb, hd9⟩
          have hbt : bb = true := hbb.2 HD.out
          subst hbt
          have HD9 : Hid (Drew w8 w9) := hd9
          have H := Lib.hid (H.out.step HD9.out.below)
          clear hbb hd9
          go_wp2_with fail
          go_loopw [17, 18, 19] (fun p m i wr => SgnRel xs n kn w9 p m i wr) (fun _ _ i _ => kn + 1 - (intOf i).toNat)
          case atStart => exact ⟨0, false, false, Nat.zero_le _, rfl, rfl, rfl, fun c => absurd c (by decide), fun c => absurd c (by decide), Below.refl _ _⟩
          case round =>
            obtain ⟨j, pb, mb, hj, rfl, rfl, rfl, hp, hmm, hb⟩ := hrel
            have HP := Lib.hid hp
            have HM := Lib.hid hmm
            have HB := Lib.hid hb
            clear hp hmm hb
            by_cases hlt : j < kn
            · have hj1 : (j : Int) + 1 ≤ kn := by omega
              have HS := Lib.hid ((H.out.get 4 rfl).below HB.out)
              have HWV := Lib.hid (refWinding_calls A n cap xs j wr HS.out (by omega))
              obtain ⟨v, hv⟩ : ∃ v, wsum xs j n = v := ⟨_, rfl⟩
              have hv3 : v = 0 ∨ v = 1 ∨ v = -1 := by
                obtain ⟨s, hs, hw⟩ := HWD.out
                rcases hw j with e | e
                · left; rw [← hv, e]
                · rcases hs with rfl | rfl
                  · right; left; rw [← hv, e]
                  · right; right; rw [← hv, e]
              rw [hv] at HWV
              have HV1 := Lib.hid hv
              clear hv
              rcases hv3 with rfl | rfl | rfl <;> cases pb <;> cases mb
              all_goals
                go_wp2_with fail
                refine HWV.out.mono ?_
                rintro e w10 ⟨rfl, hd10⟩
                have HD10 : Hid (Drew wr w10) := hd10
                clear hd10
                go_wp2_with fail
                go_roundw
                case rel => exact ⟨j + 1, _, _, by omega, by rw [Int.natCast_add]; rfl, rfl, rfl, (by first | exact HP.out | exact fun _ => HP.out trivial | exact fun c => absurd c (by decide) | exact fun _ => ⟨j, HV1.out⟩), (by first | exact HM.out | exact fun _ => HM.out trivial | exact fun c => absurd c (by decide) | exact fun _ => ⟨j, HV1.out⟩), HB.out.trans (HD10.out.below.mono HB.out.size)⟩
                case measure => simp [intOf]; omega
            · obtain rfl : j = kn := by omega
              have HPM : Hid (¬ (pb = true ∧ mb = true)) := by
                rintro ⟨h1, h2⟩
                obtain ⟨f1, e1⟩ := HP.out h1
                obtain ⟨f2, e2⟩ := HM.out h2
                obtain ⟨s, hs, hw⟩ := HWD.out
                have q1 := hw f1
                have q2 := hw f2
                omega
              have HB2 := Lib.hid (H.out.1.trans (HB.out.mono H.out.1.size))
              cases pb <;> cases mb
              case neg.true.true => exact absurd ⟨rfl, rfl⟩ HPM.out
              all_goals
                go_wp2_with fail
                refine (known_after HB2.out).mono ?_
                rintro e wz ⟨rfl, hz⟩
                go_wp2_with fail
                go_ret
                exact ⟨rfl, hz⟩
  · have h6 : (60 : Int) < n := by omega
    clear h60 h hs
    go_enter Tryd.func13, Tryd.ntmps13
    go_wp2_with fail
    refine (known_after (Below.refl w.heap.size w)).mono ?_
    rintro e wz ⟨rfl, hz⟩
    go_wp2_with fail
    go_ret
    exact ⟨rfl, hz⟩

end Go.Proofs.YtenomnkdfiojbaaDoor
