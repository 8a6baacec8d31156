/-
  The walks of the reference's Winding and of the laws LineWinds and LineKeeps.
-/
import Derived.Test.YtenomnkdfiojbaaDoorHeld
namespace Go.Proofs.YtenomnkdfiojbaaDoor
open Go.RowKit

def RWRel (xs : List Int) (m n : Nat) (w : World) (v i : Value) (wr : World) : Prop :=
  ∃ j q : Nat, j ≤ n ∧ i = .int .i64 j ∧ v = .int .i64 (wsum xs m j) ∧ wr = w.drewN q

set_option maxHeartbeats 1000000 in
theorem refWinding_calls (A : Option Addr) (n cap : Nat) (xs : List Int) (m : Nat) (w : World) (h : SL w A n xs) (hn : n ≤ 1000) :
    Calls Tryd.prog 36 #[.slice A n cap, .int .i64 ((m : Int) + 1)] w fun e w' => e = .returned (.int .i64 (wsum xs m n)) ∧ ∃ q, w' = w.drewN q := by
  go_enter Tryd.func36, Tryd.ntmps36
  go_wp2_with fail
  go_loopw [5, 6] (fun v i wr => RWRel xs m n w v i wr) (fun _ i _ => n - (intOf i).toNat)
  case atStart => exact ⟨0, 0, Nat.zero_le _, rfl, rfl, rfl⟩
  case round =>
    obtain ⟨j, q, hj, rfl, rfl, rfl⟩ := hrel
    by_cases hlt : j < n
    · obtain ⟨b, off, x, rfl, _, hx, hc⟩ := (h.drewN q).at_ hlt
      have hbd := wsum_bd xs m j
      obtain ⟨bd1, bd2⟩ := hbd
      have hj0 : 0 ≤ (j : Int) % 2 := by omega
      have hj1 : (j : Int) % 2 ≤ 1 := by omega
      have hxd : xs.getD j 0 = x := by rw [List.getD_eq_getElem?_getD, hx]; rfl
      by_cases hp : x ≤ (m : Int)
      · have hp1 : x < (m : Int) + 1 := by omega
        have HS : Hid (wsum xs m (j + 1) = wsum xs m j + (1 - 2 * ((j : Int) % 2))) := by unfold Hid; rw [wsum, hxd, if_pos hp]
        clear hp hx hxd
        generalize wsum xs m j = u at *
        go_wp2_with fail
        go_roundw
        case rel => exact ⟨j + 1, _, by omega, by rw [Int.natCast_add]; rfl, by rw [HS.out]; congr 1; omega, rfl⟩
        case measure => simp [intOf]; omega
      · have hp1 : ¬ x < (m : Int) + 1 := by omega
        have HS : Hid (wsum xs m (j + 1) = wsum xs m j) := by unfold Hid; rw [wsum, hxd, if_neg hp]; omega
        clear hp hx hxd
        go_wp2_with fail
        go_roundw
        case rel => exact ⟨j + 1, _, by omega, by rw [Int.natCast_add]; rfl, by rw [HS.out], rfl⟩
        case measure => simp [intOf]; omega
    · obtain rfl : j = n := by omega
      go_wp2_with fail
      go_ret
      exact ⟨rfl, _, rfl⟩

theorem insideL_length (kn : Nat) (xs : List Int) : (insideL kn xs).length ≤ kn := oddTo_length _ _
theorem winding_ok {W : World} {A : Option Addr} {n : Nat} {xs : List Int} {kn : Nat} (cap : Nat) (h : SL W A n xs) (hn : n ≤ maxLen) (hv : errB (kn : Int) xs = 0) :
    Calls Tryd.prog 34 #[.int .i64 (kn : Int), .slice A n cap] W (OkPost W (windL kn xs) kn) := by
  have := winding_calls kn A n cap xs W h hn
  rw [Int.toNat_natCast] at this
  exact this.mono fun _ _ hp => OkPost.of hv (windL_length _ _) hp
theorem inside_ok {W : World} {A : Option Addr} {n : Nat} {xs : List Int} {kn : Nat} (cap : Nat) (h : SL W A n xs) (hn : n ≤ maxLen) (hv : errB (kn : Int) xs = 0) :
    Calls Tryd.prog 35 #[.int .i64 (kn : Int), .slice A n cap] W (OkPost W (insideL kn xs) (insideL kn xs).length) := by
  have := inside_calls kn A n cap xs W h hn
  rw [Int.toNat_natCast] at this
  exact this.mono fun _ _ hp => OkPost.of hv rfl hp

def WLRel (l : List Int) (kn : Nat) (w : World) (v i : Value) (wr : World) : Prop :=
  ∃ j : Nat, j ≤ kn ∧ i = .int .i64 ((j : Int) + 1) ∧ OwnI wr w.heap.size v (oddTo l j) ∧ Below w.heap.size w wr

set_option maxHeartbeats 2000000 in
set_option maxRecDepth 100000 in
theorem lineWinds_walk (k : Int) (A : Option Addr) (n cap : Nat) (xs : List Int) (w : World) (_hk : I64 k) (h : SL w A n xs) (hn : n ≤ maxLen) (_hi : ∀ y, y ∈ xs → I64 y) (_hs : (A = none → cap = 0) ∧ n ≤ cap) (_t : True) :
    Calls Tryd.prog 10 #[.int .i64 k, .slice A n cap] w fun e w' => e = .returned (.bool true) ∧ Below w.heap.size w w' := by
  have HL := Lib.hid h.1
  have HN := Lib.hid hn
  have HWF := Lib.hid (fun W (hb : Below w.heap.size w W) => wrongFor_calls k A n cap xs W (h.below hb) hn)
  by_cases he : errB k xs = 0
  · have hv := errB_ok h.1 he
    have HV := Lib.hid hv.1
    have n400 := hv.2.1
    have k0 := hv.2.2.2.1
    have k40 := hv.2.2.2.2
    obtain ⟨kn, rfl⟩ := Int.eq_ofNat_of_zero_le k0
    have HE := Lib.hid he
    have H := Lib.hid (Held.start h)
    clear he hv h
    go_enter Tryd.func10, Tryd.ntmps10
    go_wp2_with fail
    refine (winding_ok cap (H.out.get 0 rfl) HN.out HE.out).mono ?_
    rintro e w1 ⟨A1, c1, rfl, s1, hc1, hb1⟩
    have H := Lib.hid (H.out.add hb1 s1)
    clear s1 hb1
    go_wp2_with fail
    refine (inside_ok cap (H.out.get 1 rfl) HN.out HE.out).mono ?_
    rintro e w2 ⟨A2, c2, rfl, s2, hc2, hb2⟩
    have H := Lib.hid (H.out.add hb2 s2)
    clear s2 hb2
    go_wp2_with (go_at_call 26; refine (HWF.out _ H.out.1).mono ?_; rw [HE.out]; rintro e w' ⟨rfl, rfl⟩)
    obtain ⟨l, hlE⟩ : ∃ l, windL kn xs = l := ⟨_, rfl⟩
    have HIL := Lib.hid (insideL_length kn xs)
    have HI : Hid (insideL kn xs = oddTo l kn) := by unfold Hid insideL; rw [hlE]
    have HLE := Lib.hid hlE
    rw [hlE] at H
    clear hlE
    go_loopw [9, 10] (fun v i wr => WLRel l kn w2 v i wr) (fun _ i _ => kn + 1 - (intOf i).toNat)
    case atStart => exact ⟨0, Nat.zero_le _, rfl, World.ownsRow_nil _ _ _ _, Below.refl _ _⟩
    case round =>
      obtain ⟨j, hj, rfl, hown, hbb⟩ := hrel
      have HOWN := Lib.hid hown
      have hol := oddTo_length l j
      clear hown
      have HR := Lib.hid (H.out.step hbb)
      have HBB := Lib.hid hbb
      clear hbb
      by_cases hlt : j < kn
      · obtain ⟨b, off, x, rfl, hbs, hx, hc⟩ := (HR.out.get 1 rfl).at_ hlt
        have hxw : wsum xs j n = x := by
          rw [← HLE.out] at hx
          unfold windL at hx
          rw [List.getElem?_map, List.getElem?_range hlt, HL.out] at hx
          injection hx
        have HRJ := Lib.hid (fun q => refWinding_calls A n cap xs j (wr.drewN q) ((HR.out.get 2 rfl).drewN q) (by omega))
        rw [hxw] at HRJ
        have hxd : l.getD j 0 = x := by rw [List.getD_eq_getElem?_getD, hx]; rfl
        have HX := Lib.hid hxd
        have hj1 : (j : Int) + 1 - 1 < kn := by omega
        have hj2 : 0 ≤ (j : Int) + 1 - 1 := by omega
        have hj3 : (j : Int) < kn := by omega
        have hjk : (j : Int) + 1 ≤ kn := by omega
        clear hx hxd hxw
        cases hq : x.tmod 2 != 0 with
        | true =>
          have hq2 : (x.tmod 2 != 0) = true := hq
          have HS : Hid (oddTo l (j + 1) = oddTo l j ++ [(j : Int) + 1]) := by unfold Hid; rw [oddTo, HX.out, if_pos hq]
          have HOL := Lib.hid hol
          clear hq hol
          go_wp2_with fail
          go_quiet (refine Calls.quiet_of (HRJ.out _))
          go_wp2_with (at_builtin; refine wpList_append_ints rfl _ _ rfl w2.heap.size _ (oddTo l j) rfl (OwnI.below HOWN.out ((below_drewN (Below.refl _ _) _).alloc (Nat.le_refl _) _)) ⟨wr.heap.size, 0, none⟩ 1 1 [(j : Int) + 1] rfl ?c0 ?c1 ?c2 ?_)
          case c0 => exact SL.one (wr.drewN _) _ _
          case c1 => have := HOL.out; have := HN.out; unfold maxLen at this; simp; omega
          case c2 => have := HBB.out.size; first | omega | (simp; omega)
          intro v' w' hown' hg _
          have HREL : Hid (WLRel l kn w2 v' (.int .i64 ((j : Int) + 1 + 1)) w') :=
            ⟨j + 1, by omega, by rw [Int.natCast_add]; rfl, by rw [HS.out]; exact hown', grown_below ((below_drewN HBB.out _).alloc HBB.out.size _) (HOWN.out.below ((below_drewN (Below.refl _ _) _).alloc (Nat.le_refl _) _)) hg⟩
          clear hown' hg hc
          go_wp2_with fail
          go_roundw
          case rel => exact HREL.out
          case measure => simp [intOf]; omega
        | false =>
          have hq2 : (x.tmod 2 != 0) = false := hq
          have HS : Hid (oddTo l (j + 1) = oddTo l j) := by unfold Hid; rw [oddTo, HX.out, if_neg (by rw [hq]; simp)]
          clear hq
          go_wp2_with fail
          go_quiet (refine Calls.quiet_of (HRJ.out _))
          go_wp2_with fail
          go_roundw
          case rel => exact ⟨j + 1, by omega, by rw [Int.natCast_add]; rfl, by rw [HS.out]; exact HOWN.out.below (below_drewN (Below.refl _ _) _), below_drewN HBB.out _⟩
          case measure => simp [intOf]; omega
      · obtain rfl : j = kn := by omega
        obtain ⟨Ao, co, rfl, _, _⟩ := HOWN.out.form
        have hso := HOWN.out.sl
        have HQ := Lib.hid (eq_ok c2 co (HR.out.get 0 rfl) hso (by have := HIL.out; unfold maxLen; omega) HI.out)
        clear hso
        go_wp2_with fail
        refine HQ.out.mono ?_
        rintro e w6 ⟨rfl, hb6⟩
        have H6 := Lib.hid (HR.out.step hb6)
        clear hb6
        go_wp2_with fail
        refine (known_after H6.out.1).mono ?_
        rintro e w7 ⟨rfl, hb7⟩
        go_wp2_with fail
        go_ret
        exact ⟨rfl, hb7⟩
  · have hne : (errB k xs != 0) = true := by rw [bne_iff_ne]; exact he
    have HE := Lib.hid he
    have HW := Lib.hid ((winding_calls k A n cap xs w h hn).mono fun e w' h => ErrPost.get_err he h)
    have HI := Lib.hid (fun W (hb : Below w.heap.size w W) => (inside_calls k A n cap xs W (h.below hb) hn).mono fun e w' h => ErrPost.get_err he h)
    clear he
    go_enter Tryd.func10, Tryd.ntmps10
    go_wp2_with fail
    refine HW.out.mono ?_
    rintro e w1 ⟨A1, c1, rfl, hb1⟩
    go_wp2_with fail
    refine (HI.out w1 hb1).mono ?_
    rintro e w2 ⟨A2, c2, rfl, hb2⟩
    have b2 : Below w.heap.size w w2 := hb1.trans (hb2.mono hb1.size)
    clear hb2
    go_wp2_with (go_at_call 26; refine (HWF.out _ b2).mono ?_; rintro e w' ⟨rfl, rfl⟩)
    refine (known_after b2).mono ?_
    rintro e w5 ⟨rfl, hb5⟩
    go_wp2_with fail
    go_ret
    exact ⟨rfl, hb5⟩

end Go.Proofs.YtenomnkdfiojbaaDoor
