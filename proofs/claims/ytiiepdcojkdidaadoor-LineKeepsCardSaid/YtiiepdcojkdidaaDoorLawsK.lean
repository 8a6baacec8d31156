/-
  The walk of the law LineKeeps.
-/
import Derived.Test.YtiiepdcojkdidaaDoorLawsW
namespace Go.Proofs.YtiiepdcojkdidaaDoor
open Go.RowKit

theorem wsum_alt (xs : List Int) (f : Nat) : ∀ j, j ≤ xs.length → wsum xs f j = Ln.alt (fun x => if x ≤ (f : Int) then 1 else 0) (xs.take j)
  | 0, _ => by simp [wsum, Ln.alt]
  | j + 1, hj => by
    have hx : xs[j]? = some xs[j] := List.getElem?_eq_getElem (by omega)
    rw [wsum, wsum_alt xs f j (by omega), List.take_add_one, hx, Option.toList_some, Ln.alt_append, List.getD_eq_getElem?_getD, hx]
    have hl : (xs.take j).length = j := by rw [List.length_take]; omega
    rw [hl]
    have h1 : Ln.alt (fun x => if x ≤ (f : Int) then 1 else 0) [xs[j]] = if xs[j] ≤ (f : Int) then 1 else 0 := by simp [Ln.alt]
    rw [h1]
    show _ + (if xs[j] ≤ (f : Int) then 1 - 2 * ((j : Int) % 2) else 0) = _
    by_cases he : j % 2 = 0
    · rw [if_pos he, show (j : Int) % 2 = 0 by omega]
      split <;> omega
    · rw [if_neg he, show (j : Int) % 2 = 1 by omega]
      split <;> omega
theorem windL_alt (kn : Nat) (xs : List Int) : windL kn xs = (List.range kn).map fun f : Nat => Ln.alt (fun x => if x ≤ (f : Int) then 1 else 0) xs := by
  unfold windL
  refine List.map_congr_left fun f _ => ?_
  rw [wsum_alt xs f _ (Nat.le_refl _), List.take_length]
def negL (l : List Int) : List Int := l.map fun x => -x
theorem windL_neg {kn : Nat} {xs ys : List Int} (h : ∀ c, Ln.alt c ys = - Ln.alt c xs) : windL kn ys = negL (windL kn xs) := by
  rw [windL_alt, windL_alt]
  unfold negL
  rw [List.map_map]
  exact List.map_congr_left fun f _ => h _
theorem windL_reverse (kn : Nat) {xs : List Int} (he : xs.length % 2 = 0) : windL kn xs.reverse = negL (windL kn xs) :=
  windL_neg fun c => by rw [Ln.alt_reverse, if_pos he]
theorem windL_normal (kn : Nat) {xs : List Int} (he : xs.length % 2 = 0) : windL kn (Ln.normal xs) = windL kn xs ∨ windL kn (Ln.normal xs) = negL (windL kn xs) := by
  rcases Ln.alt_normal xs he with h | h
  · left
    rw [windL_alt, windL_alt]
    exact List.map_congr_left fun f _ => h _
  · exact .inr (windL_neg h)
theorem oddTo_neg (l : List Int) : ∀ j, oddTo (negL l) j = oddTo l j
  | 0 => rfl
  | j + 1 => by
    rw [oddTo, oddTo, oddTo_neg l j]
    have h : ((negL l).getD j 0).tmod 2 = -(l.getD j 0).tmod 2 := by
      rw [← Int.neg_tmod]
      congr 1
      unfold negL
      rw [List.getD_eq_getElem?_getD, List.getD_eq_getElem?_getD, List.getElem?_map]
      cases l[j]? <;> rfl
    rw [h]
    have : (-(l.getD j 0).tmod 2 != 0) = ((l.getD j 0).tmod 2 != 0) := by
      rw [Bool.eq_iff_iff, bne_iff_ne, bne_iff_ne]
      omega
    rw [this]
theorem insideL_normal (kn : Nat) {xs : List Int} (he : xs.length % 2 = 0) : insideL kn xs = insideL kn (Ln.normal xs) := by
  unfold insideL
  rcases windL_normal kn he with h | h
  · rw [h]
  · rw [h, oddTo_neg]
theorem negL_length (l : List Int) : (negL l).length = l.length := by simp [negL]

def MinRel (l : List Int) (kn : Nat) (w : World) (v i : Value) (wr : World) : Prop :=
  ∃ j : Nat, j ≤ kn ∧ i = .int .i64 j ∧ OwnI wr w.heap.size v (negL (l.take j)) ∧ Below w.heap.size w wr

set_option maxHeartbeats 4000000 in
set_option maxRecDepth 100000 in
theorem lineKeeps_walk (k : Int) (A : Option Addr) (n cap : Nat) (xs : List Int) (w : World) (_hk : I64 k) (h : SL w A n xs) (hn : n ≤ maxLen) (_hi : ∀ y, y ∈ xs → I64 y) (_hs : (A = none → cap = 0) ∧ n ≤ cap) (_t : True) :
    Calls Tryd.prog 12 #[.int .i64 k, .slice A n cap] w fun e w' => e = .returned (.bool true) ∧ Below w.heap.size w w' := by
  have HL := Lib.hid h.1
  have HN := Lib.hid hn
  have HV0 := Lib.hid (refValid_calls k A n cap xs w h hn)
  by_cases hv : validB k xs = true
  · have HV := Lib.hid hv
    have hvi := validB_iff.1 hv
    obtain ⟨k0, k40, hl, he, _⟩ := hvi
    have HE : Hid (xs.length % 2 = 0 ∧ n ≤ 400) := ⟨he, by have := HL.out; omega⟩
    obtain ⟨kn, rfl⟩ := Int.eq_ofNat_of_zero_le k0
    have HER := Lib.hid (errB_of_valid hv)
    have HEN := Lib.hid (errB_of_valid (validB_normal hv))
    have HEV := Lib.hid (errB_of_valid (validB_reverse hv))
    have HMN : Hid ((Ln.normal xs).length ≤ maxLen) := by have := (Ln.length_normal xs).2; unfold Hid maxLen; omega
    have H := Lib.hid (Held.start h)
    clear hv hl he h
    go_enter Tryd.func12, Tryd.ntmps12
    go_wp2_with (go_at_call 16; refine HV0.out.mono ?_; rw [HV.out]; rintro e w' ⟨rfl, rfl⟩)
    refine (winding_ok cap (H.out.get 0 rfl) HN.out HER.out).mono ?_
    rintro e w1 ⟨A1, c1, rfl, s1, hc1, hb1⟩
    have H := Lib.hid (H.out.add hb1 s1)
    clear s1 hb1 hc1
    go_wp2_with fail
    refine (nrm_ok cap (H.out.get 1 rfl) HN.out HV.out).mono ?_
    rintro e w2 ⟨A2, c2, rfl, s2, _, hb2⟩
    have H := Lib.hid (H.out.add hb2 s2)
    clear s2 hb2
    go_wp2_with fail
    refine (winding_ok c2 (H.out.get 0 rfl) HMN.out HEN.out).mono ?_
    rintro e w3 ⟨A3, c3, rfl, s3, _, hb3⟩
    have H := Lib.hid (H.out.add hb3 s3)
    clear s3 hb3
    go_wp2_with fail
    refine (reverse_ok cap (H.out.get 3 rfl) HN.out HV.out).mono ?_
    rintro e w4 ⟨A4, c4, rfl, s4, _, hb4⟩
    have H := Lib.hid (H.out.add hb4 s4)
    clear s4 hb4
    go_wp2_with fail
    refine (winding_ok c4 (H.out.get 0 rfl) HN.out HEV.out).mono ?_
    rintro e w5 ⟨A5, c5, rfl, s5, _, hb5⟩
    have H := Lib.hid (H.out.add hb5 s5)
    clear s5 hb5
    go_wp2_with fail
    refine (inside_ok cap (H.out.get 5 rfl) HN.out HER.out).mono ?_
    rintro e w6 ⟨A6, c6, rfl, s6, _, hb6⟩
    have H := Lib.hid (H.out.add hb6 s6)
    clear s6 hb6
    go_wp2_with fail
    refine (nrm_ok cap (H.out.get 6 rfl) HN.out HV.out).mono ?_
    rintro e w7 ⟨A7, c7, rfl, s7, _, hb7⟩
    have H := Lib.hid (H.out.add hb7 s7)
    clear s7 hb7
    go_wp2_with fail
    refine (inside_ok c7 (H.out.get 0 rfl) HMN.out HEN.out).mono ?_
    rintro e w8 ⟨A8, c8, rfl, s8, _, hb8⟩
    have H := Lib.hid (H.out.add hb8 s8)
    clear s8 hb8
    -- held: 0 inside(normal) 1 normal 2 inside 3 winding(reverse) 4 reverse 5 winding(normal) 6 normal 7 winding 8 w
    go_wp2_with fail
    refine (eq_ok c6 c8 (H.out.get 2 rfl) (H.out.get 0 rfl) (by have := insideL_length kn xs; unfold maxLen; omega) (insideL_normal kn HE.out.1)).mono ?_
    rintro e w9 ⟨rfl, hb9⟩
    have H := Lib.hid (H.out.step hb9)
    clear hb9
    go_wp2_with fail
    go_loopw [17, 18] (fun v i wr => MinRel (windL kn xs) kn w9 v i wr) (fun _ i _ => kn - (intOf i).toNat)
    case atStart => exact ⟨0, Nat.zero_le _, rfl, World.ownsRow_nil _ _ _ _, Below.refl _ _⟩
    case round =>
      obtain ⟨j, hj, rfl, hown, hb⟩ := hrel
      have HOWN := Lib.hid hown
      have hws := hb.size
      have HB := Lib.hid hb
      have HR := Lib.hid (H.out.step hb)
      have hlen : (negL ((windL kn xs).take j)).length ≤ kn := by rw [negL_length, List.length_take, windL_length]; omega
      have HLEN := Lib.hid hlen
      clear hown hlen hb
      by_cases hlt : j < kn
      · obtain ⟨b, off, x, rfl, _, hx, hc⟩ := (HR.out.get 7 rfl).at_ hlt
        have hxw : wsum xs j n = x := by
          have hx2 := hx
          unfold windL at hx2
          rw [List.getElem?_map, List.getElem?_range hlt, HL.out] at hx2
          injection hx2
        have hbd := wsum_bd xs j n
        rw [hxw] at hbd
        obtain ⟨bd1, bd2⟩ := hbd
        have n4 := HE.out.2
        have HS : Hid (negL ((windL kn xs).take (j + 1)) = negL ((windL kn xs).take j) ++ [-x]) := by unfold Hid; rw [List.take_add_one, hx]; simp [negL]
        clear hx hxw
        go_wp2_with (at_builtin; refine wpList_append_ints rfl _ _ rfl w9.heap.size _ (negL ((windL kn xs).take j)) rfl (OwnI.below HOWN.out ((Below.refl _ _).alloc (Nat.le_refl _) _)) ⟨wr.heap.size, 0, none⟩ 1 1 [-x] rfl ?c0 ?c1 ?c2 ?_)
        case c0 => exact SL.one wr _ _
        case c1 => have := HLEN.out; omega
        case c2 => first | omega | (simp; omega)
        intro v' w' hown' hg _
        have hnb := grown_below (HB.out.alloc HB.out.size _) (HOWN.out.below ((Below.refl _ _).alloc (Nat.le_refl _) _)) hg
        have HREL : Hid (MinRel (windL kn xs) kn w9 v' (.int .i64 ((j : Int) + 1)) w') := ⟨j + 1, by omega, by rw [Int.natCast_add]; rfl, by rw [HS.out]; exact hown', hnb⟩
        clear hown' hg hc hnb
        go_wp2_with fail
        go_roundw
        case rel => exact HREL.out
        case measure => simp [intOf]; omega
      · obtain rfl : j = kn := by omega
        have hown := HOWN.out
        rw [List.take_of_length_le (by rw [windL_length]; exact Nat.le_refl _)] at hown
        obtain ⟨Ao, co, rfl, _, _⟩ := HOWN.out.form
        have hso := hown.sl
        rw [List.take_of_length_le (by rw [windL_length]; exact Nat.le_refl _), negL_length, windL_length] at hso
        rw [List.take_of_length_le (by rw [windL_length]; exact Nat.le_refl _), negL_length, windL_length]
        have HR := Lib.hid (HR.out.add (Below.refl _ _) hso)
        have hkm : j ≤ maxLen := by unfold maxLen; omega
        have HKM := Lib.hid hkm
        clear hown hso hkm
        have HZ := Lib.hid (eq_ok c5 co (HR.out.get 4 rfl) (HR.out.get 0 rfl) HKM.out (windL_reverse j HE.out.1))
        rcases windL_normal j HE.out.1 with hq | hq
        · go_wp2_with fail
          refine HZ.out.mono ?_
          rintro e wa ⟨rfl, hba⟩
          have HR := Lib.hid (HR.out.step hba)
          clear hba
          go_wp2_with fail
          refine (eq_ok c1 c3 (HR.out.get 8 rfl) (HR.out.get 6 rfl) HKM.out hq.symm).mono ?_
          rintro e wb ⟨rfl, hbb⟩
          have HR := Lib.hid (HR.out.step hbb)
          clear hbb
          go_wp2_with fail
          refine (known_after HR.out.1).mono ?_
          rintro e wc ⟨rfl, hbc⟩
          go_wp2_with fail
          go_ret
          exact ⟨rfl, hbc⟩
        · go_wp2_with fail
          refine HZ.out.mono ?_
          rintro e wa ⟨rfl, hba⟩
          have HR := Lib.hid (HR.out.step hba)
          clear hba
          go_wp2_with fail
          refine (equal_calls _ _ j c1 j c3 _ _ wa (HR.out.get 8 rfl) (HR.out.get 6 rfl) HKM.out).mono ?_
          rintro e wb ⟨rfl, hbb⟩
          have HR := Lib.hid (HR.out.step hbb)
          clear hbb
          obtain ⟨q, hqq⟩ : ∃ q, decide (windL j xs = windL j (Ln.normal xs)) = q := ⟨_, rfl⟩
          rw [hqq]
          clear hqq
          cases q with
          | true =>
            go_wp2_with fail
            refine (known_after HR.out.1).mono ?_
            rintro e wc ⟨rfl, hbc⟩
            go_wp2_with fail
            go_ret
            exact ⟨rfl, hbc⟩
          | false =>
            go_wp2_with fail
            refine (eq_ok co c3 (HR.out.get 0 rfl) (HR.out.get 6 rfl) HKM.out hq.symm).mono ?_
            rintro e wd ⟨rfl, hbd⟩
            have HR := Lib.hid (HR.out.step hbd)
            clear hbd
            go_wp2_with fail
            refine (known_after HR.out.1).mono ?_
            rintro e wc ⟨rfl, hbc⟩
            go_wp2_with fail
            go_ret
            exact ⟨rfl, hbc⟩
  · have hv' : validB k xs = false := by simpa using hv
    have HV := Lib.hid hv'
    clear hv hv'
    go_enter Tryd.func12, Tryd.ntmps12
    go_wp2_with (go_at_call 16; refine HV0.out.mono ?_; rw [HV.out]; rintro e w' ⟨rfl, rfl⟩)
    refine (known_after (Below.refl w.heap.size w)).mono ?_
    rintro e wz ⟨rfl, hz⟩
    go_wp2_with fail
    go_ret
    exact ⟨rfl, hz⟩

end Go.Proofs.YtiiepdcojkdidaaDoor
