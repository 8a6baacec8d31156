/-
  The walk of the law LineForgetsBoth.
-/
import Derived.Test.YtiiepdcojkdidaaDoorHeld
namespace Go.Proofs.YtiiepdcojkdidaaDoor
open Go.RowKit

theorem validB_dropN {k f : Int} {xs : List Int} (h : validB k xs = true) (h1 : 1 ≤ f) (h2 : f ≤ k) : validB (k - 1) (Ln.normal (dropL f xs)) = true := by
  refine validB_normal ?_
  rw [validB_iff] at h ⊢
  refine ⟨by omega, by omega, by rw [length_dropL]; exact h.2.2.1, by rw [length_dropL]; exact h.2.2.2.1, fun x hx => ?_⟩
  obtain ⟨y, hy, rfl⟩ := List.mem_map.1 hx
  have := h.2.2.2.2 y hy
  unfold dropOne
  split <;> omega
theorem drop_drop {f g : Int} (xs : List Int) (h : f < g) : dropL f (dropL g xs) = dropL (g - 1) (dropL f xs) := by
  unfold dropL
  rw [List.map_map, List.map_map]
  refine List.map_congr_left fun x _ => ?_
  show dropOne f (dropOne g x) = dropOne (g - 1) (dropOne f x)
  unfold dropOne
  split <;> split <;> split <;> (try split) <;> omega
theorem normal_drop_normal {f : Int} {xs : List Int} (he : xs.length % 2 = 0) : Ln.normal (dropL f (Ln.normal xs)) = Ln.normal (dropL f xs) := Ln.normal_map_normal (dropOne f) xs he
theorem normal_both {f g : Int} {xs : List Int} (he : xs.length % 2 = 0) (h : f < g) : Ln.normal (dropL f (Ln.normal (dropL g xs))) = Ln.normal (dropL (g - 1) (Ln.normal (dropL f xs))) := by
  rw [normal_drop_normal (by rw [length_dropL]; exact he), normal_drop_normal (by rw [length_dropL]; exact he), drop_drop xs h]
theorem normal_of_valid0 {xs : List Int} (h : validB 0 xs = true) : Ln.normal xs = [] := by
  rw [validB_iff] at h
  exact Ln.normal_const xs h.2.2.2.1 0 fun x hx => by have := h.2.2.2.2 x hx; omega

/-- What Forget leaves of a word with the finger f of k. -/
theorem forget_ok {W : World} {A : Option Addr} {n : Nat} {xs : List Int} {k f : Int} (cap : Nat) (h : SL W A n xs) (hn : n ≤ maxLen) (hv : validB k xs = true) (h1 : 1 ≤ f) (h2 : f ≤ k) :
    Calls Tryd.prog 34 #[.int .i64 k, .slice A n cap, .int .i64 f] W (OkPost W (Ln.normal (dropL f xs)) (Ln.normal (dropL f xs)).length) :=
  (forget_calls k A n cap xs f W h hn).mono fun _ _ hp => OkPost.of (by unfold forgetErr; rw [if_neg (by rw [errB_of_valid hv]; simp), if_neg (by omega)]) rfl hp

theorem lenN {k : Int} {ys : List Int} (h : validB k ys = true) : ys.length ≤ maxLen := by
  have := (validB_iff.1 h).2.2.1
  unfold maxLen
  omega

def RestRel (k : Int) (w : World) (v i e : Value) (wr : World) : Prop :=
  ∃ (j : Nat) (A : Option Addr) (m c : Nat) (ys : List Int), (j : Int) ≤ k ∧ i = .int .i64 j ∧ v = .slice A m c ∧ e = .int .i64 0 ∧ validB (j : Int) ys = true ∧ m = ys.length ∧ Held w wr [(A, m, ys)]

set_option maxHeartbeats 4000000 in
set_option maxRecDepth 100000 in
theorem lineForgetsBoth_walk (k : Int) (A : Option Addr) (n cap : Nat) (xs : List Int) (f g : Int) (w : World) (_hk : I64 k) (h : SL w A n xs) (hn : n ≤ maxLen) (_hi : ∀ y, y ∈ xs → I64 y) (_hs : (A = none → cap = 0) ∧ n ≤ cap) (_hf : I64 f) (_hg : I64 g) (_t : True) :
    Calls Tryd.prog 10 #[.int .i64 k, .slice A n cap, .int .i64 f, .int .i64 g] w fun e w' => e = .returned (.bool true) ∧ Below w.heap.size w w' := by
  have HL := Lib.hid h.1
  have HV0 := Lib.hid (refValid_calls k A n cap xs w h hn)
  have HN := Lib.hid hn
  by_cases hv : validB k xs = true
  · have HV := Lib.hid hv
    have hvk := validB_iff.1 hv
    obtain ⟨k0, k40, hvl, hv2, _⟩ := hvk
    have HE : Hid (xs.length % 2 = 0) := hv2
    have H := Lib.hid (Held.start h)
    clear hv h hv2 hvl
    by_cases hc : 1 ≤ f ∧ f < g ∧ g ≤ k
    · obtain ⟨f1, fg, gk⟩ := hc
      have VA := Lib.hid (validB_dropN HV.out (f := g) (by omega) gk)
      have VB := Lib.hid (validB_dropN HV.out f1 (by omega : f ≤ k))
      have VN := Lib.hid (validB_normal HV.out)
      go_enter Tryd.func10, Tryd.ntmps10
      go_wp2_with (go_at_call 16; refine HV0.out.mono ?_; rw [HV.out]; rintro e w' ⟨rfl, rfl⟩)
      refine (forget_ok cap (H.out.get 0 rfl) HN.out HV.out (f := g) (by omega) gk).mono ?_
      rintro e w1 ⟨A1, c1, rfl, s1, _, hb1⟩
      have H := Lib.hid (H.out.add hb1 s1)
      clear s1 hb1
      go_wp2_with fail
      refine (forget_ok c1 (H.out.get 0 rfl) (lenN VA.out) VA.out f1 (by omega)).mono ?_
      rintro e w2 ⟨A2, c2, rfl, s2, _, hb2⟩
      have H := Lib.hid (H.out.add hb2 s2)
      clear s2 hb2
      go_wp2_with fail
      refine (forget_ok cap (H.out.get 2 rfl) HN.out HV.out f1 (by omega)).mono ?_
      rintro e w3 ⟨A3, c3, rfl, s3, _, hb3⟩
      have H := Lib.hid (H.out.add hb3 s3)
      clear s3 hb3
      go_wp2_with fail
      refine (forget_ok c3 (H.out.get 0 rfl) (lenN VB.out) VB.out (by omega) (by omega)).mono ?_
      rintro e w4 ⟨A4, c4, rfl, s4, _, hb4⟩
      have H := Lib.hid (H.out.add hb4 s4)
      clear s4 hb4
      go_wp2_with fail
      refine (nrm_ok cap (H.out.get 4 rfl) HN.out HV.out).mono ?_
      rintro e w5 ⟨A5, c5, rfl, s5, _, hb5⟩
      have H := Lib.hid (H.out.add hb5 s5)
      clear s5 hb5
      go_wp2_with fail
      refine (forget_ok c5 (H.out.get 0 rfl) (lenN VN.out) VN.out f1 (by omega)).mono ?_
      rintro e w6 ⟨A6, c6, rfl, s6, _, hb6⟩
      have H := Lib.hid (H.out.add hb6 s6)
      clear s6 hb6
      -- held: 0 forget(normal) 1 normal 2 ba 3 b 4 ab 5 a 6 w
      have LA := Lib.hid (lenN (validB_dropN VA.out f1 (by omega)))
      have LC := Lib.hid (lenN (validB_dropN VN.out f1 (by omega : f ≤ k)))
      go_wp2_with fail
      refine (eq_ok c2 c4 (H.out.get 4 rfl) (H.out.get 2 rfl) LA.out (normal_both HE.out fg)).mono ?_
      rintro e w7 ⟨rfl, hb7⟩
      have H := Lib.hid (H.out.step hb7)
      clear hb7
      go_wp2_with fail
      refine (eq_ok c6 c3 (H.out.get 0 rfl) (H.out.get 3 rfl) LC.out (normal_drop_normal HE.out)).mono ?_
      rintro e w8 ⟨rfl, hb8⟩
      have H := Lib.hid (H.out.step hb8)
      clear hb8
      go_wp2_with fail
      go_loopw [12, 19, 20] (fun e v i wr => RestRel k w v i e wr) (fun _ _ i _ => (intOf i).toNat)
      case atStart => exact ⟨k.toNat, A, n, cap, xs, by omega, by rw [Int.toNat_of_nonneg k0], rfl, rfl, by rw [Int.toNat_of_nonneg k0]; exact HV.out, HL.out.symm, H.out.1, fun t ht => by rw [List.mem_singleton] at ht; subst ht; exact H.out.get 6 rfl⟩
      case round =>
        obtain ⟨j, A9, m9, c9, ys, hj, rfl, rfl, rfl, hvj, rfl, hh⟩ := hrel
        have HH := Lib.hid hh
        have VJ := Lib.hid hvj
        clear hh hvj
        by_cases hlt : 1 ≤ (j : Int)
        · go_wp2_with fail
          refine (forget_ok c9 (HH.out.get 0 rfl) (lenN VJ.out) VJ.out hlt (Int.le_refl _)).mono ?_
          rintro e wq ⟨Aq, cq, rfl, sq, _, hbq⟩
          have HREL : Hid (RestRel k w (.slice Aq (Ln.normal (dropL (j : Int) ys)).length cq) (.int .i64 ((j : Int) - 1)) (.int .i64 0) wq) :=
            ⟨j - 1, Aq, _, cq, Ln.normal (dropL (j : Int) ys), by omega, by rw [Int.natCast_sub (by omega)]; rfl, rfl, rfl, by rw [Int.natCast_sub (by omega)]; exact validB_dropN VJ.out hlt (Int.le_refl _), rfl, (HH.out.step hbq).1, fun t ht => by rw [List.mem_singleton] at ht; subst ht; exact sq⟩
          clear sq hbq
          go_wp2_with fail
          go_roundw
          case rel => exact HREL.out
          case measure => simp [intOf]; omega
        · have hj0 : (j : Int) = 0 := by omega
          have hz : ((Ln.normal ys).length : Int) = 0 := by have := VJ.out; rw [hj0] at this; rw [normal_of_valid0 this]; rfl
          have hzb : (((Ln.normal ys).length : Int) == 0) = true := by rw [hz]; rfl
          clear hz hj0
          go_wp2_with fail
          refine (nrm_ok c9 (HH.out.get 0 rfl) (lenN VJ.out) VJ.out).mono ?_
          rintro e wr1 ⟨Ar, cr, rfl, sr, _, hbr⟩
          have HZ := Lib.hid (HH.out.step hbr)
          clear sr hbr
          go_wp2_with fail
          refine (known_after HZ.out.1).mono ?_
          rintro e wz ⟨rfl, hz⟩
          go_wp2_with fail
          go_ret
          exact ⟨rfl, hz⟩
    · have hc3 : f < 1 ∨ (¬ f < 1 ∧ g ≤ f) ∨ (¬ f < 1 ∧ ¬ g ≤ f ∧ k < g) := by omega
      clear hc
      rcases hc3 with h1 | ⟨h1, h2⟩ | ⟨h1, h2, h3⟩
      all_goals
        go_enter Tryd.func10, Tryd.ntmps10
        go_wp2_with (go_at_call 16; refine HV0.out.mono ?_; rw [HV.out]; rintro e w' ⟨rfl, rfl⟩)
        refine (known_after (Below.refl w.heap.size w)).mono ?_
        rintro e wz ⟨rfl, hz⟩
        go_wp2_with fail
        go_ret
        exact ⟨rfl, hz⟩
  · have hv' : validB k xs = false := by simpa using hv
    have HV := Lib.hid hv'
    clear hv hv'
    go_enter Tryd.func10, Tryd.ntmps10
    go_wp2_with (go_at_call 16; refine HV0.out.mono ?_; rw [HV.out]; rintro e w' ⟨rfl, rfl⟩)
    refine (known_after (Below.refl w.heap.size w)).mono ?_
    rintro e wz ⟨rfl, hz⟩
    go_wp2_with fail
    go_ret
    exact ⟨rfl, hz⟩

end Go.Proofs.YtiiepdcojkdidaaDoor
