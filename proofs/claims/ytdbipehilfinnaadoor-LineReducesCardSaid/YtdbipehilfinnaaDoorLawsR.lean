/-
  The walk of the law LineReduces.
-/
import Derived.Test.YtdbipehilfinnaaDoorLawsE
import Derived.Test.YtdbipehilfinnaaDoorLawsN
namespace Go.Proofs.YtdbipehilfinnaaDoor
open Go.RowKit

set_option maxHeartbeats 16000000 in
set_option maxRecDepth 100000 in
theorem lineReduces_walk (A : Option Addr) (n cap : Nat) (xs : List Int) (at_ g : Int) (w : World) (h : SL w A n xs) (hn : n ≤ maxLen) (_hi : ∀ y, y ∈ xs → I64 y) (hs : (A = none → cap = 0) ∧ n ≤ cap) (_h1 : I64 at_) (_h2 : I64 g) (_t : True) :
    Calls Tryd.prog 6 #[.slice A n cap, .int .i64 at_, .int .i64 g] w fun e w' => e = .returned (.bool true) ∧ Below w.heap.size w w' := by
  have HL := Lib.hid h.1
  have HN := Lib.hid hn
  have HW := Lib.hid (word_calls A n cap xs w h hn)
  by_cases hv : validB 40 xs = true
  · have hvi := validB_iff.1 hv
    obtain ⟨_, _, hl4, he, _⟩ := hvi
    have HV := Lib.hid hv
    have H := Lib.hid (Held.start h)
    rw [h.1] at he hl4
    have HE := Lib.hid he
    have HCAP := Lib.hid hs
    have HXV := Lib.hid (validB_normal hv)
    have HXR := Lib.hid (reducedB_normal hv)
    have HXN := Lib.hid (Ln.normal_normal xs (validB_iff.1 hv).2.2.2.1)
    clear hv h he hs
    by_cases hq : n ≤ 398 ∧ 0 ≤ at_ ∧ at_ ≤ (n : Int) + 1 ∧ 0 ≤ g ∧ g ≤ 40
    · obtain ⟨n3, a0, a1, g0, g1⟩ := hq
      by_cases hat : at_ ≤ (n : Int)
      · obtain ⟨m, rfl⟩ := Int.eq_ofNat_of_zero_le a0
        have hmn : m ≤ n := by omega
        have hmc : (m : Int) ≤ cap := by have := HCAP.out.2; omega
        by_cases h0 : n = 0
        · obtain rfl : m = 0 := by omega
          subst h0
          obtain rfl : xs = [] := List.eq_nil_of_length_eq_zero HL.out
          cases A with
          | none =>
            obtain rfl : cap = 0 := HCAP.out.1 rfl
            exact lineReduces_empty_none g w g0 g1
          | some ad => exact lineReduces_empty_some ad cap g w g0 g1
        · obtain ⟨b, off, _, rfl, _, _, _⟩ := (H.out.get 0 rfl).at_ (k := 0) (by omega)
          have HX1 := Lib.hid (fun (W : World) (hb : Below w.heap.size w W) => ((H.out.get 0 rfl).below hb).take_ hmn)
          have HX2 := Lib.hid (fun (W : World) (hb : Below w.heap.size w W) => ((H.out.get 0 rfl).below hb).drop_ hmn HCAP.out.2)
          have hx1 : SL w.drew (some ⟨b, off, none⟩) m (xs.take m) := ((H.out.get 0 rfl).take_ hmn).drew
          have hx2 : SL w (some ⟨b, off + m, none⟩) (n - m) (xs.drop m) := (H.out.get 0 rfl).offc hmn
          have hg1 : SL w.drew (some ⟨b, off, none⟩) n xs := (H.out.get 0 rfl).drew
          have hnil : OwnI w.drew w.heap.size (.slice none 0 0) [] := World.ownsRow_nil _ _ _ _
          have hnil2 : ∀ o, OwnI (w.drew.alloc o) w.heap.size (.slice none 0 0) [] := fun _ => World.ownsRow_nil _ _ _ _
          have hB0 : ∀ o, Below w.heap.size w (w.drew.alloc o) := fun o => ((Below.refl w.heap.size w).drew).alloc (Nat.le_refl _) o
          have hb1 : ([] : List Int).length + m ≤ 1000000 := by simp; omega
          have hb2 : ([] ++ xs.take m).length + 2 ≤ 1000000 := by rw [List.nil_append, List.length_take]; omega
          have hb3 : (([] ++ xs.take m) ++ [g, g]).length + (n - m) ≤ 1000000 := by rw [List.nil_append, List.length_append, List.length_take]; simp; omega
          have H1 := Lib.hid hx1
          have H2 := Lib.hid hx2
          have HN0 := Lib.hid hnil
          have HN1 := Lib.hid hnil2
          have HB0 := Lib.hid hB0
          have HB1 := Lib.hid hb1
          have HB2 := Lib.hid hb2
          have HB3 := Lib.hid hb3
          clear hx1 hx2 hg1 hnil hnil2 hB0 hb1 hb2 hb3 HX1 HX2
          have hmv := validB_insert m HV.out (by rw [HL.out]; exact n3) g0 g1
          have hmn2 := Ln.normal_pair (xs.take m) (xs.drop m) g
          rw [List.take_append_drop] at hmn2
          obtain ⟨ms, hms⟩ : ∃ ms, xs.take m ++ g :: g :: xs.drop m = ms := ⟨_, rfl⟩
          have HMS : Hid ((([] ++ xs.take m) ++ [g, g]) ++ xs.drop m = ms) := by unfold Hid; rw [← hms]; simp
          rw [hms] at hmv hmn2
          have HMV := Lib.hid hmv
          have HMN := Lib.hid hmn2
          clear hmv hmn2 hms
          by_cases hcm : cap = m
          · obtain rfl : m = n := by have := HCAP.out.2; omega
            subst hcm
            have hx3 : SL w (some ⟨b, off, none⟩) 0 (xs.drop cap) := ⟨by rw [List.length_drop, HL.out]; omega, fun h => absurd h (by omega)⟩
            have hb4 : (([] ++ xs.take cap) ++ [g, g]).length + 0 ≤ 1000000 := by have := HB3.out; omega
            have H3 := Lib.hid hx3
            have HB4 := Lib.hid hb4
            clear hx3 hb4
            go_enter Tryd.func6, Tryd.ntmps6
            go_wp2_with (go_at_call 25; refine HW.out.mono ?_; rw [HV.out]; rintro e w' ⟨rfl, rfl⟩)
            go_cut [7] (fun v wx => OwnI wx w.heap.size v ms ∧ Below w.heap.size w wx)
            case first =>
              go_region_law (first
              | ((refine step_append_ints rfl (.tmp 65) (.tmp 68) rfl w.heap.size (.slice none 0 0) [] (by kernel_rfl) HN0.out ⟨b, off, none⟩ cap cap (xs.take cap) (by kernel_rfl) H1.out HB1.out (Nat.le_refl _) ?_); intro v1 w1 hown1 hg1; have hB1 : Below w.heap.size w w1 := ((Below.refl w.heap.size w).drew).grown hg1 (Nat.le_refl _) (fun k hk => by cases hk); have K1 := Lib.hid (And.intro hown1 hB1); clear hown1 hg1 hB1)
              | ((refine step_append_ints rfl (.tmp 69) (.tmp 72) rfl w.heap.size v1 ([] ++ xs.take cap) (by kernel_rfl) (K1.out.1.below ((Below.refl _ w1).alloc (Nat.le_refl _) _)) ⟨w1.heap.size, 0, none⟩ 2 2 [g, g] (by kernel_rfl) (sl_two w1 g g) HB2.out (Nat.le_trans K1.out.2.size (by simp)) ?_); intro v2 w2 hown2 hg2; have hB2 : Below w.heap.size w w2 := (K1.out.2.alloc K1.out.2.size _).grown hg2 (Nat.le_trans K1.out.2.size (by simp)) (fun k hk => (K1.out.1.lt k hk).1); have K2 := Lib.hid (And.intro hown2 hB2); clear hown2 hg2 hB2)
              | ((refine step_append_ints rfl (.tmp 65) (.tmp 68) rfl w.heap.size (.slice none 0 0) [] (by kernel_rfl) (HN1.out _) ⟨b, off, none⟩ cap cap (xs.take cap) (by kernel_rfl) (H1.out.alloc _) HB1.out (by simp) ?_); intro v1 w1 hown1 hg1; have hGG := (sl_two w.drew g g).below ((Below.refl _ _).grown hg1 (Nat.le_refl _) (fun k hk => by cases hk)); have hB1 : Below w.heap.size w w1 := (HB0.out _).grown hg1 (by simp) (fun k hk => by cases hk); have J1 := Lib.hid (And.intro hown1 (And.intro hB1 hGG)); clear hown1 hg1 hB1 hGG)
              | ((refine step_append_ints rfl (.tmp 69) (.tmp 72) rfl w.heap.size v1 ([] ++ xs.take cap) (by kernel_rfl) J1.out.1 ⟨w.heap.size, 0, none⟩ 2 2 [g, g] (by kernel_rfl) J1.out.2.2 HB2.out J1.out.2.1.size ?_); intro v2 w2 hown2 hg2; have hB2 : Below w.heap.size w w2 := J1.out.2.1.grown hg2 J1.out.2.1.size (fun k hk => (J1.out.1.lt k hk).1); have K2 := Lib.hid (And.intro hown2 hB2); clear hown2 hg2 hB2)
              | ((refine step_append_ints rfl (.tmp 73) (.tmp 76) rfl w.heap.size v2 (([] ++ xs.take cap) ++ [g, g]) (by kernel_rfl) K2.out.1 ⟨b, off, none⟩ 0 0 (xs.drop cap) (by kernel_rfl) (H3.out.below K2.out.2) HB4.out K2.out.2.size ?_); intro v3 w3 hown3 hg3; have hB3 : Below w.heap.size w w3 := K2.out.2.grown hg3 K2.out.2.size (fun k hk => (K2.out.1.lt k hk).1); have K3 := Lib.hid (And.intro hown3 hB3); clear hown3 hg3 hB3))
              all_goals
                go_wp2_with fail
                go_meet
                case rel => exact ⟨by rw [← HMS.out]; exact K3.out.1, K3.out.2⟩
            case rest =>
              obtain ⟨hownc, hbc⟩ := hcut
              obtain ⟨Am, cm, rfl, _, _⟩ := hownc.form
              have H := Lib.hid (H.out.add hbc hownc.sl)
              clear hownc hbc
              go_wp2_with fail
              refine (lineNormal_ok cap (H.out.get 1 rfl) HN.out HV.out).mono ?_
              rintro e w1 ⟨A1, c1, rfl, s1, _, hb1⟩
              have H := Lib.hid (H.out.add hb1 s1)
              clear s1 hb1
              go_wp2_with fail
              refine (lineNormal_ok cm (H.out.get 1 rfl) (lenV HMV.out) HMV.out).mono ?_
              rintro e w2 ⟨A2, c2, rfl, s2, _, hb2⟩
              have H := Lib.hid (H.out.add hb2 s2)
              clear s2 hb2
              go_wp2_with fail
              refine (lineNormal_ok c1 (H.out.get 1 rfl) (lenV HXV.out) HXV.out).mono ?_
              rintro e w3 ⟨A3, c3, rfl, s3, _, hb3⟩
              have H := Lib.hid (H.out.add hb3 s3)
              clear s3 hb3
              go_wp2_with fail
              refine (same_yes cap cm (H.out.get 4 rfl) (H.out.get 3 rfl) HN.out (lenV HMV.out) HV.out HMV.out HMN.out).mono ?_
              rintro e w4 ⟨rfl, hb4⟩
              have H := Lib.hid (H.out.step hb4)
              clear hb4
              have HRD := Lib.hid (reduced_calls A1 _ c1 _ w4 (H.out.get 2 rfl) (lenV HXV.out))
              go_wp2_with (go_at_call 17; refine HRD.out.mono ?_; rw [HXR.out]; rintro e w' ⟨rfl, rfl⟩)
              refine (eq_ok c1 c2 (H.out.get 2 rfl) (H.out.get 1 rfl) (lenV HXV.out) HMN.out.symm).mono ?_
              rintro e w5 ⟨rfl, hb5⟩
              have H := Lib.hid (H.out.step hb5)
              clear hb5
              go_wp2_with fail
              refine (eq_ok c1 c3 (H.out.get 2 rfl) (H.out.get 0 rfl) (lenV HXV.out) HXN.out.symm).mono ?_
              rintro e w6 ⟨rfl, hb6⟩
              have H := Lib.hid (H.out.step hb6)
              clear hb6
              go_wp2_with fail
              refine (known_after H.out.1).mono ?_
              rintro e wz ⟨rfl, hz⟩
              go_wp2_with fail
              go_ret
              exact ⟨rfl, hz⟩
          · go_enter Tryd.func6, Tryd.ntmps6
            go_wp2_with (go_at_call 25; refine HW.out.mono ?_; rw [HV.out]; rintro e w' ⟨rfl, rfl⟩)
            go_cut [7] (fun v wx => OwnI wx w.heap.size v ms ∧ Below w.heap.size w wx)
            case first =>
              go_region_law (first
              | ((refine step_append_ints rfl (.tmp 65) (.tmp 68) rfl w.heap.size (.slice none 0 0) [] (by kernel_rfl) HN0.out ⟨b, off, none⟩ m cap (xs.take m) (by kernel_rfl) H1.out HB1.out (Nat.le_refl _) ?_); intro v1 w1 hown1 hg1; have hB1 : Below w.heap.size w w1 := ((Below.refl w.heap.size w).drew).grown hg1 (Nat.le_refl _) (fun k hk => by cases hk); have K1 := Lib.hid (And.intro hown1 hB1); clear hown1 hg1 hB1)
              | ((refine step_append_ints rfl (.tmp 69) (.tmp 72) rfl w.heap.size v1 ([] ++ xs.take m) (by kernel_rfl) (K1.out.1.below ((Below.refl _ w1).alloc (Nat.le_refl _) _)) ⟨w1.heap.size, 0, none⟩ 2 2 [g, g] (by kernel_rfl) (sl_two w1 g g) HB2.out (Nat.le_trans K1.out.2.size (by simp)) ?_); intro v2 w2 hown2 hg2; have hB2 : Below w.heap.size w w2 := (K1.out.2.alloc K1.out.2.size _).grown hg2 (Nat.le_trans K1.out.2.size (by simp)) (fun k hk => (K1.out.1.lt k hk).1); have K2 := Lib.hid (And.intro hown2 hB2); clear hown2 hg2 hB2)
              | ((refine step_append_ints rfl (.tmp 65) (.tmp 68) rfl w.heap.size (.slice none 0 0) [] (by kernel_rfl) (HN1.out _) ⟨b, off, none⟩ m cap (xs.take m) (by kernel_rfl) (H1.out.alloc _) HB1.out (by simp) ?_); intro v1 w1 hown1 hg1; have hGG := (sl_two w.drew g g).below ((Below.refl _ _).grown hg1 (Nat.le_refl _) (fun k hk => by cases hk)); have hB1 : Below w.heap.size w w1 := (HB0.out _).grown hg1 (by simp) (fun k hk => by cases hk); have J1 := Lib.hid (And.intro hown1 (And.intro hB1 hGG)); clear hown1 hg1 hB1 hGG)
              | ((refine step_append_ints rfl (.tmp 69) (.tmp 72) rfl w.heap.size v1 ([] ++ xs.take m) (by kernel_rfl) J1.out.1 ⟨w.heap.size, 0, none⟩ 2 2 [g, g] (by kernel_rfl) J1.out.2.2 HB2.out J1.out.2.1.size ?_); intro v2 w2 hown2 hg2; have hB2 : Below w.heap.size w w2 := J1.out.2.1.grown hg2 J1.out.2.1.size (fun k hk => (J1.out.1.lt k hk).1); have K2 := Lib.hid (And.intro hown2 hB2); clear hown2 hg2 hB2)
              | ((refine step_append_ints rfl (.tmp 73) (.tmp 76) rfl w.heap.size v2 (([] ++ xs.take m) ++ [g, g]) (by kernel_rfl) K2.out.1 ⟨b, off + m, none⟩ (n - m) (cap - m) (xs.drop m) (by kernel_rfl) (H2.out.below K2.out.2) HB3.out K2.out.2.size ?_); intro v3 w3 hown3 hg3; have hB3 : Below w.heap.size w w3 := K2.out.2.grown hg3 K2.out.2.size (fun k hk => (K2.out.1.lt k hk).1); have K3 := Lib.hid (And.intro hown3 hB3); clear hown3 hg3 hB3))
              all_goals
                go_wp2_with fail
                go_meet
                case rel => exact ⟨by rw [← HMS.out]; exact K3.out.1, K3.out.2⟩
            case rest =>
              obtain ⟨hownc, hbc⟩ := hcut
              obtain ⟨Am, cm, rfl, _, _⟩ := hownc.form
              have H := Lib.hid (H.out.add hbc hownc.sl)
              clear hownc hbc
              go_wp2_with fail
              refine (lineNormal_ok cap (H.out.get 1 rfl) HN.out HV.out).mono ?_
              rintro e w1 ⟨A1, c1, rfl, s1, _, hb1⟩
              have H := Lib.hid (H.out.add hb1 s1)
              clear s1 hb1
              go_wp2_with fail
              refine (lineNormal_ok cm (H.out.get 1 rfl) (lenV HMV.out) HMV.out).mono ?_
              rintro e w2 ⟨A2, c2, rfl, s2, _, hb2⟩
              have H := Lib.hid (H.out.add hb2 s2)
              clear s2 hb2
              go_wp2_with fail
              refine (lineNormal_ok c1 (H.out.get 1 rfl) (lenV HXV.out) HXV.out).mono ?_
              rintro e w3 ⟨A3, c3, rfl, s3, _, hb3⟩
              have H := Lib.hid (H.out.add hb3 s3)
              clear s3 hb3
              go_wp2_with fail
              refine (same_yes cap cm (H.out.get 4 rfl) (H.out.get 3 rfl) HN.out (lenV HMV.out) HV.out HMV.out HMN.out).mono ?_
              rintro e w4 ⟨rfl, hb4⟩
              have H := Lib.hid (H.out.step hb4)
              clear hb4
              have HRD := Lib.hid (reduced_calls A1 _ c1 _ w4 (H.out.get 2 rfl) (lenV HXV.out))
              go_wp2_with (go_at_call 17; refine HRD.out.mono ?_; rw [HXR.out]; rintro e w' ⟨rfl, rfl⟩)
              refine (eq_ok c1 c2 (H.out.get 2 rfl) (H.out.get 1 rfl) (lenV HXV.out) HMN.out.symm).mono ?_
              rintro e w5 ⟨rfl, hb5⟩
              have H := Lib.hid (H.out.step hb5)
              clear hb5
              go_wp2_with fail
              refine (eq_ok c1 c3 (H.out.get 2 rfl) (H.out.get 0 rfl) (lenV HXV.out) HXN.out.symm).mono ?_
              rintro e w6 ⟨rfl, hb6⟩
              have H := Lib.hid (H.out.step hb6)
              clear hb6
              go_wp2_with fail
              refine (known_after H.out.1).mono ?_
              rintro e wz ⟨rfl, hz⟩
              go_wp2_with fail
              go_ret
              exact ⟨rfl, hz⟩
      · by_cases h0 : n = 0
        · have hat2 : (n : Int) < at_ := by omega
          have hnb : ((n : Int) == 0) = true := by rw [beq_iff_eq]; omega
          clear h0
          go_enter Tryd.func6, Tryd.ntmps6
          go_wp2_with (go_at_call 25; refine HW.out.mono ?_; rw [HV.out]; rintro e w' ⟨rfl, rfl⟩)
          refine (known_after (Below.refl w.heap.size w)).mono ?_
          rintro e wz ⟨rfl, hz⟩
          go_wp2_with fail
          go_ret
          exact ⟨rfl, hz⟩
        · obtain ⟨b, off, x0, rfl, hbs, hx, hc⟩ := (H.out.get 0 rfl).at_ (k := 0) (by omega)
          rw [Nat.add_zero] at hc
          have hx1 : xs.take 1 = [x0] := by
            cases xs with
            | nil => cases hx
            | cons y l => injection hx with hx; subst hx; rfl
          exact lineReduces_ends b off n cap xs at_ g x0 w (H.out.get 0 rfl) hn HCAP.out.2 HV.out n3 (by have := HE.out; omega) a0 (by omega) a1 g0 g1 hbs hc hx1
    · have h3 : 398 < n ∨ (¬ 398 < n ∧ at_ < 0) ∨ (¬ 398 < n ∧ ¬ at_ < 0 ∧ (n : Int) + 1 < at_) ∨ (¬ 398 < n ∧ ¬ at_ < 0 ∧ ¬ (n : Int) + 1 < at_ ∧ g < 0) ∨ (¬ 398 < n ∧ ¬ at_ < 0 ∧ ¬ (n : Int) + 1 < at_ ∧ ¬ g < 0 ∧ 40 < g) := by omega
      clear hq
      rcases h3 with q1 | ⟨q1, q2⟩ | ⟨q1, q2, q3⟩ | ⟨q1, q2, q3, q4⟩ | ⟨q1, q2, q3, q4, q5⟩
      all_goals
        go_enter Tryd.func6, Tryd.ntmps6
        go_wp2_with (go_at_call 25; refine HW.out.mono ?_; rw [HV.out]; rintro e w' ⟨rfl, rfl⟩)
        refine (known_after (Below.refl w.heap.size w)).mono ?_
        rintro e wz ⟨rfl, hz⟩
        go_wp2_with fail
        go_ret
        exact ⟨rfl, hz⟩
  · have hv' : validB 40 xs = false := by simpa using hv
    have HV := Lib.hid hv'
    clear hv hv'
    go_enter Tryd.func6, Tryd.ntmps6
    go_wp2_with (go_at_call 25; refine HW.out.mono ?_; rw [HV.out]; rintro e w' ⟨rfl, rfl⟩)
    refine (known_after (Below.refl w.heap.size w)).mono ?_
    rintro e wz ⟨rfl, hz⟩
    go_wp2_with fail
    go_ret
    exact ⟨rfl, hz⟩

end Go.Proofs.YtdbipehilfinnaaDoor
