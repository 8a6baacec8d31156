/-
  The walk of the law CodeCircles.
-/
import Derived.Test.YtjobnldepblciaaDoorKn3
namespace Go.Proofs.YtjobnldepblciaaDoor
open Go.RowKit

theorem small_calls (f : Int) (A : Option Addr) (n c : Nat) (b : Bool) (w : World) (hb : decide ((n : Int) ≤ 60) = b) :
    Calls Tryd.prog 9 #[.agg #[.int .i64 f, .slice A n c]] w fun e w' => e = .returned (.bool b) ∧ Below w.heap.size w w' := by
  have HB0 : Hid (Below w.heap.size w (w.alloc (.cells #[.int .i64 f, .slice A n c] 24))) := (Below.refl _ _).alloc (Nat.le_refl _) _
  have HB := Lib.hid hb
  clear hb
  go_enter Tryd.func9, Tryd.ntmps9
  go_wp2_with fail
  go_ret
  exact ⟨ret_bool2 HB.out, HB0.out⟩

/-- A code in a variable, and what has happened since. -/
def CkB (P : Nat) (f : Int) (v : Value) (V w' : World) : Prop := w'.cell? ⟨P, 0, none⟩ = some (.int .i64 f) ∧ w'.cell? ⟨P, 1, none⟩ = some v ∧ Below V.heap.size V w'
theorem CkB.of {P : Nat} {f : Int} {v : Value} {V w' : World} (hP : P < V.heap.size) (h : CkB P f v V V) (hw : Below V.heap.size V w') : CkB P f v V w' :=
  ⟨(hw.cell (p := ⟨P, 0, none⟩) hP).trans h.1, (hw.cell (p := ⟨P, 1, none⟩) hP).trans h.2.1, hw⟩
theorem CkB.last {P : Nat} {f : Int} {v : Value} {V w' : World} (h : CkB P f v V w') : Below V.heap.size V w' := h.2.2

theorem LS.nil (w : World) (A : Option Addr) : LS w A 0 [] := ⟨rfl, fun h => absurd h (by omega)⟩
theorem codeEq_yes (f : Int) (A1 A2 : Option Addr) (n m c1 c2 : Nat) (ls : List Lt) (w : World) (h1 : LS w A1 n ls) (h2 : LS w A2 m ls) (hn : n ≤ 1000000) :
    Calls Tryd.prog 30 #[.agg #[.int .i64 f, .slice A1 n c1], .agg #[.int .i64 f, .slice A2 m c2]] w fun e w' => e = .returned (.bool true) ∧ Below w.heap.size w w' := by
  refine (codeEqual_calls f f A1 A2 n m c1 c2 ls ls w h1 h2 hn).mono ?_
  rintro e w' ⟨b, rfl, hb, hw⟩
  rw [hb.2 ⟨rfl, rfl⟩]
  exact ⟨rfl, hw⟩

set_option maxHeartbeats 8000000 in
set_option maxRecDepth 100000 in
theorem codeCircles_badk (k i j : Int) (w : World) (hT : ItoaAll w) (hk : k < 0 ∨ (¬ k < 0 ∧ 40 < k)) :
    Calls Tryd.prog 8 #[.int .i64 k, .int .i64 i, .int .i64 j] w fun e w' => e = .returned (.bool true) ∧ Below w.heap.size w w' := by
  have HB : Hid (Calls Tryd.prog 40 #[.int .i64 k] w fun e w' => e = .returned (.tuple #[.agg #[.int .i64 0, .slice none 0 0], .int .i64 2]) ∧ Below w.heap.size w w') := by
    have h := bare_calls k w
    unfold bareE at h
    rw [if_neg (by omega), if_neg (by omega)] at h
    exact h
  have HC : Hid (∀ W, Calls Tryd.prog 41 #[.int .i64 k, .int .i64 i, .int .i64 j] W fun e w' => e = .returned (.tuple #[.agg #[.int .i64 0, .slice none 0 0], .int .i64 2]) ∧ Below W.heap.size W w') := by
    intro W
    refine (codeCircle_calls k i j W).mono ?_
    rintro e w' (⟨h0, h1, _⟩ | ⟨_, rfl, hb⟩)
    · omega
    · exact ⟨rfl, hb⟩
  have HT := Lib.hid hT
  clear hT
  rcases hk with h1 | ⟨h1, h2⟩
  all_goals
    go_enter Tryd.func8, Tryd.ntmps8
    go_wp2_with fail
    refine HB.out.mono ?_
    rintro e w1 ⟨rfl, hb1⟩
    have HB1 := Lib.hid hb1
    clear hb1
    go_wp2_with fail
    have HX : Hid (CBox (w1.alloc (.cells #[.int .i64 0, .slice none 0 0] 24)) w1.heap.size 0 none 0 0 []) := CBox.made (LS.nil _ _) (fun b off e => by cases e) _
    have HB2 : Hid (Below w.heap.size w (w1.alloc (.cells #[.int .i64 0, .slice none 0 0] 24))) := HB1.out.alloc HB1.out.size _
    refine (HC.out _).mono ?_
    rintro e w2 ⟨rfl, hb2⟩
    have HX2 := Lib.hid (HX.out.below hb2)
    have HB3 : Hid (Below w.heap.size w w2) := HB2.out.trans (hb2.mono HB2.out.size)
    have HY : Hid (CBox (w2.alloc (.cells #[.int .i64 0, .slice none 0 0] 24)) w2.heap.size 0 none 0 0 []) := CBox.made (LS.nil _ _) (fun b off e => by cases e) _
    have HXY := Lib.hid (HX2.out.below ((Below.refl _ _).alloc (Nat.le_refl _) (.cells #[.int .i64 0, .slice none 0 0] 24)))
    have HB4 : Hid (Below w.heap.size w (w2.alloc (.cells #[.int .i64 0, .slice none 0 0] 24))) := HB3.out.alloc HB3.out.size _
    obtain ⟨_, a0, a1, _, _⟩ := HXY.out
    clear hb2 HX HX2 HB2 HB3 HB1
    go_wp2_with fail
    refine (codeEq_yes 0 none none 0 0 0 0 [] _ (LS.nil _ _) (LS.nil _ _) (by omega)).mono ?_
    rintro e w3 ⟨rfl, hb3⟩
    clear a0 a1
    obtain ⟨_, a0, a1, _, _⟩ := HY.out.below hb3
    have HB5 : Hid (Below w.heap.size w w3) := HB4.out.trans (hb3.mono HB4.out.size)
    clear hb3 HXY HY HB4
    go_wp2_with fail
    refine (codeEq_yes 0 none none 0 0 0 0 [] _ (LS.nil _ _) (LS.nil _ _) (by omega)).mono ?_
    rintro e w4 ⟨rfl, hb4⟩
    have HB6 : Hid (Below w.heap.size w w4) := HB5.out.trans (hb4.mono HB5.out.size)
    clear hb4 a0 a1 HB5
    go_wp2_with fail
    refine (known_calls _ (HT.out.below HB6.out)).mono ?_
    rintro e w5 ⟨rfl, hb5⟩
    have HB7 : Hid (Below w.heap.size w w5) := HB6.out.trans (hb5.mono HB6.out.size)
    clear hb5 HB6
    go_wp2_with fail
    go_ret
    exact ⟨rfl, HB7.out⟩

theorem checkNone_calls (k : Int) (c : Nat) (W : World) (hk : 0 ≤ k ∧ k ≤ 40) : Calls Tryd.prog 11 #[.agg #[.int .i64 k, .slice none 0 c]] W fun e w' => e = .returned (.int .i64 0) ∧ Below W.heap.size W w' := by
  refine (check_calls k none 0 c [] W (LS.nil _ _) (fun b off e => by cases e) (fun l h => by cases h)).mono ?_
  rintro e w' ⟨rfl, hb⟩
  have h := none_ok ⟨k.toNat, by omega⟩
  rw [show (((⟨k.toNat, by omega⟩ : Fin 41).val : Nat) : Int) = k by show ((k.toNat : Nat) : Int) = k; omega] at h
  rw [h]
  exact ⟨rfl, hb⟩

set_option maxHeartbeats 16000000 in
set_option maxRecDepth 100000 in
theorem codeCircles_goodk (k i j : Int) (w : World) (hi : I64 i) (hT : ItoaAll w) (h1 : ¬ k < 0) (h2 : ¬ 40 < k) :
    Calls Tryd.prog 8 #[.int .i64 k, .int .i64 i, .int .i64 j] w fun e w' => e = .returned (.bool true) ∧ Below w.heap.size w w' := by
  have HB : Hid (Calls Tryd.prog 40 #[.int .i64 k] w fun e w' => e = .returned (.tuple #[.agg #[.int .i64 k, .slice none 0 0], .int .i64 0]) ∧ Below w.heap.size w w') := by
    have h := bare_calls k w
    unfold bareE at h
    rw [if_pos (by omega), if_pos (by omega)] at h
    exact h
  have HT := Lib.hid hT
  have HI := Lib.hid hi
  clear hT hi
  by_cases hg : 1 ≤ i ∧ i ≤ j ∧ j ≤ k
  · obtain ⟨g1, g2, g3⟩ := hg
    have n1 : ¬ i < 1 := by omega
    have n2 : ¬ j < i := by omega
    have n3 : ¬ k < j := by omega
    have HC : Hid (∀ W, Calls Tryd.prog 41 #[.int .i64 k, .int .i64 i, .int .i64 j] W fun e w' => ∃ A c, e = .returned (.tuple #[.agg #[.int .i64 k, .slice A 2 c], .int .i64 0]) ∧ (∀ b off, A = some ⟨b, off, none⟩ → b < w'.heap.size) ∧ LS w' A 2 [⟨1, i - 1, 1, 0, 0, false⟩, ⟨1, j, 1, 0, 0, false⟩] ∧ Below W.heap.size W w') := by
      intro W
      refine (codeCircle_calls k i j W).mono ?_
      rintro e w' (⟨_, _, _, _, _, A, c, rfl, hl, hb⟩ | ⟨h0, _, _⟩)
      · refine ⟨A, c, rfl, fun b off e => ?_, hl, hb⟩
        obtain ⟨b', off', e', hlt, _⟩ := hl.2 (by omega)
        rw [e] at e'
        injection e' with e'
        injection e' with e1 _
        omega
      · exact absurd ⟨by omega, by omega, g1, g2, g3⟩ h0
    have HCK : Hid (checkE k [⟨1, i - 1, 1, 0, 0, false⟩, ⟨1, j, 1, 0, 0, false⟩] = 0) := by
      have h := circles_ok k.toNat (i - 1).toNat j.toNat (by omega) (by omega) (by omega)
      rw [show ((k.toNat : Nat) : Int) = k by omega, show (((i - 1).toNat : Nat) : Int) = i - 1 by omega, show ((j.toNat : Nat) : Int) = j by omega] at h
      exact h
    have hwr : IntKind.i64.wrap (i - 1) = i - 1 := by
      have := HI.out
      unfold I64 at this
      exact wrapI (by omega) (by omega)
    go_enter Tryd.func8, Tryd.ntmps8
    go_wp2_with fail
    refine HB.out.mono ?_
    rintro e w1 ⟨rfl, hb1⟩
    have HB1 := Lib.hid hb1
    clear hb1
    go_wp2_with fail
    have HX : Hid (CBox (w1.alloc (.cells #[.int .i64 k, .slice none 0 0] 24)) w1.heap.size k none 0 0 []) := CBox.made (LS.nil _ _) (fun b off e => by cases e) _
    have HB2 : Hid (Below w.heap.size w (w1.alloc (.cells #[.int .i64 k, .slice none 0 0] 24))) := HB1.out.alloc HB1.out.size _
    refine (HC.out _).mono ?_
    rintro e w2 ⟨A, c, rfl, hA, hL, hb2⟩
    have HX2 := Lib.hid (HX.out.below hb2)
    have HB3 : Hid (Below w.heap.size w w2) := HB2.out.trans (hb2.mono HB2.out.size)
    have HY : Hid (CBox (w2.alloc (.cells #[.int .i64 k, .slice A 2 c] 24)) w2.heap.size k A 2 c [⟨1, i - 1, 1, 0, 0, false⟩, ⟨1, j, 1, 0, 0, false⟩]) := CBox.made hL hA _
    have HXY := Lib.hid (HX2.out.below ((Below.refl _ _).alloc (Nat.le_refl _) (.cells #[.int .i64 k, .slice A 2 c] 24)))
    have HB4 : Hid (Below w.heap.size w (w2.alloc (.cells #[.int .i64 k, .slice A 2 c] 24))) := HB3.out.alloc HB3.out.size _
    obtain ⟨_, a0, a1, _, _⟩ := HXY.out
    clear hb2 HX HX2 HB2 HB3 HB1 hA hL
    go_wp2_with fail
    refine (codeEq_yes k none none 0 0 0 0 [] _ (LS.nil _ _) (LS.nil _ _) (by omega)).mono ?_
    rintro e w3 ⟨rfl, hb3⟩
    clear a0 a1
    obtain ⟨_, a0, a1, _, _⟩ := HXY.out.below hb3
    have HY3 := Lib.hid (HY.out.below hb3)
    have HB5 : Hid (Below w.heap.size w w3) := HB4.out.trans (hb3.mono HB4.out.size)
    clear hb3 HXY HY HB4
    go_wp2_with fail
    refine (checkNone_calls k 0 w3 ⟨by omega, by omega⟩).mono ?_
    rintro e w4 ⟨rfl, hb4⟩
    have HY4 := Lib.hid (HY3.out.below hb4)
    have HB6 : Hid (Below w.heap.size w w4) := HB5.out.trans (hb4.mono HB5.out.size)
    clear hb4 a0 a1 HB5 HY3
    go_wp2_with fail
    refine (lawPass_calls (i - 1) 1 w4).mono ?_
    rintro e w5 ⟨rfl, hb5⟩
    unfold Lt.val
    go_wp2_with fail
    refine (lawPass_calls j 1 w5).mono ?_
    rintro e w6 ⟨rfl, hb6⟩
    unfold Lt.val
    have hb56 : Below w4.heap.size w4 w6 := hb5.trans (hb6.mono hb5.size)
    have HY6 := Lib.hid (HY4.out.below hb56)
    have HB7 : Hid (Below w.heap.size w w6) := HB6.out.trans (hb56.mono HB6.out.size)
    have hls := ls_two w6 ⟨1, i - 1, 1, 0, 0, false⟩ ⟨1, j, 1, 0, 0, false⟩ 58
    obtain ⟨V, hV⟩ : ∃ V, V = w6.alloc (.cells #[.int .i64 1, .int .i64 (i - 1), .int .i64 1, .int .i64 0, .int .i64 0, .bool false, .int .i64 1, .int .i64 j, .int .i64 1, .int .i64 0, .int .i64 0, .bool false] 58) := ⟨_, rfl⟩
    have hvb : Below w6.heap.size w6 V := by rw [hV]; exact (Below.refl _ _).alloc (Nat.le_refl _) _
    have hvs : V.heap.size = w6.heap.size + 1 := by rw [hV, World.size_alloc]
    have hls' : LS V (some ⟨w6.heap.size, 0, none⟩) 2 [⟨1, i - 1, 1, 0, 0, false⟩, ⟨1, j, 1, 0, 0, false⟩] := by rw [hV]; exact hls
    have hz := CBox.made (f := k) (c := 2) hls' (fun b off e => by injection e with e; injection e with e _; omega) 24
    have HY7 := Lib.hid ((HY6.out.below hvb).below ((Below.refl _ _).alloc (Nat.le_refl _) (.cells #[.int .i64 k, .slice (some ⟨w6.heap.size, 0, none⟩) 2 2] 24)))
    have HB8 : Hid (Below w.heap.size w (V.alloc (.cells #[.int .i64 k, .slice (some ⟨w6.heap.size, 0, none⟩) 2 2] 24))) := (HB7.out.trans (hvb.mono HB7.out.size)).alloc (by have := HB7.out.size; omega) _
    rw [hvs] at hz
    have HZ := Lib.hid hz
    have HV := Lib.hid hV
    obtain ⟨_, a0, a1, _, _⟩ := HY7.out
    obtain ⟨_, b0, b1, _, _⟩ := HZ.out
    rw [hV] at a0 a1 b0 b1
    clear hb5 hb6 hb56 hls hls' hvb hvs hz HY4 HB6 HY6 hV
    go_wp2_with fail
    rw [← HV.out]
    refine (codeEq_yes k A (some ⟨w6.heap.size, 0, none⟩) 2 2 c 2 _ _ HY7.out.2.2.2.1 HZ.out.2.2.2.1 (by omega)).mono ?_
    rintro e w7 ⟨rfl, hb7⟩
    clear a0 a1 b0 b1
    have HY8 := Lib.hid (HY7.out.below hb7)
    have HB9 : Hid (Below w.heap.size w w7) := HB8.out.trans (hb7.mono HB8.out.size)
    obtain ⟨_, a0, a1, _, _⟩ := HY8.out
    clear hb7 HZ HY7 HB8 HV HB7
    go_wp2_with fail
    refine (check_calls k A 2 c _ w7 HY8.out.2.2.2.1 HY8.out.2.2.2.2 (fun l hl => by
      simp only [List.mem_cons, List.not_mem_nil, or_false] at hl
      rcases hl with rfl | rfl <;> exact (⟨by decide, by decide⟩ : I64 0))).mono ?_
    rintro e w8 ⟨rfl, hb8⟩
    rw [HCK.out]
    have HB10 : Hid (Below w.heap.size w w8) := HB9.out.trans (hb8.mono HB9.out.size)
    clear hb8 HB9 HY8 a0 a1
    go_wp2_with fail
    refine (known_calls _ (HT.out.below HB10.out)).mono ?_
    rintro e w9 ⟨rfl, hb9⟩
    have HB11 : Hid (Below w.heap.size w w9) := HB10.out.trans (hb9.mono HB10.out.size)
    clear hb9 HB10
    go_wp2_with fail
    go_ret
    exact ⟨rfl, HB11.out⟩
  · have HC : Hid (∀ W, Calls Tryd.prog 41 #[.int .i64 k, .int .i64 i, .int .i64 j] W fun e w' => e = .returned (.tuple #[.agg #[.int .i64 0, .slice none 0 0], .int .i64 2]) ∧ Below W.heap.size W w') := by
      intro W
      refine (codeCircle_calls k i j W).mono ?_
      rintro e w' (⟨_, _, q1, q2, q3, _⟩ | ⟨_, rfl, hb⟩)
      · exact absurd ⟨q1, q2, q3⟩ hg
      · exact ⟨rfl, hb⟩
    have hcs : i < 1 ∨ (¬ i < 1 ∧ j < i) ∨ (¬ i < 1 ∧ ¬ j < i ∧ k < j) := by omega
    clear hg
    rcases hcs with n1 | ⟨n1, n2⟩ | ⟨n1, n2, n3⟩
    all_goals
      go_enter Tryd.func8, Tryd.ntmps8
      go_wp2_with fail
      refine HB.out.mono ?_
      rintro e w1 ⟨rfl, hb1⟩
      have HB1 := Lib.hid hb1
      clear hb1
      go_wp2_with fail
      have HX : Hid (CBox (w1.alloc (.cells #[.int .i64 k, .slice none 0 0] 24)) w1.heap.size k none 0 0 []) := CBox.made (LS.nil _ _) (fun b off e => by cases e) _
      have HB2 : Hid (Below w.heap.size w (w1.alloc (.cells #[.int .i64 k, .slice none 0 0] 24))) := HB1.out.alloc HB1.out.size _
      refine (HC.out _).mono ?_
      rintro e w2 ⟨rfl, hb2⟩
      have HX2 := Lib.hid (HX.out.below hb2)
      have HB3 : Hid (Below w.heap.size w w2) := HB2.out.trans (hb2.mono HB2.out.size)
      have HY : Hid (CBox (w2.alloc (.cells #[.int .i64 0, .slice none 0 0] 24)) w2.heap.size 0 none 0 0 []) := CBox.made (LS.nil _ _) (fun b off e => by cases e) _
      have HXY := Lib.hid (HX2.out.below ((Below.refl _ _).alloc (Nat.le_refl _) (.cells #[.int .i64 0, .slice none 0 0] 24)))
      have HB4 : Hid (Below w.heap.size w (w2.alloc (.cells #[.int .i64 0, .slice none 0 0] 24))) := HB3.out.alloc HB3.out.size _
      obtain ⟨_, a0, a1, _, _⟩ := HXY.out
      clear hb2 HX HX2 HB2 HB3 HB1
      go_wp2_with fail
      refine (codeEq_yes k none none 0 0 0 0 [] _ (LS.nil _ _) (LS.nil _ _) (by omega)).mono ?_
      rintro e w3 ⟨rfl, hb3⟩
      clear a0 a1
      obtain ⟨_, a0, a1, _, _⟩ := HXY.out.below hb3
      have HY3 := Lib.hid (HY.out.below hb3)
      have HB5 : Hid (Below w.heap.size w w3) := HB4.out.trans (hb3.mono HB4.out.size)
      clear hb3 HXY HY HB4
      go_wp2_with fail
      refine (checkNone_calls k 0 w3 ⟨by omega, by omega⟩).mono ?_
      rintro e w4 ⟨rfl, hb4⟩
      clear a0 a1
      obtain ⟨_, a0, a1, _, _⟩ := HY3.out.below hb4
      have HB6 : Hid (Below w.heap.size w w4) := HB5.out.trans (hb4.mono HB5.out.size)
      clear hb4 HB5 HY3
      go_wp2_with fail
      refine (codeEq_yes 0 none none 0 0 0 0 [] _ (LS.nil _ _) (LS.nil _ _) (by omega)).mono ?_
      rintro e w5 ⟨rfl, hb5⟩
      have HB7 : Hid (Below w.heap.size w w5) := HB6.out.trans (hb5.mono HB6.out.size)
      clear hb5 a0 a1 HB6
      go_wp2_with fail
      refine (known_calls _ (HT.out.below HB7.out)).mono ?_
      rintro e w6 ⟨rfl, hb6⟩
      have HB8 : Hid (Below w.heap.size w w6) := HB7.out.trans (hb6.mono HB7.out.size)
      clear hb6 HB7
      go_wp2_with fail
      go_ret
      exact ⟨rfl, HB8.out⟩

theorem codeCircles_walk (k i j : Int) (w : World) (_hk : I64 k) (hi : I64 i) (_hj : I64 j) (hT : ItoaAll w) :
    Calls Tryd.prog 8 #[.int .i64 k, .int .i64 i, .int .i64 j] w fun e w' => e = .returned (.bool true) ∧ Below w.heap.size w w' := by
  by_cases h1 : k < 0
  · exact codeCircles_badk k i j w hT (.inl h1)
  · by_cases h2 : 40 < k
    · exact codeCircles_badk k i j w hT (.inr ⟨h1, h2⟩)
    · exact codeCircles_goodk k i j w hi hT h1 h2

end Go.Proofs.YtjobnldepblciaaDoor
