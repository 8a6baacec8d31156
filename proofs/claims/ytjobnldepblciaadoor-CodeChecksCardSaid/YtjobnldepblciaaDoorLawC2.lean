/-
  The walk of the law CodeChecks.
-/
import Derived.Test.YtjobnldepblciaaDoorRefX
import Derived.Test.YtjobnldepblciaaDoorLawC1
import Derived.Test.YtjobnldepblciaaDoorDoorL
import Derived.Deep.RegionHeld3
namespace Go.Proofs.YtjobnldepblciaaDoor
open Go.RowKit

theorem codePasses_wide (f : Int) (A : Option Addr) (n cap : Nat) (ls : List Lt) (w : World) (h : LS w A n ls) (hn : n ≤ 9223372036854775807) :
    Calls Tryd.prog 13 #[.agg #[.int .i64 f, .slice A n cap]] w fun e w' => e = .returned (.int .i64 (cntB isPass ls)) ∧ Below w.heap.size w w' := by
  have HC := Lib.hid (count_wide f A n cap ls 1 _ (h.below ((Below.refl _ _).alloc (Nat.le_refl _) (.cells #[.int .i64 f, .slice A n cap] 24))) hn)
  have e : cntK 1 ls = cntB isPass ls := rfl
  rw [e] at HC
  obtain ⟨x, hx⟩ : ∃ x, cntB isPass ls = x := ⟨_, rfl⟩
  rw [hx] at HC ⊢
  clear hx h e
  go_enter Tryd.func13, Tryd.ntmps13
  go_wp2_with fail
  refine HC.out.mono ?_
  rintro e w1 ⟨rfl, hb1⟩
  go_wp2_with fail
  go_ret
  exact ⟨rfl, ((Below.refl w.heap.size w).alloc (Nat.le_refl _) _).trans (hb1.mono (by simp))⟩

set_option maxHeartbeats 8000000 in
set_option maxRecDepth 100000 in
theorem codeChecks_walk (f : Int) (A : Option Addr) (n c : Nat) (ls : List Lt) (w : World) (_hf : I64 f) (hL : LS w A n ls) (hn : n ≤ maxLen) (hI : ∀ l, l ∈ ls → LtAll l) (_hz : A = none → c = 0) (_hs : n ≤ c) (hA : ∀ b off, A = some ⟨b, off, none⟩ → b < w.heap.size) (hT : ItoaAll w) :
    Calls Tryd.prog 3 #[.agg #[.int .i64 f, .slice A n c]] w fun e w' => e = .returned (.bool true) ∧ Below w.heap.size w w' := by
  unfold maxLen at hn
  have HT := Lib.hid hT
  have HX := Lib.hid (Box.made w f A n c 24)
  have HB0 : Hid (Below w.heap.size w (w.alloc (.cells #[.int .i64 f, .slice A n c] 24))) := (Below.refl _ _).alloc (Nat.le_refl _) _
  obtain ⟨ce, hce⟩ : ∃ ce, checkE f ls = ce := ⟨_, rfl⟩
  obtain ⟨p, hp⟩ : ∃ p, cntB isPass ls = p := ⟨_, rfl⟩
  obtain ⟨x, hx⟩ : ∃ x, cntK 2 ls / 2 = x := ⟨_, rfl⟩
  have H1 : Hid (∀ W, Below w.heap.size w W → Calls Tryd.prog 11 #[.agg #[.int .i64 f, .slice A n c]] W fun e w' => e = .returned (.int .i64 ce) ∧ Below W.heap.size W w') := by
    rw [← hce]
    exact fun W hW => check_calls f A n c ls W (hL.below hW) (fun b off e => Nat.lt_of_lt_of_le (hA b off e) hW.size) (fun l hl => (hI l hl).2.2.2.1)
  have H2 : Hid (∀ W, Below w.heap.size w W → Calls Tryd.prog 12 #[.agg #[.int .i64 f, .slice A n c]] W fun e w' => e = .returned (.int .i64 ce) ∧ Below W.heap.size W w') := by
    rw [← hce]
    exact fun W hW => refCheck_full f A n c ls W (hL.below hW)
  have H3 : Hid (∀ W, Below w.heap.size w W → Calls Tryd.prog 13 #[.agg #[.int .i64 f, .slice A n c]] W fun e w' => e = .returned (.int .i64 p) ∧ Below W.heap.size W w') := by
    rw [← hp]
    exact fun W hW => codePasses_wide f A n c ls W (hL.below hW) (by omega)
  have H4 : Hid (∀ W, Below w.heap.size w W → Calls Tryd.prog 14 #[.agg #[.int .i64 f, .slice A n c]] W fun e w' => e = .returned (.int .i64 p) ∧ Below W.heap.size W w') := by
    rw [← hp]
    exact fun W hW => passes_wide f A n c ls W (hL.below hW) (by omega)
  have H5 : Hid (∀ W, Below w.heap.size w W → Calls Tryd.prog 15 #[.agg #[.int .i64 f, .slice A n c]] W fun e w' => e = .returned (.int .i64 x) ∧ Below W.heap.size W w') := by
    rw [← hx]
    exact fun W hW => crossings_wide f A n c ls W (hL.below hW) (by omega)
  have H6 : Hid (∀ W, Below w.heap.size w W → Calls Tryd.prog 16 #[.agg #[.int .i64 f, .slice A n c]] W fun e w' => e = .returned (.int .i64 x) ∧ Below W.heap.size W w') := by
    rw [← hx]
    exact fun W hW => refCrossings_wide f A n c ls W (hL.below hW) (by omega)
  have H7 : Hid (∀ W, Below w.heap.size w W → Calls Tryd.prog 10 #[] W fun e w' => e = .returned (.bool true) ∧ Below W.heap.size W w') :=
    fun W hW => known_calls W (HT.out.below hW)
  clear hL hI hA hT hce hp hx
  by_cases hs60 : n ≤ 60 ∨ 400 < n
  · have hq : (n ≤ 60) ∨ (¬ n ≤ 60 ∧ 400 < n) := by omega
    clear hs60
    rcases hq with q1 | ⟨q1, q2⟩
    all_goals
      first
        | (have t1 : decide ((n : Int) ≤ 60) = false := by rw [decide_eq_false_iff_not]; omega
           have t2 : decide ((n : Int) ≤ 400) = false := by rw [decide_eq_false_iff_not]; omega
           have HSM := Lib.hid (fun W => small_calls f A n c false W t1))
        | (have t1 : decide ((n : Int) ≤ 60) = true := by rw [decide_eq_true_iff]; omega
           have HSM := Lib.hid (fun W => small_calls f A n c true W t1))
      go_enter Tryd.func3, Tryd.ntmps3
      go_wp2_with fail
      refine (HSM.out _).mono ?_
      rintro e V ⟨rfl, hb1⟩
      have HBV : Hid (Below w.heap.size w V) := HB0.out.trans (hb1.mono HB0.out.size)
      obtain ⟨hPV, a0, a1⟩ := HX.out.below hb1
      obtain ⟨P, hP⟩ : ∃ P, P = w.heap.size := ⟨_, rfl⟩
      rw [← hP] at a0 a1 hPV ⊢
      have HS1 : Hid (CkB P f (.slice A n c) V V) := ⟨a0, a1, Below.refl _ _⟩
      clear hP hb1 HX HB0
      go_wp2_with fail
      go_region_held3 (fun w' => w'.cell? ⟨P, 0, none⟩ = some (.int .i64 f) ∧ w'.cell? ⟨P, 1, none⟩ = some (.slice A n c) ∧ Below V.heap.size V w')
        (first
          | exact CkB.of hPV HS1.out (Below.refl _ _).drew
          | exact CkB.of hPV HS1.out ((CkB.last (P := P) (f := f) (v := .slice A n c) (by assumption)).trans (hbw.mono (CkB.last (P := P) (f := f) (v := .slice A n c) (by assumption)).size)))
        (first
          | (go_at_call 11; (with_reducible refine (H1.out _ ?hbx).mono ?_); (case hbx => exact HBV.out.trans ((CkB.last (P := P) (f := f) (v := .slice A n c) (V := V) (by assumption)).mono HBV.out.size)); rintro e w2 ⟨rfl, hbw⟩)
          | (go_at_call 12; (with_reducible refine (H2.out _ ?hbx).mono ?_); (case hbx => exact HBV.out.trans ((CkB.last (P := P) (f := f) (v := .slice A n c) (V := V) (by assumption)).mono HBV.out.size)); rintro e w2 ⟨rfl, hbw⟩)
          | (go_at_call 13; (with_reducible refine (H3.out _ ?hbx).mono ?_); (case hbx => exact HBV.out.trans ((CkB.last (P := P) (f := f) (v := .slice A n c) (V := V) (by assumption)).mono HBV.out.size)); rintro e w2 ⟨rfl, hbw⟩)
          | (go_at_call 14; (with_reducible refine (H4.out _ ?hbx).mono ?_); (case hbx => exact HBV.out.trans ((CkB.last (P := P) (f := f) (v := .slice A n c) (V := V) (by assumption)).mono HBV.out.size)); rintro e w2 ⟨rfl, hbw⟩)
          | (go_at_call 15; (with_reducible refine (H5.out _ ?hbx).mono ?_); (case hbx => exact HBV.out.trans ((CkB.last (P := P) (f := f) (v := .slice A n c) (V := V) (by assumption)).mono HBV.out.size)); rintro e w2 ⟨rfl, hbw⟩)
          | (go_at_call 16; (with_reducible refine (H6.out _ ?hbx).mono ?_); (case hbx => exact HBV.out.trans ((CkB.last (P := P) (f := f) (v := .slice A n c) (V := V) (by assumption)).mono HBV.out.size)); rintro e w2 ⟨rfl, hbw⟩)
          | (go_at_call 10; (with_reducible refine (H7.out _ ?hbx).mono ?_); (case hbx => exact HBV.out.trans ((CkB.last (P := P) (f := f) (v := .slice A n c) (V := V) (by assumption)).mono HBV.out.size)); rintro e w2 ⟨rfl, hbw⟩))
      have hS : CkB P f (.slice A n c) V w2 := by assumption
      have HSS := Lib.hid hS.last
      clear hS
      go_wp2_with fail
      go_ret
      exact ⟨rfl, HBV.out.trans (HSS.out.mono HBV.out.size)⟩
  · have t1 : decide ((n : Int) ≤ 60) = false := by rw [decide_eq_false_iff_not]; omega
    have t2 : decide ((n : Int) ≤ 400) = true := by rw [decide_eq_true_iff]; omega
    have HSM := Lib.hid (fun W => small_calls f A n c false W t1)
    clear hs60
    go_enter Tryd.func3, Tryd.ntmps3
    go_wp2_with fail
    refine (HSM.out _).mono ?_
    rintro e V ⟨rfl, hb1⟩
    have HBV : Hid (Below w.heap.size w V) := HB0.out.trans (hb1.mono HB0.out.size)
    obtain ⟨hPV, a0, a1⟩ := HX.out.below hb1
    clear hb1 HX HB0
    go_wp2_with fail
    refine (H7.out _ HBV.out).mono ?_
    rintro e w2 ⟨rfl, hbw⟩
    go_wp2_with fail
    go_ret
    exact ⟨rfl, HBV.out.trans (hbw.mono HBV.out.size)⟩

end Go.Proofs.YtjobnldepblciaaDoor
