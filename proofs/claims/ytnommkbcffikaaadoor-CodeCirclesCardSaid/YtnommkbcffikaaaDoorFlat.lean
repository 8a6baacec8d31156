/-
  The walks of the map's methods short, fingered and flat.
-/
import Derived.Test.YtnommkbcffikaaaDoorWalks
import Derived.Deep.RegionHeld3
namespace Go.Proofs.YtnommkbcffikaaaDoor
open Go.RowKit

theorem OwnV.form {w : World} {B : Nat} {T : TypeId} {v : Value} {vs : List Value} (h : OwnV w B T v vs) : ∃ A c, v = .slice A vs.length c := by
  rcases h.2 with ⟨hv, h0⟩ | ⟨g, cap, cur, hv, _⟩
  · exact ⟨none, 0, by rw [hv, h0]⟩
  · exact ⟨_, _, hv⟩

def FlatS (P : Nat) (f : Int) (vL vX : Value) (w w' : World) : Prop :=
  w'.cell? ⟨P, 0, none⟩ = some (.int .i64 f) ∧ w'.cell? ⟨P, 1, none⟩ = some vL ∧ w'.cell? ⟨P, 3, none⟩ = some vX ∧ Below w.heap.size w w'
theorem FlatS.of {P : Nat} {f : Int} {vL vX : Value} {w w' : World} (hP : P < w.heap.size) (h0 : w.cell? ⟨P, 0, none⟩ = some (.int .i64 f)) (h1 : w.cell? ⟨P, 1, none⟩ = some vL) (h3 : w.cell? ⟨P, 3, none⟩ = some vX) (hb : Below w.heap.size w w') : FlatS P f vL vX w w' := by
  have e : ∀ o, w'.cell? ⟨P, o, none⟩ = w.cell? ⟨P, o, none⟩ := fun o => hb.cell (p := ⟨P, o, none⟩) hP
  exact ⟨(e _).trans h0, (e _).trans h1, (e _).trans h3, hb⟩

theorem FlatS.last {P : Nat} {f : Int} {vL vX : Value} {w w' : World} (h : FlatS P f vL vX w w') : Below w.heap.size w w' := h.2.2.2

set_option maxHeartbeats 2000000 in
set_option maxRecDepth 100000 in
theorem flat_calls {D : DM} (k : D.ok) {w : World} {P : Nat} {f : Int} {A Aa Ax As Ao : Option Addr} {c ca cx cs co : Nat} (h : DMem D w P f A Aa Ax As Ao c ca cx cs co) :
    Calls Tryd.prog 102 #[.pointer (some ⟨P, 0, none⟩)] w fun e w' => e = .returned (.bool (decide (((D.outer (2 * D.n)).all.length : Int) = (D.m : Int) + cntK 2 D.ls / 2 + 2))) ∧ Below w.heap.size w w' := by
  have hn := k.n1
  have hn0 := k.n0
  have hm := k.m1
  obtain ⟨N, hN⟩ : ∃ N, (D.outer (2 * D.n)).all.length = N := ⟨_, rfl⟩
  have HW : Hid (∀ W, Below w.heap.size w W → Calls Tryd.prog 63 #[.pointer (some ⟨P, 0, none⟩)] W fun e w' => (∃ A' c', e = .returned (.slice A' N c')) ∧ Below W.heap.size W w') := by
    intro W hb
    refine (walks_calls k (h.below hb)).mono ?_
    rintro e w' ⟨v, gd, rfl, _, hown, _, hb'⟩
    obtain ⟨A', c', rfl⟩ := hown.form
    exact ⟨⟨A', c', by rw [List.length_map, hN]⟩, hb'⟩
  have HC : Hid (∀ W, Below w.heap.size w W → Calls Tryd.prog 19 #[.agg #[.int .i64 f, .slice A D.n c]] W fun e w' => e = .returned (.int .i64 (cntK 2 D.ls / 2)) ∧ Below W.heap.size W w') :=
    fun W hb => crossings_calls f A D.n c D.ls W (h.2.1.below hb) (by omega)
  have hxb : 0 ≤ cntK 2 D.ls / 2 ∧ cntK 2 D.ls / 2 ≤ 1000 := by
    have h0 := cntK_nonneg 2 D.ls
    have h1 := cntK_take_le 2 D.ls D.n
    rw [List.take_of_length_le (by rw [k.ls]; omega)] at h1
    omega
  obtain ⟨hx0, hx1⟩ := hxb
  obtain ⟨hP, p0, p1, p2, p3, p4, p5⟩ := h.1
  have HP := Lib.hid (⟨hP, p0, p1, p3⟩ : P < w.heap.size ∧ w.cell? ⟨P, 0, none⟩ = some (.int .i64 f) ∧ w.cell? ⟨P, 1, none⟩ = some (.slice A D.n c) ∧ w.cell? ⟨P, 3, none⟩ = some (.slice Ax D.m cx))
  obtain ⟨n, hnn⟩ : ∃ n, D.n = n := ⟨_, rfl⟩
  obtain ⟨m, hmm⟩ : ∃ m, D.m = m := ⟨_, rfl⟩
  obtain ⟨xc, hxc⟩ : ∃ xc, cntK 2 D.ls / 2 = xc := ⟨_, rfl⟩
  rw [hN, hmm, hxc]
  rw [hxc] at hx0 hx1 HC
  rw [hnn] at hn hn0 HC HP
  rw [hmm] at hm HP
  have hnz : ((n : Int) == 0) = false := by rw [beq_eq_false_iff_ne]; omega
  have hs1 : IntKind.i64.wrap ((m : Int) + xc) = (m : Int) + xc := wrapI (by omega) (by omega)
  have hs2 : IntKind.i64.wrap ((m : Int) + xc + 2) = (m : Int) + xc + 2 := wrapI (by omega) (by omega)
  clear hN hmm hxc hnn p0 p1 p2 p3 p4 p5 hP h k
  obtain ⟨hP, p0, p1, p3⟩ := HP.out
  go_enter Tryd.func102, Tryd.ntmps102
  go_wp2_with fail
  go_region_held3 (fun w' => w'.cell? ⟨P, 0, none⟩ = some (.int .i64 f) ∧ w'.cell? ⟨P, 1, none⟩ = some (.slice A n c) ∧ w'.cell? ⟨P, 3, none⟩ = some (.slice Ax m cx) ∧ Below w.heap.size w w')
    (first
      | exact FlatS.of HP.out.1 HP.out.2.1 HP.out.2.2.1 HP.out.2.2.2 (Below.refl _ _).drew
      | exact FlatS.of HP.out.1 HP.out.2.1 HP.out.2.2.1 HP.out.2.2.2 ((FlatS.last (P := P) (f := f) (vL := .slice A n c) (vX := .slice Ax m cx) (by assumption)).trans (hbw.mono (FlatS.last (P := P) (f := f) (vL := .slice A n c) (vX := .slice Ax m cx) (by assumption)).size)))
    (first
      | (go_at_call 63; refine (HW.out _ ?hbx).mono ?_; (case hbx => exact FlatS.last (P := P) (f := f) (vL := .slice A n c) (vX := .slice Ax m cx) (by assumption)); rintro e w2 ⟨⟨A', c', rfl⟩, hbw⟩)
      | (go_at_call 19; refine (HC.out _ ?hbx).mono ?_; (case hbx => exact FlatS.last (P := P) (f := f) (vL := .slice A n c) (vX := .slice Ax m cx) (by assumption)); rintro e w2 ⟨rfl, hbw⟩))
  have hS : FlatS P f (.slice A n c) (.slice Ax m cx) w w2 := by assumption
  have HSS := Lib.hid hS.last
  clear hS
  go_wp2_with fail
  go_ret
  exact ⟨ret_bool2 (by rw [Bool.eq_iff_iff, beq_iff_eq, decide_eq_true_eq]), HSS.out⟩

theorem flat_zero (P : Nat) (f : Int) (A : Option Addr) (c : Nat) (vA vX vS vO : Value) (w : World) (h : Dia w P f (.slice A 0 c) vA vX vS vO) :
    Calls Tryd.prog 102 #[.pointer (some ⟨P, 0, none⟩)] w fun e w' => e = .returned (.bool true) ∧ Below w.heap.size w w' := by
  obtain ⟨hP, p0, p1, p2, p3, p4, p5⟩ := h
  go_enter Tryd.func102, Tryd.ntmps102
  go_wp2_with fail
  go_quiet (fail)
  go_wp2_with fail
  go_ret
  exact ⟨rfl, by first | exact below_drewN (Below.refl _ _) _ | exact Below.refl _ _⟩

set_option maxHeartbeats 1000000 in
theorem fingered_calls (P : Nat) (f : Int) (vL vA vX vS vO : Value) (w : World) (h : Dia w P f vL vA vX vS vO) :
    Calls Tryd.prog 97 #[.pointer (some ⟨P, 0, none⟩)] w fun e w' => e = .returned (.bool (decide (0 ≤ f ∧ f ≤ 40))) ∧ Below w.heap.size w w' := by
  obtain ⟨hP, p0, p1, p2, p3, p4, p5⟩ := h
  by_cases h1 : 0 ≤ f
  · by_cases h2 : f ≤ 40
    · have HE : Hid (decide (0 ≤ f ∧ f ≤ 40) = true) := by unfold Hid; simp [h1, h2]
      go_enter Tryd.func97, Tryd.ntmps97
      go_wp2_with fail
      try go_quiet (fail)
      try go_wp2_with fail
      go_ret
      exact ⟨ret_bool2 (by first | rfl | rw [HE.out] | (rw [HE.out]; simp)), by first | exact below_drewN (Below.refl _ _) _ | exact Below.refl _ _⟩
    · have HE : Hid (decide (0 ≤ f ∧ f ≤ 40) = false) := by unfold Hid; simp [h2]
      have d2 : decide (f ≤ 40) = false := by rw [decide_eq_false_iff_not]; exact h2
      go_enter Tryd.func97, Tryd.ntmps97
      go_wp2_with fail
      try go_quiet (fail)
      try go_wp2_with fail
      go_ret
      exact ⟨ret_bool2 (by first | rfl | rw [HE.out] | (rw [HE.out]; simp)), by first | exact below_drewN (Below.refl _ _) _ | exact Below.refl _ _⟩
  · have HE : Hid (decide (0 ≤ f ∧ f ≤ 40) = false) := by unfold Hid; simp [h1]
    have d1 : decide (0 ≤ f) = false := by rw [decide_eq_false_iff_not]; exact h1
    go_enter Tryd.func97, Tryd.ntmps97
    go_wp2_with fail
    try go_quiet (fail)
    try go_wp2_with fail
    go_ret
    exact ⟨ret_bool2 (by first | rfl | rw [HE.out] | (rw [HE.out]; simp)), by first | exact below_drewN (Below.refl _ _) _ | exact Below.refl _ _⟩

/-- A code keeps to the limits. -/
def shortB (ls : List Lt) : Bool := decide (ls.length ≤ 400) && decide (cntK 2 ls ≤ 200)
set_option maxHeartbeats 1000000 in
theorem short_calls (P : Nat) (f : Int) (A : Option Addr) (n c : Nat) (ls : List Lt) (vA vX vS vO : Value) (w : World) (h : Dia w P f (.slice A n c) vA vX vS vO) (hL : LS w A n ls) :
    Calls Tryd.prog 96 #[.pointer (some ⟨P, 0, none⟩)] w fun e w' => e = .returned (.bool (shortB ls)) ∧ Below w.heap.size w w' := by
  obtain ⟨hP, p0, p1, p2, p3, p4, p5⟩ := h
  have HL := Lib.hid hL.1
  by_cases h1 : n ≤ 400
  · have hni : (n : Int) ≤ 400 := by omega
    have HC : Hid (∀ W, Below w.heap.size w W → Calls Tryd.prog 62 #[.agg #[.int .i64 f, .slice A n c], .int .i64 2] W fun e w' => e = .returned (.int .i64 (cntK 2 ls)) ∧ Below W.heap.size W w') :=
      fun W hb => count_calls f A n c ls 2 W (hL.below hb) (by omega)
    have HE : Hid (shortB ls = decide (cntK 2 ls ≤ 200)) := by unfold Hid shortB; rw [HL.out]; simp [h1]
    obtain ⟨x, hx⟩ : ∃ x, cntK 2 ls = x := ⟨_, rfl⟩
    rw [hx] at HC HE
    clear hx hL
    have HP := Lib.hid (⟨hP, p0, p1⟩ : P < w.heap.size ∧ w.cell? ⟨P, 0, none⟩ = some (.int .i64 f) ∧ w.cell? ⟨P, 1, none⟩ = some (.slice A n c))
    go_enter Tryd.func96, Tryd.ntmps96
    go_wp2_with fail
    refine (HC.out _ (Below.refl _ _)).mono ?_
    rintro e w1 ⟨rfl, hb1⟩
    have HB1 := Lib.hid hb1
    clear hb1
    go_wp2_with fail
    go_ret
    exact ⟨ret_bool2 (by rw [HE.out]), HB1.out⟩
  · have d1 : decide ((n : Int) ≤ 400) = false := by rw [decide_eq_false_iff_not]; omega
    have HE : Hid (shortB ls = false) := by unfold Hid shortB; rw [HL.out]; simp [h1]
    go_enter Tryd.func96, Tryd.ntmps96
    go_wp2_with fail
    try go_quiet (fail)
    try go_wp2_with fail
    go_ret
    exact ⟨ret_bool2 (by first | rfl | rw [HE.out] | (rw [HE.out]; simp)), by first | exact below_drewN (Below.refl _ _) _ | exact Below.refl _ _⟩

end Go.Proofs.YtnommkbcffikaaaDoor
