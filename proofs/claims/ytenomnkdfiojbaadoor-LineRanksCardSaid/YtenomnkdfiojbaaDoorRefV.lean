/-
  The walks of the reference's Word, Valid, pair, Reduced.
-/
import Derived.Test.YtenomnkdfiojbaaDoorEqual
namespace Go.Proofs.YtenomnkdfiojbaaDoor
open Go.RowKit

theorem errB_of_valid' {k : Int} {xs : List Int} (h : validB k xs = true) : errB k xs = 0 := by
  have : xs.length ≤ 400 := by unfold validB at h; simp only [Bool.and_eq_true, decide_eq_true_eq] at h; exact h.1.1.2
  unfold errB
  rw [if_neg (by omega), if_pos h]
theorem validB_split (k : Int) (xs : List Int) : validB k xs = (decide (0 ≤ k) && decide (k ≤ 40) && validB 40 xs && xs.all (fun g => decide (g ≤ k))) := by
  rw [Bool.eq_iff_iff]
  unfold validB
  simp only [Bool.and_eq_true, decide_eq_true_eq, List.all_eq_true]
  constructor
  · rintro ⟨⟨⟨⟨a, b⟩, c⟩, d⟩, e⟩
    exact ⟨⟨⟨a, b⟩, ⟨⟨⟨by omega, by omega⟩, c⟩, d⟩, fun x hx => by have := e x hx; omega⟩, fun x hx => (e x hx).2⟩
  · rintro ⟨⟨⟨a, b⟩, ⟨⟨_, c⟩, d⟩, e⟩, f⟩
    exact ⟨⟨⟨⟨a, b⟩, c⟩, d⟩, fun x hx => by have := e x hx; have := f x hx; omega⟩

def AllRel (p : Int → Bool) (xs : List Int) (n : Nat) (i : Value) : Prop := ∃ j : Nat, j ≤ n ∧ i = .int .i64 j ∧ (xs.take j).all p = true

set_option maxHeartbeats 1000000 in
theorem word_calls (A : Option Addr) (n cap : Nat) (xs : List Int) (w : World) (h : SL w A n xs) (hn : n ≤ maxLen) :
    Calls Tryd.prog 21 #[.slice A n cap] w fun e w' => e = .returned (.bool (validB 40 xs)) ∧ w = w' := by
  unfold maxLen at hn
  have HL := Lib.hid h.1
  by_cases n2 : n % 2 = 0
  · have hm : ((n : Int) % 2 != 0) = false := by rw [bne_eq_false_iff_eq]; omega
    by_cases n4 : n ≤ 400
    · have HN2 := Lib.hid n2
      clear n2
      go_enter Tryd.func21, Tryd.ntmps21
      go_wp2
      go_loop [3] (fun i => AllRel (fun g => decide (0 ≤ g) && decide (g ≤ 40)) xs n i) (fun i => n - (intOf i).toNat)
      case atStart => exact ⟨0, Nat.zero_le _, rfl, by simp⟩
      case round =>
        obtain ⟨j, hj, rfl, hall⟩ := hrel
        have HALL := Lib.hid hall
        clear hall
        by_cases hlt : j < n
        · obtain ⟨b, off, x, rfl, _, hx, hc⟩ := h.at_ hlt
          have HX := Lib.hid hx
          clear hx
          by_cases hp : 0 ≤ x ∧ x ≤ 40
          · obtain ⟨x0, x1⟩ := hp
            go_wp2
            go_round
            case rel => exact ⟨j + 1, by omega, by rw [Int.natCast_add]; rfl, by rw [all_take_succ HX.out, HALL.out]; simp [x0, x1]⟩
            case measure => simp [intOf]; omega
          · have HV : Hid (validB 40 xs = false) := by
              unfold Hid validB
              rw [all_of_not HX.out (by simp only [Bool.and_eq_false_iff, decide_eq_false_iff_not]; omega), Bool.and_false]
            by_cases x0 : x < 0
            · clear hp
              go_wp2
              go_ret
              exact ⟨ret_bool HV.out.symm, rfl⟩
            · have x1 : 40 < x := by omega
              clear hp
              go_wp2
              go_ret
              exact ⟨ret_bool HV.out.symm, rfl⟩
        · have HV : Hid (validB 40 xs = true) := by
            have e := HALL.out
            rw [List.take_of_length_le (by rw [HL.out]; omega)] at e
            unfold Hid validB
            rw [e, HL.out]
            simp [HN2.out]; omega
          go_wp2
          go_ret
          exact ⟨ret_bool HV.out.symm, rfl⟩
    · have HV : Hid (validB 40 xs = false) := validB_no HL.out (by omega)
      have n5 : (400 : Int) < n := by omega
      clear n2 n4
      go_enter Tryd.func21, Tryd.ntmps21
      go_wp2
      go_ret
      exact ⟨ret_bool HV.out.symm, rfl⟩
  · have hm : ((n : Int) % 2 != 0) = true := by rw [bne_iff_ne]; omega
    have HV : Hid (validB 40 xs = false) := validB_no HL.out (by omega)
    clear n2
    go_enter Tryd.func21, Tryd.ntmps21
    go_wp2
    go_ret
    exact ⟨ret_bool HV.out.symm, rfl⟩

set_option maxHeartbeats 1000000 in
theorem refValid_calls (k : Int) (A : Option Addr) (n cap : Nat) (xs : List Int) (w : World) (h : SL w A n xs) (hn : n ≤ maxLen) :
    Calls Tryd.prog 30 #[.int .i64 k, .slice A n cap] w fun e w' => e = .returned (.bool (validB k xs)) ∧ w = w' := by
  have HW := Lib.hid (word_calls A n cap xs w h hn)
  have HL := Lib.hid h.1
  have HS := Lib.hid (validB_split k xs)
  unfold maxLen at hn
  by_cases k0 : k < 0
  · have HV : Hid (validB k xs = false) := by unfold Hid; rw [HS.out]; simp; omega
    go_enter Tryd.func30, Tryd.ntmps30
    go_wp2_with fail
    go_ret
    exact ⟨ret_bool HV.out.symm, rfl⟩
  · by_cases k1 : 40 < k
    · have HV : Hid (validB k xs = false) := by unfold Hid; rw [HS.out]; simp; omega
      go_enter Tryd.func30, Tryd.ntmps30
      go_wp2_with fail
      go_ret
      exact ⟨ret_bool HV.out.symm, rfl⟩
    · have k0' : 0 ≤ k := by omega
      have k1' : k ≤ 40 := by omega
      clear k0 k1
      cases hv : validB 40 xs with
      | false =>
        have HV : Hid (validB k xs = false) := by unfold Hid; rw [HS.out, hv]; simp
        have HV4 := Lib.hid hv
        clear hv
        go_enter Tryd.func30, Tryd.ntmps30
        go_wp2_with (go_at_call 21; refine HW.out.mono ?_; rw [HV4.out]; rintro e w' ⟨rfl, rfl⟩)
        go_ret
        exact ⟨ret_bool HV.out.symm, rfl⟩
      | true =>
        have HV4 := Lib.hid hv
        have HS2 : Hid (validB k xs = xs.all (fun g => decide (g ≤ k))) := by unfold Hid; rw [HS.out, hv]; simp [k0', k1']
        clear hv
        go_enter Tryd.func30, Tryd.ntmps30
        go_wp2_with (go_at_call 21; refine HW.out.mono ?_; rw [HV4.out]; rintro e w' ⟨rfl, rfl⟩)
        go_loop [5] (fun i => AllRel (fun g => decide (g ≤ k)) xs n i) (fun i => n - (intOf i).toNat)
        case atStart => exact ⟨0, Nat.zero_le _, rfl, by simp⟩
        case round =>
          obtain ⟨j, hj, rfl, hall⟩ := hrel
          have HALL := Lib.hid hall
          clear hall
          by_cases hlt : j < n
          · obtain ⟨b, off, x, rfl, _, hx, hc⟩ := h.at_ hlt
            have HX := Lib.hid hx
            clear hx
            by_cases hp : x ≤ k
            · go_wp2_with fail
              go_round
              case rel => exact ⟨j + 1, by omega, by rw [Int.natCast_add]; rfl, by rw [all_take_succ HX.out, HALL.out]; simp [hp]⟩
              case measure => simp [intOf]; omega
            · have HF : Hid (validB k xs = false) := by unfold Hid; rw [HS2.out]; exact all_of_not HX.out (by simp; omega)
              have hp' : k < x := by omega
              clear hp
              go_wp2_with fail
              go_ret
              exact ⟨ret_bool HF.out.symm, rfl⟩
          · have HT : Hid (validB k xs = true) := by
              have e := HALL.out
              rw [List.take_of_length_le (by rw [HL.out]; omega)] at e
              unfold Hid; rw [HS2.out]; exact e
            go_wp2_with fail
            go_ret
            exact ⟨ret_bool HT.out.symm, rfl⟩

/-- What pair answers: the first index of a letter that is equal to the next one, turned round. -/
def PairIs (xs : List Int) (z : Int) : Prop :=
  (z = -1 ∧ ∀ i, i < xs.length → ¬ xs.getD i 0 = xs.getD ((i + 1) % xs.length) 0) ∨
  ∃ i : Nat, z = i ∧ i < xs.length ∧ xs.getD i 0 = xs.getD ((i + 1) % xs.length) 0 ∧ ∀ j, j < i → ¬ xs.getD j 0 = xs.getD ((j + 1) % xs.length) 0
def PairPost (xs : List Int) (w : World) (e : Ending) (w' : World) : Prop := ∃ z, e = .returned (.int .i64 z) ∧ PairIs xs z ∧ Below w.heap.size w w'

def PairRel (xs : List Int) (n : Nat) (w : World) (i : Value) (wr : World) : Prop :=
  ∃ j q : Nat, j ≤ n ∧ i = .int .i64 j ∧ (∀ i, i < j → ¬ xs.getD i 0 = xs.getD ((i + 1) % xs.length) 0) ∧ wr = w.drewN q

set_option maxHeartbeats 1000000 in
theorem pair_calls (A : Option Addr) (n cap : Nat) (xs : List Int) (w : World) (h : SL w A n xs) (hn : n ≤ 1000) :
    Calls Tryd.prog 59 #[.slice A n cap] w (PairPost xs w) := by
  have HL := Lib.hid h.1
  go_enter Tryd.func59, Tryd.ntmps59
  go_wp2_with fail
  go_loopw [3] (fun i wr => PairRel xs n w i wr) (fun i _ => n - (intOf i).toNat)
  case atStart => exact ⟨0, 0, Nat.zero_le _, rfl, fun i hi => by omega, rfl⟩
  case round =>
    obtain ⟨j, q, hj, rfl, hall, rfl⟩ := hrel
    have HALL := Lib.hid hall
    clear hall
    by_cases hlt : j < n
    · obtain ⟨b, off, x, rfl, hbb, hx, hc⟩ := h.at_ hlt
      have hmlt : (j + 1) % n < n := Nat.mod_lt _ (by omega)
      obtain ⟨b', off', y, hA, _, hy, hd⟩ := h.at_ hmlt
      obtain ⟨rfl, rfl⟩ : b = b' ∧ off = off' := by injection hA with hA; injection hA with e1 e2; exact ⟨e1, e2⟩
      have hgx : xs.getD j 0 = x := by rw [List.getD_eq_getElem?_getD, hx]; rfl
      have hgy : xs.getD ((j + 1) % xs.length) 0 = y := by rw [HL.out, List.getD_eq_getElem?_getD, hy]; rfl
      have HX := Lib.hid hgx
      have HY := Lib.hid hgy
      have hm : ((j : Int) + 1) % (n : Int) = ((j + 1) % n : Nat) := by rw [← Int.natCast_one, ← Int.natCast_add, ← Int.natCast_emod]
      have hji : (j : Int) < n := by omega
      clear hx hy hgx hgy hA
      generalize (j + 1) % n = m at hm hmlt hd
      have hmi : (m : Int) < n := by omega
      by_cases hp : x = y
      · have hp' : (x == y) = true := by rw [beq_iff_eq]; exact hp
        have HP := Lib.hid hp
        clear hp
        go_wp2_with fail
        go_quiet (fail)
        go_wp2_with fail
        go_ret
        exact ⟨_, rfl, .inr ⟨j, rfl, by rw [HL.out]; exact hlt, by rw [HX.out, HY.out]; exact HP.out, HALL.out⟩, below_drewN (below_drewN (Below.refl _ _) _) _⟩
      · have hp' : (x == y) = false := by rw [beq_eq_false_iff_ne]; exact hp
        have HP := Lib.hid hp
        clear hp
        go_wp2_with fail
        go_quiet (fail)
        go_wp2_with fail
        go_roundw
        case rel => exact ⟨j + 1, _, by omega, by rw [Int.natCast_add]; rfl, fun i hi => by
            by_cases e : i = j
            · subst e; rw [HX.out, HY.out]; exact HP.out
            · exact HALL.out i (by omega), rfl⟩
        case measure => simp [intOf]; omega
    · go_wp2_with fail
      go_ret
      exact ⟨_, rfl, .inl ⟨rfl, fun i hi => HALL.out i (by rw [HL.out] at hi; omega)⟩, below_drewN (Below.refl _ _) _⟩

theorem cycB_true {xs : List Int} : cycB xs = true ↔ ∀ i, i < xs.length → ¬ xs.getD i 0 = xs.getD ((i + 1) % xs.length) 0 := by
  unfold cycB
  simp only [List.all_eq_true, List.mem_range, Bool.not_eq_true', beq_eq_false_iff_ne, ne_eq]
theorem PairIs.neg {xs : List Int} {z : Int} (h : PairIs xs z) : decide (z < 0) = cycB xs := by
  rcases h with ⟨rfl, h⟩ | ⟨i, rfl, hi, he, _⟩
  · rw [cycB_true.2 h]; rfl
  · have : cycB xs = false := by
      cases e : cycB xs with
      | false => rfl
      | true => exact absurd he (cycB_true.1 e i hi)
    rw [this, decide_eq_false_iff_not]; omega

set_option maxHeartbeats 1000000 in
theorem refReduced_calls (A : Option Addr) (n cap : Nat) (xs : List Int) (w : World) (h : SL w A n xs) (hn : n ≤ maxLen) :
    Calls Tryd.prog 39 #[.slice A n cap] w fun e w' => e = .returned (.bool (reducedB xs)) ∧ Below w.heap.size w w' := by
  have HL := Lib.hid h.1
  have HW := Lib.hid (word_calls A n cap xs w h hn)
  cases hv : validB 40 xs with
  | false =>
    have HV := Lib.hid hv
    clear hv
    go_enter Tryd.func39, Tryd.ntmps39
    go_wp2_with (go_at_call 21; refine HW.out.mono ?_; rw [HV.out]; rintro e w' ⟨rfl, rfl⟩)
    go_ret
    exact ⟨ret_bool (by unfold reducedB; rw [HV.out]; rfl), Below.refl _ _⟩
  | true =>
    have hlen : n ≤ 400 := by unfold validB at hv; simp only [Bool.and_eq_true, decide_eq_true_eq] at hv; have := hv.1.1.2; rw [HL.out] at this; exact this
    have HV := Lib.hid hv
    have HP := Lib.hid (pair_calls A n cap xs w h (by omega))
    clear hv
    go_enter Tryd.func39, Tryd.ntmps39
    go_wp2_with (first
      | (go_at_call 21; refine HW.out.mono ?_; rw [HV.out]; rintro e w' ⟨rfl, rfl⟩)
      | (go_at_call 59; refine HP.out.mono ?_; rintro e w1 ⟨z, rfl, hz, hb⟩; have HZ := Lib.hid hz.neg; clear hz))
    all_goals go_ret
    all_goals exact ⟨ret_bool (by unfold reducedB; rw [HV.out, ← HZ.out]; simp; try omega), hb⟩

end Go.Proofs.YtenomnkdfiojbaaDoor
