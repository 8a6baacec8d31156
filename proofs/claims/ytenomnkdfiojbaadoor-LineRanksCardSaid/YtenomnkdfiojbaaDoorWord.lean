/-
  The walks of line.Valid, line.Reduced, line.check, line.along.
-/
import Derived.Test.YtenomnkdfiojbaaDoorMem
import Derived.Test.YtenomnkdfiojbaaDoorLn
namespace Go.Proofs.YtenomnkdfiojbaaDoor
open Go.RowKit

/-- What line.Valid answers. -/
def validB (k : Int) (xs : List Int) : Bool :=
  decide (0 ≤ k) && decide (k ≤ 40) && decide (xs.length ≤ 400) && decide (xs.length % 2 = 0) && xs.all (fun g => decide (0 ≤ g) && decide (g ≤ k))

theorem all_take_succ {xs : List Int} {p : Int → Bool} {i : Nat} {x : Int} (hx : xs[i]? = some x) : (xs.take (i + 1)).all p = ((xs.take i).all p && p x) := by
  rw [List.take_add_one, hx]; simp
theorem all_of_not {xs : List Int} {p : Int → Bool} {i : Nat} {x : Int} (hx : xs[i]? = some x) (hp : p x = false) : xs.all p = false := by
  have hm : x ∈ xs := List.mem_of_getElem? hx
  cases h : xs.all p with
  | false => rfl
  | true => rw [List.all_eq_true] at h; rw [h x hm] at hp; exact hp
theorem ret_bool {a b : Bool} (h : a = b) : Ending.returned (.bool a) = .returned (.bool b) := by rw [h]
theorem ret_int {k : IntKind} {a b : Int} (h : a = b) : Ending.returned (.int k a) = .returned (.int k b) := by rw [h]

theorem validB_no {k : Int} {xs : List Int} {n : Nat} (hl : xs.length = n) (h : ¬ (0 ≤ k ∧ k ≤ 40 ∧ n ≤ 400 ∧ n % 2 = 0)) : validB k xs = false := by
  subst hl
  unfold validB
  simp only [Bool.and_eq_false_iff, decide_eq_false_iff_not]
  omega

set_option maxHeartbeats 400000 in
theorem valid_calls (k : Int) (A : Option Addr) (n cap : Nat) (xs : List Int) (w : World) (h : SL w A n xs) (hn : n ≤ maxLen) :
    Calls Tryd.prog 52 #[.int .i64 k, .slice A n cap] w fun e w' => e = .returned (.bool (validB k xs)) ∧ w = w' := by
  unfold maxLen at hn
  have hl := Lib.hid h.1
  by_cases hv : 0 ≤ k ∧ k ≤ 40 ∧ n ≤ 400 ∧ n % 2 = 0
  · obtain ⟨k0, k40, n400, n2⟩ := hv
    have hm : ((n : Int) % 2 != 0) = false := by rw [bne_eq_false_iff_eq]; omega
    have HN := Lib.hid n2
    clear n2
    go_enter Tryd.func52, Tryd.ntmps52
    go_wp2
    go_loop [26] (fun i => ∃ j : Nat, j ≤ n ∧ i = .int .i64 j ∧ (xs.take j).all (fun g => decide (0 ≤ g) && decide (g ≤ k)) = true) (fun i => n - (intOf i).toNat)
    case atStart => exact ⟨0, Nat.zero_le _, rfl, by simp⟩
    case round =>
      obtain ⟨j, hj, rfl, hall⟩ := hrel
      have HALL := Lib.hid hall
      clear hall
      by_cases hlt : j < n
      · obtain ⟨b, off, x, rfl, hb, hx, hc⟩ := h.at_ hlt
        have HX := Lib.hid hx
        clear hx
        by_cases hp : 0 ≤ x ∧ x ≤ k
        · obtain ⟨x0, xk⟩ := hp
          go_wp2
          go_round
          case rel => exact ⟨j + 1, by omega, by go_num, by rw [all_take_succ HX.out, HALL.out]; simp [x0, xk]⟩
          case measure => simp [intOf]; omega
        · have hf : xs.all (fun g => decide (0 ≤ g) && decide (g ≤ k)) = false := all_of_not HX.out (by simp only [Bool.and_eq_false_iff, decide_eq_false_iff_not]; omega)
          have HV : Hid (validB k xs = false) := by unfold Hid validB; rw [hf, Bool.and_false]
          clear hf
          by_cases hx0 : x < 0
          · go_wp2
            go_ret
            exact ⟨ret_bool HV.out.symm, rfl⟩
          · have hkx : k < x := by omega
            clear hp
            go_wp2
            go_ret
            exact ⟨ret_bool HV.out.symm, rfl⟩
      · go_wp2
        go_ret
        refine ⟨ret_bool ?_, rfl⟩
        obtain rfl : j = n := by omega
        have e := HALL.out
        rw [List.take_of_length_le (by rw [hl.out]; omega)] at e
        unfold validB
        rw [e, hl.out]
        simp [HN.out]; omega
  · have HV : Hid (validB k xs = false) := validB_no hl.out hv
    by_cases n2 : n % 2 = 0
    · have hv' : ¬ (0 ≤ k ∧ k ≤ 40 ∧ n ≤ 400) := fun ⟨a, b, c⟩ => hv ⟨a, b, c, n2⟩
      have hm : ((n : Int) % 2 != 0) = false := by rw [bne_eq_false_iff_eq]; omega
      clear n2 hv
      go_enter Tryd.func52, Tryd.ntmps52
      go_wp2
      all_goals first | (exfalso; omega) | (go_ret; exact ⟨ret_bool HV.out.symm, rfl⟩)
    · have hm : ((n : Int) % 2 != 0) = true := by rw [bne_iff_ne]; omega
      clear n2 hv
      go_enter Tryd.func52, Tryd.ntmps52
      go_wp2
      all_goals (go_ret; exact ⟨ret_bool HV.out.symm, rfl⟩)

/-- The error of a list that should be a word for k fingers. -/
def errB (k : Int) (xs : List Int) : Int := if 400 < xs.length then 7 else if validB k xs then 0 else 2

set_option maxHeartbeats 400000 in
theorem check_calls (k : Int) (A : Option Addr) (n cap : Nat) (xs : List Int) (w : World) (h : SL w A n xs) (hn : n ≤ maxLen) :
    Calls Tryd.prog 44 #[.int .i64 k, .slice A n cap] w fun e w' => e = .returned (.int .i64 (errB k xs)) ∧ w = w' := by
  have hl := Lib.hid h.1
  by_cases h4 : n ≤ 400
  · cases hv : validB k xs with
    | true =>
      have HV := Lib.hid hv
      have H := Lib.hid (valid_calls k A n cap xs w h hn)
      clear hv
      go_enter Tryd.func44, Tryd.ntmps44
      go_wp2_with (go_at_call 52; refine H.out.mono ?_; rw [HV.out]; rintro e w' ⟨rfl, rfl⟩)
      go_ret
      refine ⟨ret_int ?_, rfl⟩
      unfold errB; rw [hl.out, HV.out, if_neg (by omega)]; rfl
    | false =>
      have HV := Lib.hid hv
      have H := Lib.hid (valid_calls k A n cap xs w h hn)
      clear hv
      go_enter Tryd.func44, Tryd.ntmps44
      go_wp2_with (go_at_call 52; refine H.out.mono ?_; rw [HV.out]; rintro e w' ⟨rfl, rfl⟩)
      go_ret
      refine ⟨ret_int ?_, rfl⟩
      unfold errB; rw [hl.out, HV.out, if_neg (by omega)]; rfl
  · go_enter Tryd.func44, Tryd.ntmps44
    go_wp2
    go_ret
    refine ⟨ret_int ?_, rfl⟩
    unfold errB; rw [hl.out, if_pos (by omega)]

theorem alongI_even {n : Nat} {s t : Int} (s0 : 0 ≤ s) (t0 : 0 ≤ t) (he : s % 2 = 0) : (s + t) % (n : Int) = (Ln.alongI n s.toNat t.toNat : Nat) := by
  obtain ⟨a, rfl⟩ := Int.eq_ofNat_of_zero_le s0
  obtain ⟨b, rfl⟩ := Int.eq_ofNat_of_zero_le t0
  have : a % 2 = 0 := by omega
  simp only [Ln.alongI, Int.toNat_natCast, if_pos this]
  rw [← Int.natCast_add, ← Int.natCast_emod]
theorem alongI_odd {n : Nat} {s t : Int} (s0 : 0 ≤ s) (t0 : 0 ≤ t) (tn : t ≤ n) (ho : s % 2 = 1) : (s + -t + n) % (n : Int) = (Ln.alongI n s.toNat t.toNat : Nat) := by
  obtain ⟨a, rfl⟩ := Int.eq_ofNat_of_zero_le s0
  obtain ⟨b, rfl⟩ := Int.eq_ofNat_of_zero_le t0
  have : ¬ a % 2 = 0 := by omega
  simp only [Ln.alongI, Int.toNat_natCast, if_neg this]
  have e : (a : Int) + -(b : Int) + (n : Int) = ((a + n - b : Nat) : Int) := by omega
  rw [e, ← Int.natCast_emod]
theorem alongI_lt {n s t : Nat} (hn : 0 < n) : Ln.alongI n s t < n := by
  unfold Ln.alongI
  split <;> exact Nat.mod_lt _ hn
theorem along_at {xs : List Int} {n : Nat} {s t : Nat} {x : Int} (hl : xs.length = n) (hx : xs[Ln.alongI n s t]? = some x) : Ln.along xs s t = x := by
  unfold Ln.along
  rw [hl, List.getD_eq_getElem?_getD, hx]; rfl

set_option maxHeartbeats 400000 in
theorem along_even (A : Option Addr) (n cap : Nat) (xs : List Int) (s t : Int) (w : World) (h : SL w A n xs) (hn : n ≤ 400) (s0 : 0 ≤ s) (sn : s < n) (t0 : 0 ≤ t) (tn : t ≤ n) (he : s % 2 = 0) :
    Calls Tryd.prog 67 #[.slice A n cap, .int .i64 s, .int .i64 t] w fun e w' => e = .returned (.int .i64 (Ln.along xs s.toNat t.toNat)) ∧ Below w.heap.size w w' := by
  have hm := alongI_even (n := n) s0 t0 he
  have hlt := alongI_lt (n := n) (s := s.toNat) (t := t.toNat) (by omega)
  obtain ⟨b, off, x, rfl, hb, hx, hc⟩ := h.at_ hlt
  have HA : Hid (Ln.along xs s.toNat t.toNat = x) := along_at h.1 hx
  clear hx
  generalize Ln.alongI n s.toNat t.toNat = m at hm hlt hc
  have hm2 : (s + t + n) % (n : Int) = m := by rw [Int.add_emod_right]; exact hm
  have hne : ((n : Int) == 0) = false := by rw [beq_eq_false_iff_ne]; omega
  go_enter Tryd.func67, Tryd.ntmps67
  go_wp2
  go_ret
  exact ⟨ret_int HA.out.symm, (Below.refl _ _).alloc (Nat.le_refl _) _⟩

set_option maxHeartbeats 400000 in
theorem along_odd (A : Option Addr) (n cap : Nat) (xs : List Int) (s t : Int) (w : World) (h : SL w A n xs) (hn : n ≤ 400) (s0 : 0 ≤ s) (sn : s < n) (t0 : 0 ≤ t) (tn : t ≤ n) (he : s % 2 = 1) :
    Calls Tryd.prog 67 #[.slice A n cap, .int .i64 s, .int .i64 t] w fun e w' => e = .returned (.int .i64 (Ln.along xs s.toNat t.toNat)) ∧ Below w.heap.size w w' := by
  have hm := alongI_odd (n := n) s0 t0 tn he
  have hlt := alongI_lt (n := n) (s := s.toNat) (t := t.toNat) (by omega)
  obtain ⟨b, off, x, rfl, hb, hx, hc⟩ := h.at_ hlt
  have HA : Hid (Ln.along xs s.toNat t.toNat = x) := along_at h.1 hx
  clear hx
  generalize Ln.alongI n s.toNat t.toNat = m at hm hlt hc
  have hm2 : (s + -t) % (n : Int) = m := by rw [Int.add_emod_right] at hm; exact hm
  go_enter Tryd.func67, Tryd.ntmps67
  go_wp2
  go_ret
  exact ⟨ret_int HA.out.symm, (Below.refl _ _).alloc (Nat.le_refl _) _⟩

theorem along_calls (A : Option Addr) (n cap : Nat) (xs : List Int) (s t : Int) (w : World) (h : SL w A n xs) (hn : n ≤ 400) (s0 : 0 ≤ s) (sn : s < n) (t0 : 0 ≤ t) (tn : t ≤ n) :
    Calls Tryd.prog 67 #[.slice A n cap, .int .i64 s, .int .i64 t] w fun e w' => e = .returned (.int .i64 (Ln.along xs s.toNat t.toNat)) ∧ Below w.heap.size w w' := by
  by_cases he : s % 2 = 0
  · exact along_even A n cap xs s t w h hn s0 sn t0 tn he
  · exact along_odd A n cap xs s t w h hn s0 sn t0 tn (by omega)

/-- No two neighbors are equal, turned round. -/
def cycB (xs : List Int) : Bool := (List.range xs.length).all fun i => !(xs.getD i 0 == xs.getD ((i + 1) % xs.length) 0)
def reducedB (xs : List Int) : Bool := validB 40 xs && cycB xs

theorem range_all_succ {p : Nat → Bool} {j : Nat} : (List.range (j + 1)).all p = ((List.range j).all p && p j) := by
  rw [List.range_succ]; simp

set_option maxHeartbeats 400000 in
theorem reduced_calls (A : Option Addr) (n cap : Nat) (xs : List Int) (w : World) (h : SL w A n xs) (hn : n ≤ maxLen) :
    Calls Tryd.prog 22 #[.slice A n cap] w fun e w' => e = .returned (.bool (reducedB xs)) ∧ w = w' := by
  have hl := Lib.hid h.1
  have H := Lib.hid (valid_calls 40 A n cap xs w h hn)
  cases hv : validB 40 xs with
  | false =>
    have HV := Lib.hid hv
    clear hv
    go_enter Tryd.func22, Tryd.ntmps22
    go_wp2_with (go_at_call 52; refine H.out.mono ?_; rw [HV.out]; rintro e w' ⟨rfl, rfl⟩)
    go_ret
    exact ⟨ret_bool (by unfold reducedB; rw [HV.out]; rfl), rfl⟩
  | true =>
    have HV := Lib.hid hv
    have h4 : n ≤ 400 := by
      have : xs.length ≤ 400 := by unfold validB at hv; simp at hv; omega
      rw [hl.out] at this; exact this
    clear hv
    go_enter Tryd.func22, Tryd.ntmps22
    go_wp2_with (go_at_call 52; refine H.out.mono ?_; rw [HV.out]; rintro e w' ⟨rfl, rfl⟩)
    go_loop [10] (fun i => ∃ j : Nat, j ≤ n ∧ i = .int .i64 j ∧ (List.range j).all (fun i => !(xs.getD i 0 == xs.getD ((i + 1) % xs.length) 0)) = true) (fun i => n - (intOf i).toNat)
    case atStart => exact ⟨0, Nat.zero_le _, rfl, by simp⟩
    case round =>
      obtain ⟨j, hj, rfl, hall⟩ := hrel
      have HALL := Lib.hid hall
      clear hall
      by_cases hlt : j < n
      · obtain ⟨b, off, x, rfl, hb, hx, hc⟩ := h.at_ hlt
        have hmlt : (j + 1) % n < n := Nat.mod_lt _ (by omega)
        obtain ⟨b', off', y, hA, _, hy, hd⟩ := h.at_ hmlt
        obtain ⟨rfl, rfl⟩ : b = b' ∧ off = off' := by injection hA with hA; injection hA with e1 e2; exact ⟨e1, e2⟩
        have hgx : xs.getD j 0 = x := by rw [List.getD_eq_getElem?_getD, hx]; rfl
        have hgy : xs.getD ((j + 1) % xs.length) 0 = y := by rw [hl.out, List.getD_eq_getElem?_getD, hy]; rfl
        have HX := Lib.hid hgx
        have HY := Lib.hid hgy
        have hm : ((j : Int) + 1) % (n : Int) = ((j + 1) % n : Nat) := by rw [← Int.natCast_one, ← Int.natCast_add, ← Int.natCast_emod]
        clear hx hy hgx hgy hA
        generalize (j + 1) % n = m at hm hmlt hd
        by_cases hp : x = y
        · subst hp
          have HF : Hid (reducedB xs = false) := by
            unfold Hid reducedB cycB
            rw [HV.out, Bool.true_and, List.all_eq_false]
            refine ⟨j, by rw [List.mem_range, hl.out]; exact hlt, ?_⟩
            rw [HX.out, HY.out]; simp
          go_wp2
          go_ret
          exact ⟨ret_bool HF.out.symm, rfl⟩
        · have hp' : (x == y) = false := by rw [beq_eq_false_iff_ne]; exact hp
          have HP := Lib.hid hp
          clear hp
          go_wp2
          go_round
          case rel => exact ⟨j + 1, by omega, by go_num, by rw [range_all_succ, HALL.out, HX.out, HY.out]; simp [HP.out]⟩
          case measure => simp [intOf]; omega
      · go_wp2
        go_ret
        refine ⟨ret_bool ?_, rfl⟩
        obtain rfl : j = n := by omega
        unfold reducedB cycB
        rw [HV.out, hl.out, Bool.true_and]
        have := HALL.out
        rw [hl.out] at this
        exact this.symm

end Go.Proofs.YtenomnkdfiojbaaDoor
