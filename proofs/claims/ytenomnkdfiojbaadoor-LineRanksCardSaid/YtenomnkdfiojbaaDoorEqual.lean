/-
  The walks of the reference's Equal and of the law package's normal.
-/
import Derived.Test.YtenomnkdfiojbaaDoorLeast
namespace Go.Proofs.YtenomnkdfiojbaaDoor
open Go.RowKit

def EqRel (xs ys : List Int) (n : Nat) (w : World) (i : Value) (wr : World) : Prop :=
  ∃ j q : Nat, j ≤ n ∧ i = .int .i64 j ∧ (∀ i, i < j → xs[i]? = ys[i]?) ∧ wr = w.drewN q

set_option maxHeartbeats 1000000 in
theorem equal_calls (A1 A2 : Option Addr) (n c1 m c2 : Nat) (xs ys : List Int) (w : World) (h1 : SL w A1 n xs) (h2 : SL w A2 m ys) (hn : n ≤ maxLen) :
    Calls Tryd.prog 18 #[.slice A1 n c1, .slice A2 m c2] w fun e w' => e = .returned (.bool (decide (xs = ys))) ∧ Below w.heap.size w w' := by
  unfold maxLen at hn
  have HL1 := Lib.hid h1.1
  have HL2 := Lib.hid h2.1
  by_cases hnm : n = m
  · have hne : ((n : Int) != (m : Int)) = false := by rw [bne_eq_false_iff_eq]; omega
    have HNM := Lib.hid hnm
    clear hnm
    go_enter Tryd.func18, Tryd.ntmps18
    go_wp2_with fail
    go_loopw [5] (fun i wr => EqRel xs ys n w i wr) (fun i _ => n - (intOf i).toNat)
    case atStart => exact ⟨0, 0, Nat.zero_le _, rfl, fun i hi => by omega, rfl⟩
    case round =>
      obtain ⟨j, q, hj, rfl, hall, rfl⟩ := hrel
      have HALL := Lib.hid hall
      clear hall
      by_cases hlt : j < n
      · have hltm : j < m := by have := HNM.out; omega
        obtain ⟨b, off, x, rfl, _, hx, hc⟩ := h1.at_ hlt
        obtain ⟨b', off', y, rfl, _, hy, hd⟩ := h2.at_ hltm
        have hi1 : (j : Int) < n := by omega
        have hi2 : (j : Int) < m := by omega
        have HX := Lib.hid hx
        have HY := Lib.hid hy
        clear hx hy
        by_cases hxy : x = y
        · have hne2 : (x != y) = false := by rw [bne_eq_false_iff_eq]; exact hxy
          have HXY := Lib.hid hxy
          clear hxy
          go_wp2_with fail
          go_quiet (fail)
          go_wp2_with fail
          go_roundw
          case rel => exact ⟨j + 1, _, by omega, by rw [Int.natCast_add]; rfl, fun i hi => by
            by_cases e : i = j
            · subst e; rw [HX.out, HY.out, HXY.out]
            · exact HALL.out i (by omega), rfl⟩
          case measure => simp [intOf]; omega
        · have hne2 : (x != y) = true := by rw [bne_iff_ne]; exact hxy
          have HF : Hid (decide (xs = ys) = false) := by
            unfold Hid
            rw [decide_eq_false_iff_not]
            intro e
            subst e
            have := HX.out.symm.trans HY.out
            injection this with this
            exact hxy this
          clear hxy
          go_wp2_with fail
          go_quiet (fail)
          go_wp2_with fail
          go_ret
          exact ⟨ret_bool HF.out.symm, below_drewN (below_drewN (Below.refl _ _) _) _⟩
      · have HT : Hid (decide (xs = ys) = true) := by
          unfold Hid
          rw [decide_eq_true_iff]
          apply List.ext_getElem?
          intro i
          by_cases hi : i < n
          · exact HALL.out i (by omega)
          · rw [List.getElem?_eq_none (by rw [HL1.out]; omega), List.getElem?_eq_none (by rw [HL2.out]; have := HNM.out; omega)]
        go_wp2_with fail
        go_ret
        exact ⟨ret_bool HT.out.symm, below_drewN (Below.refl _ _) _⟩
  · have hne : ((n : Int) != (m : Int)) = true := by rw [bne_iff_ne]; omega
    have HF : Hid (decide (xs = ys) = false) := by
      unfold Hid
      rw [decide_eq_false_iff_not]
      intro e
      subst e
      exact hnm (HL1.out.symm.trans HL2.out)
    clear hnm
    go_enter Tryd.func18, Tryd.ntmps18
    go_wp2_with fail
    go_ret
    exact ⟨ret_bool HF.out.symm, Below.refl _ _⟩

/-- What a function leaves that returns a list alone. -/
def ListPost (w : World) (res : List Int) (n : Nat) (e : Ending) (w' : World) : Prop :=
  ∃ A c, e = .returned (.slice A n c) ∧ OwnI w' w.heap.size (.slice A n c) res ∧ n ≤ c ∧ Below w.heap.size w w'
theorem ListPost.of {w w' : World} {res : List Int} {n : Nat} {v : Value} (hl : res.length = n) (h : OwnI w' w.heap.size v res) (hb : Below w.heap.size w w') : ListPost w res n (.returned v) w' := by
  obtain ⟨A, c, rfl, hc, _⟩ := h.form
  subst hl
  exact ⟨A, c, rfl, h, hc, hb⟩

set_option maxHeartbeats 1000000 in
/-- The program's normal form without its error. -/
theorem normalOf_calls (A : Option Addr) (n cap m : Nat) (xs : List Int) (w : World) (h : SL w A n xs) (hn : n ≤ maxLen) (hm : (if errB 40 xs = 0 then Ln.normal xs else []).length = m) :
    Calls Tryd.prog 31 #[.slice A n cap] w (ListPost w (if errB 40 xs = 0 then Ln.normal xs else []) m) := by
  have hN : Calls Tryd.prog 15 #[.slice A n cap] w fun e w' => ∃ v, e = .returned (.tuple #[v, .int .i64 (errB 40 xs)]) ∧ OwnI w' w.heap.size v (if errB 40 xs = 0 then Ln.normal xs else []) ∧ Below w.heap.size w w' := normal_calls A n cap xs w h hn
  obtain ⟨L, hL⟩ : ∃ L, (if errB 40 xs = 0 then Ln.normal xs else []) = L := ⟨_, rfl⟩
  rw [hL] at hN hm ⊢
  have HN := Lib.hid hN
  have HM := Lib.hid hm
  clear hm hN hL
  go_enter Tryd.func31, Tryd.ntmps31
  go_wp2_with (go_at_call 15; refine HN.out.mono ?_; rintro e w1 ⟨v, rfl, hown, hb⟩)
  go_ret
  exact ListPost.of HM.out hown hb

/-- A literal list. -/
theorem SL.made (w : World) (T : TypeId) (xs : List Int) : SL (w.alloc (.cells (xs.map (Value.int .i64)).toArray T)) (some ⟨w.heap.size, 0, none⟩) xs.length xs := by
  refine ⟨rfl, fun _ => ⟨w.heap.size, 0, rfl, by simp, fun k hk => ?_⟩⟩
  have := Lib.cell_of_heap (heap_alloc_new w (.cells (xs.map (Value.int .i64)).toArray T)) (0 + k)
  rw [this, Nat.zero_add]
  have hx : xs[k]? = some xs[k] := List.getElem?_eq_getElem hk
  simp [hx]

end Go.Proofs.YtenomnkdfiojbaaDoor
