/-
  The walks of line.within, line.tangled, line.drawn for any positions.
-/
import Derived.Test.YtenomnkdfiojbaaDoorRefR
import Derived.Deep.RegionHeld3
namespace Go.Proofs.YtenomnkdfiojbaaDoor
open Go.RowKit

/-- The arcs that lie in a block. -/
def AL (w : World) (g : Nat) (l : List (Int × Int)) : Prop :=
  g < w.heap.size ∧ ∀ k p, l[k]? = some p → w.cell? ⟨g, k * 2, none⟩ = some (.int .i64 p.1) ∧ w.cell? ⟨g, k * 2 + 1, none⟩ = some (.int .i64 p.2)
theorem AL.below {w w' : World} {g : Nat} {l : List (Int × Int)} (h : AL w g l) (hb : Below w.heap.size w w') : AL w' g l :=
  ⟨Nat.lt_of_lt_of_le h.1 hb.size, fun k p hp => by
    obtain ⟨h1, h2⟩ := h.2 k p hp
    exact ⟨(hb.cell (p := ⟨g, _, none⟩) h.1).trans h1, (hb.cell (p := ⟨g, _, none⟩) h.1).trans h2⟩⟩

set_option maxHeartbeats 1000000 in
theorem within_calls (a b x : Int) (w : World) : Calls Tryd.prog 83 #[.agg #[.int .i64 a, .int .i64 b], .int .i64 x] w fun e w' => e = .returned (.bool (winB (a, b) x)) ∧ Below w.heap.size w w' := by
  have HE : Hid (winB (a, b) x = (decide (a < x) && decide (x < b))) := rfl
  by_cases h1 : a < x
  · go_enter Tryd.func83, Tryd.ntmps83
    go_wp2_with fail
    try go_quiet (fail)
    try go_wp2_with fail
    go_ret
    exact ⟨ret_bool (by rw [HE.out]; simp [h1]), by first | exact (Below.refl _ _).alloc (Nat.le_refl _) _ | exact below_drewN ((Below.refl _ _).alloc (Nat.le_refl _) _) _⟩
  · have hd : decide (a < x) = false := by simpa using h1
    go_enter Tryd.func83, Tryd.ntmps83
    go_wp2_with fail
    try go_quiet (fail)
    try go_wp2_with fail
    go_ret
    exact ⟨ret_bool (by rw [HE.out]; simp [hd]), by first | exact (Below.refl _ _).alloc (Nat.le_refl _) _ | exact below_drewN ((Below.refl _ _).alloc (Nat.le_refl _) _) _⟩

def TangRel (l : List (Int × Int)) (n : Nat) (w : World) (i : Value) (wr : World) : Prop := ∃ j : Nat, j ≤ n ∧ i = .int .i64 j ∧ (∀ a b, a < j → b < a → crossB l a b = false) ∧ Below w.heap.size w wr
def TangIn (l : List (Int × Int)) (i : Nat) (w : World) (v : Value) (wr : World) : Prop := ∃ j : Nat, j ≤ i ∧ v = .int .i64 j ∧ (∀ b, b < j → crossB l i b = false) ∧ Below w.heap.size w wr
theorem tanB_true {l : List (Int × Int)} {i j : Nat} (hi : i < l.length) (hj : j < i) (h : crossB l i j = true) : tanB l = true := by
  cases e : tanB l with
  | true => rfl
  | false => rw [tanB_false.1 e i j hi hj] at h; cases h
theorem arc_made (w : World) (a b : Int) : w.heap.size < (w.alloc (.cells #[.int .i64 a, .int .i64 b] 85)).heap.size ∧
    (w.alloc (.cells #[.int .i64 a, .int .i64 b] 85)).cell? ⟨w.heap.size, 0, none⟩ = some (.int .i64 a) ∧ (w.alloc (.cells #[.int .i64 a, .int .i64 b] 85)).cell? ⟨w.heap.size, 1, none⟩ = some (.int .i64 b) := by
  have h := (SL.made w 85 [a, b]).2 (by simp)
  obtain ⟨g, off, e, hg, hc⟩ := h
  injection e with e
  injection e with e1 e2
  subst e1; subst e2
  exact ⟨by simp, hc 0 (by simp), hc 1 (by simp)⟩

/-- The cells that the test of a pair reads. -/
def PairS (W1 : World) (P B : Nat) (p1 p2 q1 q2 : Int) (w' : World) : Prop :=
  w'.cell? ⟨P, 0, none⟩ = some (.int .i64 p1) ∧ w'.cell? ⟨P, 1, none⟩ = some (.int .i64 p2) ∧ w'.cell? ⟨B, 0, none⟩ = some (.int .i64 q1) ∧ w'.cell? ⟨B, 1, none⟩ = some (.int .i64 q2) ∧ Below W1.heap.size W1 w'
theorem PairS.keep {W1 : World} {P B : Nat} {p1 p2 q1 q2 : Int} {w' w'' : World} (hP : P < W1.heap.size) (hB : B < W1.heap.size) (h : PairS W1 P B p1 p2 q1 q2 w') (hb : Below w'.heap.size w' w'') : PairS W1 P B p1 p2 q1 q2 w'' := by
  obtain ⟨h1, h2, h3, h4, h5⟩ := h
  have hP' := Nat.lt_of_lt_of_le hP h5.size
  have hB' := Nat.lt_of_lt_of_le hB h5.size
  exact ⟨(hb.cell (p := ⟨P, 0, none⟩) hP').trans h1, (hb.cell (p := ⟨P, 1, none⟩) hP').trans h2, (hb.cell (p := ⟨B, 0, none⟩) hB').trans h3, (hb.cell (p := ⟨B, 1, none⟩) hB').trans h4, h5.trans (hb.mono h5.size)⟩

set_option maxHeartbeats 4000000 in
set_option maxRecDepth 100000 in
theorem tangled_calls (g n c : Nat) (l : List (Int × Int)) (w : World) (h : AL w g l) (hn : l.length = n) (hbig : n ≤ 1000) (hc : n ≤ c) :
    Calls Tryd.prog 74 #[.slice (some ⟨g, 0, none⟩) n c] w fun e w' => e = .returned (.bool (tanB l)) ∧ Below w.heap.size w w' := by
  have HN := Lib.hid hn
  have H := Lib.hid h
  clear hn h
  go_enter Tryd.func74, Tryd.ntmps74
  go_wp2_with fail
  go_loopw [9] (fun i wr => TangRel l n w i wr) (fun i _ => n - (intOf i).toNat)
  case atStart => exact ⟨0, Nat.zero_le _, rfl, fun a b ha => by omega, Below.refl _ _⟩
  case round =>
    obtain ⟨i, hi, rfl, hall, hb⟩ := hrel
    have HALL := Lib.hid hall
    have HB := Lib.hid hb
    clear hall
    by_cases hlt : i < n
    · obtain ⟨p, hp⟩ : ∃ p, l[i]? = some p := ⟨_, List.getElem?_eq_getElem (by rw [HN.out]; exact hlt)⟩
      obtain ⟨h0, h1⟩ := (H.out.below hb).2 i p hp
      have HP := Lib.hid hp
      have hic : (i : Int) ≤ c := by omega
      obtain ⟨p1, p2⟩ := p
      simp only at h0 h1
      clear hp hb
      go_wp2_with fail
      obtain ⟨m0, m1, m2⟩ := arc_made wr p1 p2
      have HA0 := Lib.hid m1
      have HA1 := Lib.hid m2
      have HSZ := Lib.hid m0
      clear m0 m1 m2
      have HBA : Hid (Below w.heap.size w (wr.alloc (.cells #[.int .i64 p1, .int .i64 p2] 85))) := HB.out.alloc HB.out.size _
      obtain ⟨W0, hW0⟩ : ∃ W0, W0 = wr.alloc (.cells #[.int .i64 p1, .int .i64 p2] 85) := ⟨_, rfl⟩
      obtain ⟨P, hP⟩ : ∃ P, P = wr.heap.size := ⟨_, rfl⟩
      rw [← hW0, ← hP] at HA0 HA1 HSZ ⊢
      rw [← hW0] at HBA
      clear hW0 hP h0 h1
      go_loopw [18] (fun v wr => TangIn l i W0 v wr) (fun v _ => i - (intOf v).toNat)
      case atStart => exact ⟨0, Nat.zero_le _, rfl, fun b hb => by omega, Below.refl _ _⟩
      case round =>
        obtain ⟨j, hj, rfl, hin, hbi⟩ := hrel
        have HIN := Lib.hid hin
        have HBI := Lib.hid hbi
        clear hin hbi
        by_cases hji : j < i
        · have hji1 : (j : Int) < i := by omega
          obtain ⟨q, hq⟩ : ∃ q, l[j]? = some q := ⟨_, List.getElem?_eq_getElem (by rw [HN.out]; omega)⟩
          have HBW := Lib.hid (HBA.out.trans (HBI.out.mono HBA.out.size))
          obtain ⟨h0, h1⟩ := (H.out.below HBW.out).2 j q hq
          obtain ⟨q1, q2⟩ := q
          simp only at h0 h1
          have hPlt : P < wr.heap.size := Nat.lt_of_lt_of_le HSZ.out HBI.out.size
          have ha0 : wr.cell? ⟨P, 0, none⟩ = some (.int .i64 p1) := (HBI.out.cell (p := ⟨P, 0, none⟩) HSZ.out).trans HA0.out
          have ha1 : wr.cell? ⟨P, 1, none⟩ = some (.int .i64 p2) := (HBI.out.cell (p := ⟨P, 1, none⟩) HSZ.out).trans HA1.out
          have HC : Hid (crossB l i j = (winB (p1, p2) q1 != winB (p1, p2) q2)) := by
            unfold Hid crossB
            rw [List.getD_eq_getElem?_getD, List.getD_eq_getElem?_getD, HP.out, hq]
            rfl
          have K1 := Lib.hid (fun w' => within_calls p1 p2 q1 w')
          have K2 := Lib.hid (fun w' => within_calls p1 p2 q2 w')
          generalize winB (p1, p2) q1 = b1 at K1 HC
          generalize winB (p1, p2) q2 = b2 at K2 HC
          clear hq
          go_wp2_with fail
          obtain ⟨m0, m1, m2⟩ := arc_made wr q1 q2
          have hbw1 : Below wr.heap.size wr (wr.alloc (.cells #[.int .i64 q1, .int .i64 q2] 85)) := (Below.refl _ _).alloc (Nat.le_refl _) _
          have HBI1 := Lib.hid (HBI.out.trans (hbw1.mono HBI.out.size))
          have ga0 := (hbw1.cell (p := ⟨P, 0, none⟩) hPlt).trans ha0
          have ga1 := (hbw1.cell (p := ⟨P, 1, none⟩) hPlt).trans ha1
          have hPlt1 : P < (wr.alloc (.cells #[.int .i64 q1, .int .i64 q2] 85)).heap.size := Nat.lt_of_lt_of_le hPlt hbw1.size
          obtain ⟨W1, hW1⟩ : ∃ W1, W1 = wr.alloc (.cells #[.int .i64 q1, .int .i64 q2] 85) := ⟨_, rfl⟩
          obtain ⟨B, hB⟩ : ∃ B, B = wr.heap.size := ⟨_, rfl⟩
          rw [← hW1] at m0 m1 m2 HBI1 ga0 ga1 hPlt1 ⊢
          rw [← hB] at m0 m1 m2 ⊢
          clear hW1 hB hbw1 ha0 ha1 h0 h1 hPlt
          have HS0 := Lib.hid (show PairS W1 P B p1 p2 q1 q2 W1.drew from ⟨ga0, ga1, m1, m2, (Below.refl _ _).drew⟩)
          have HM0 := Lib.hid m0
          have HP1 := Lib.hid hPlt1
          clear ga0 ga1 m0 m1 m2 hPlt1
          by_cases hbb : b1 = b2
          · subst hbb
            go_region_held3 (fun w' => w'.cell? ⟨P, 0, none⟩ = some (.int .i64 p1) ∧ w'.cell? ⟨P, 1, none⟩ = some (.int .i64 p2) ∧ w'.cell? ⟨B, 0, none⟩ = some (.int .i64 q1) ∧ w'.cell? ⟨B, 1, none⟩ = some (.int .i64 q2) ∧ Below W1.heap.size W1 w')
              (first | exact HS0.out | exact PairS.keep HP1.out HM0.out (by assumption) hbw)
              (first
                | (go_at_call 83; (with_reducible refine (K1.out _).mono ?_); rintro e w2 ⟨rfl, hbw⟩)
                | (go_at_call 83; (with_reducible refine (K2.out _).mono ?_); rintro e w2 ⟨rfl, hbw⟩))
            have hS : PairS W1 P B p1 p2 q1 q2 w2 := by assumption
            have HSS := Lib.hid hS
            clear hS
            go_wp2_with fail
            go_roundw
            case rel => exact ⟨j + 1, by omega, by rw [Int.natCast_add]; rfl, fun b hb => by
              by_cases e : b = j
              · subst e; rw [HC.out]; simp
              · exact HIN.out b (by omega), HBI1.out.trans (HSS.out.2.2.2.2.mono HBI1.out.size)⟩
            case measure => simp [intOf]; omega
          · obtain rfl : b2 = !b1 := by cases b1 <;> cases b2 <;> simp_all
            clear hbb
            go_region_held3 (fun w' => w'.cell? ⟨P, 0, none⟩ = some (.int .i64 p1) ∧ w'.cell? ⟨P, 1, none⟩ = some (.int .i64 p2) ∧ w'.cell? ⟨B, 0, none⟩ = some (.int .i64 q1) ∧ w'.cell? ⟨B, 1, none⟩ = some (.int .i64 q2) ∧ Below W1.heap.size W1 w')
              (first | exact HS0.out | exact PairS.keep HP1.out HM0.out (by assumption) hbw)
              (first
                | (go_at_call 83; (with_reducible refine (K1.out _).mono ?_); rintro e w2 ⟨rfl, hbw⟩)
                | (go_at_call 83; (with_reducible refine (K2.out _).mono ?_); rintro e w2 ⟨rfl, hbw⟩))
            have hS : PairS W1 P B p1 p2 q1 q2 w2 := by assumption
            have HSS := Lib.hid hS
            clear hS
            have HT : Hid (tanB l = true) := tanB_true (by rw [HN.out]; exact hlt) hji (by rw [HC.out]; simp)
            go_wp2_with fail
            go_ret
            refine ⟨ret_bool HT.out.symm, ?_⟩
            have h1 := HBI1.out.trans (HSS.out.2.2.2.2.mono HBI1.out.size)
            exact HBA.out.trans (h1.mono HBA.out.size)
        · obtain rfl : j = i := by omega
          go_wp2_with fail
          go_roundw
          case rel => exact ⟨j + 1, by omega, by rw [Int.natCast_add]; rfl, fun a b ha hb => by
            by_cases e : a = j
            · subst e; exact HIN.out b hb
            · exact HALL.out a b (by omega) hb, HBA.out.trans (HBI.out.mono HBA.out.size)⟩
          case measure => simp [intOf]; omega
    · obtain rfl : i = n := by omega
      have HF : Hid (tanB l = false) := tanB_false.2 fun a b ha hb => HALL.out a b (by rw [HN.out] at ha; exact ha) hb
      go_wp2_with fail
      go_ret
      exact ⟨ret_bool HF.out.symm, HB.out⟩

end Go.Proofs.YtenomnkdfiojbaaDoor
