/-
  The walks of line.least (and of the function in it), line.Normal.
-/
import Derived.Test.YtenomnkdfiojbaaDoorReduce
namespace Go.Proofs.YtenomnkdfiojbaaDoor
open Go.RowKit

/-- -1, 0, 1 for two lists of one length. -/
def cmpL (a b : List Int) : Int := if a = b then 0 else if Ln.lexLt a b then -1 else 1

theorem lexLt_at {x y : Int} (hne : ¬ x = y) : ∀ (j : Nat) (a b : List Int), (∀ i, i < j → a[i]? = b[i]?) → a[j]? = some x → b[j]? = some y → Ln.lexLt a b = decide (x < y) ∧ a ≠ b := by
  intro j
  induction j with
  | zero =>
    intro a b _ ha hb
    cases a with
    | nil => simp at ha
    | cons u l =>
      cases b with
      | nil => simp at hb
      | cons v m =>
        have e1 : u = x := by simpa using ha
        have e2 : v = y := by simpa using hb
        subst e1; subst e2
        exact ⟨by simp [Ln.lexLt, hne], fun e => hne (by injection e)⟩
  | succ j ih =>
    intro a b hall ha hb
    cases a with
    | nil => simp at ha
    | cons u l =>
      cases b with
      | nil => simp at hb
      | cons v m =>
        have e : u = v := by simpa using hall 0 (by omega)
        subst e
        have := ih l m (fun i hi => by simpa using hall (i + 1) (by omega)) (by simpa using ha) (by simpa using hb)
        exact ⟨by simp only [Ln.lexLt, if_true]; exact this.1, fun e => this.2 (by injection e)⟩

theorem cand_at {xs : List Int} {n s j : Nat} (hl : xs.length = n) (hj : j < n) : (Ln.cand xs s)[j]? = some (Ln.along xs s j) := by
  subst hl
  simp [Ln.cand, hj]
theorem cmpL_diff {xs : List Int} {n s t j : Nat} (hl : xs.length = n) (hj : j < n) (hall : ∀ i, i < j → Ln.along xs s i = Ln.along xs t i) (hne : ¬ Ln.along xs s j = Ln.along xs t j) :
    cmpL (Ln.cand xs s) (Ln.cand xs t) = Lib.compareInt (Ln.along xs s j) (Ln.along xs t j) := by
  obtain ⟨h1, h2⟩ := lexLt_at hne j (Ln.cand xs s) (Ln.cand xs t) (fun i hi => by rw [cand_at hl (by omega), cand_at hl (by omega), hall i hi]) (cand_at hl hj) (cand_at hl hj)
  unfold cmpL Lib.compareInt
  rw [if_neg h2, h1]
  by_cases q : Ln.along xs s j < Ln.along xs t j
  · simp [q]
  · have : Ln.along xs s j > Ln.along xs t j := by omega
    simp [q, this]
theorem cmpL_same {xs : List Int} {n s t : Nat} (hl : xs.length = n) (hall : ∀ i, i < n → Ln.along xs s i = Ln.along xs t i) : cmpL (Ln.cand xs s) (Ln.cand xs t) = 0 := by
  have : Ln.cand xs s = Ln.cand xs t := by
    apply List.ext_getElem?
    intro i
    by_cases hi : i < n
    · rw [cand_at hl hi, cand_at hl hi, hall i hi]
    · rw [List.getElem?_eq_none (by rw [Ln.length_cand]; omega), List.getElem?_eq_none (by rw [Ln.length_cand]; omega)]
  unfold cmpL
  rw [if_pos this]

theorem along_any (A : Option Addr) (n cap : Nat) (xs : List Int) (s j : Nat) (w : World) (h : SL w A n xs) (hn : n ≤ 400) (hs : s < n) (hj : j ≤ n) :
    ∀ W, Below w.heap.size w W → Calls Tryd.prog 67 #[.slice A n cap, .int .i64 s, .int .i64 j] W fun e w' => e = .returned (.int .i64 (Ln.along xs s j)) ∧ Below W.heap.size W w' := by
  intro W hW
  have := along_calls A n cap xs s j W (h.below hW) hn (by omega) (by omega) (by omega) (by omega)
  simpa only [Int.toNat_natCast] using this

/-- What holds at the heads of the comparison's loop. -/
def CmpRel (xs : List Int) (n s t : Nat) (w : World) (i : Value) (wr : World) : Prop :=
  ∃ j : Nat, i = .int .i64 j ∧ j ≤ n ∧ (∀ i, i < j → Ln.along xs s i = Ln.along xs t i) ∧ Below w.heap.size w wr

set_option maxHeartbeats 1000000 in
set_option maxRecDepth 100000 in
theorem compare_calls (bw : Nat) (A : Option Addr) (n cap : Nat) (xs : List Int) (s t : Nat) (w : World) (hbox : w.cell? ⟨bw, 0, none⟩ = some (.slice A n cap)) (h : SL w A n xs) (hn : n ≤ 400) (hs : s < n) (ht : t < n) :
    Calls Tryd.prog 65 #[.int .i64 s, .int .i64 t, .pointer (some ⟨bw, 0, none⟩)] w fun e w' => e = .returned (.int .i64 (cmpL (Ln.cand xs s) (Ln.cand xs t))) ∧ Below w.heap.size w w' := by
  have HL := Lib.hid h.1
  have hbw : bw < w.heap.size := World.block_lt_of_cell? w _ hbox
  have HBOX := Lib.hid hbox
  go_enter Tryd.func65, Tryd.ntmps65
  go_wp2_with fail
  go_loopw [10] (fun i wr => CmpRel xs n s t w i wr) (fun i _ => n - (intOf i).toNat)
  case atStart => exact ⟨0, rfl, Nat.zero_le _, fun i hi => by omega, Below.refl _ _⟩
  case round =>
    obtain ⟨j, rfl, hj, hall, hb⟩ := hrel
    have HALL := Lib.hid hall
    clear hall hbox
    by_cases hlt : j < n
    · have hb2 : wr.cell? ⟨bw, 0, none⟩ = some (.slice A n cap) := (hb.cell (p := ⟨bw, 0, none⟩) hbw).trans HBOX.out
      have HA1 := Lib.hid (along_any A n cap xs s j w h hn hs hj)
      have HA2 := Lib.hid (along_any A n cap xs t j w h hn ht hj)
      have hbox' : ∀ W, Below w.heap.size w W → W.cell? ⟨bw, 0, none⟩ = some (.slice A n cap) := fun W hW => (hW.cell (p := ⟨bw, 0, none⟩) hbw).trans HBOX.out
      have HBX := Lib.hid hbox'
      clear hbox'
      by_cases hxy : Ln.along xs s j = Ln.along xs t j
      · have HREL : ∀ W, Below w.heap.size w W → CmpRel xs n s t w (.int .i64 ((j : Int) + 1)) W := fun W hW =>
          ⟨j + 1, by rw [Int.natCast_add]; rfl, by omega, fun i hi => by
            by_cases e : i = j
            · subst e; exact hxy
            · exact HALL.out i (by omega), hW⟩
        have HRH := Lib.hid HREL
        have HC0 : Hid (Lib.compareInt (Ln.along xs s j) (Ln.along xs t j) = 0) := by unfold Hid; rw [hxy]; simp [Lib.compareInt]
        clear HREL hxy
        go_wp2_with fail
        go_region_with (first
          | ((with_reducible refine (HA1.out wr.drew hb.drew).mono ?_); rintro e w1 ⟨rfl, hb1⟩; have q1 := HBX.out w1 ((hb.drew).trans (hb1.mono hb.size)); have hbw1 : Below w.heap.size w w1 := (hb.drew).trans (hb1.mono hb.size))
          | ((with_reducible refine (HA2.out w1 hbw1).mono ?_); rintro e w2 ⟨rfl, hb3⟩; have hbw2 : Below w.heap.size w w2 := hbw1.trans (hb3.mono hbw1.size))
          | ((with_reducible refine (Tryd.cmp_Compare_int _ _ _).mono ?_); rw [HC0.out]; rintro e w3 ⟨rfl, rfl⟩))
        all_goals
          go_wp2_with fail
          go_roundw
          case rel => exact HRH.out _ hbw2
          case measure => simp [intOf]; omega
      · have hq : ∃ q, Lib.compareInt (Ln.along xs s j) (Ln.along xs t j) = q := ⟨_, rfl⟩
        obtain ⟨q, hq⟩ := hq
        have hq0 : (q != 0) = true := by
          rw [bne_iff_ne, ← hq]
          unfold Lib.compareInt
          split
          · omega
          · split <;> omega
        have HC0 : Hid (Lib.compareInt (Ln.along xs s j) (Ln.along xs t j) = q) := hq
        have HRES : Hid (cmpL (Ln.cand xs s) (Ln.cand xs t) = q) := by unfold Hid; rw [cmpL_diff HL.out hlt HALL.out hxy, hq]
        clear hq hxy
        go_wp2_with fail
        go_region_with (first
          | ((with_reducible refine (HA1.out wr.drew hb.drew).mono ?_); rintro e w1 ⟨rfl, hb1⟩; have q1 := HBX.out w1 ((hb.drew).trans (hb1.mono hb.size)); have hbw1 : Below w.heap.size w w1 := (hb.drew).trans (hb1.mono hb.size))
          | ((with_reducible refine (HA2.out w1 hbw1).mono ?_); rintro e w2 ⟨rfl, hb3⟩; have hbw2 : Below w.heap.size w w2 := hbw1.trans (hb3.mono hbw1.size))
          | ((with_reducible refine (Tryd.cmp_Compare_int _ _ _).mono ?_); rw [HC0.out]; rintro e w3 ⟨rfl, rfl⟩))
        all_goals
          go_wp2_with fail
          go_ret
          exact ⟨ret_int HRES.out.symm, hbw2⟩
    · go_wp2_with fail
      go_ret
      exact ⟨ret_int (cmpL_same HL.out (fun i hi => HALL.out i (by omega))).symm, hb⟩

end Go.Proofs.YtenomnkdfiojbaaDoor
