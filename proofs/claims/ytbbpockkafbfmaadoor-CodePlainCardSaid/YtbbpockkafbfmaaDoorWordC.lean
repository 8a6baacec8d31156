/-
  Strand WordC, one after the other.
-/
import Derived.Test.YtbbpockkafbfmaaDoorOther
import Derived.Lib.ItoaLen
import Derived.Deep.RegionHeld3

/-
  The walks of strand and sign of codes.
-/
namespace Go.Proofs.YtbbpockkafbfmaaDoor
open Go.RowKit

set_option maxHeartbeats 1000000 in
theorem strand_calls (o : Bool) (w : World) : Calls Tryd.prog 105 #[.bool o] w fun e w' => e = .returned (.string ⟨#[if o then 111 else 117]⟩) ∧ w' = w := by
  cases o
  · go_enter Tryd.func105, Tryd.ntmps105
    go_wp2_with fail
    go_ret
    exact ⟨rfl, rfl⟩
  · go_enter Tryd.func105, Tryd.ntmps105
    go_wp2_with fail
    go_ret
    exact ⟨rfl, rfl⟩

set_option maxHeartbeats 1000000 in
theorem sign_calls (s : Int) (w : World) : Calls Tryd.prog 106 #[.int .i64 s] w fun e w' => e = .returned (.string ⟨#[if s = 1 then 43 else if s = -1 then 45 else 63]⟩) ∧ w' = w := by
  by_cases h1 : s = 1
  · subst h1
    go_enter Tryd.func106, Tryd.ntmps106
    go_wp2_with fail
    go_ret
    exact ⟨rfl, rfl⟩
  · have e1 : (s == 1) = false := by rw [beq_eq_false_iff_ne]; exact h1
    have e1' : ((1 : Int) == s) = false := by rw [beq_eq_false_iff_ne]; exact fun c => h1 c.symm
    by_cases h2 : s = -1
    · subst h2
      go_enter Tryd.func106, Tryd.ntmps106
      go_wp2_with fail
      go_ret
      exact ⟨rfl, rfl⟩
    · have e2 : (s == -1) = false := by rw [beq_eq_false_iff_ne]; exact h2
      have e2' : ((-1 : Int) == s) = false := by rw [beq_eq_false_iff_ne]; exact fun c => h2 c.symm
      rw [if_neg h1, if_neg h2]
      go_enter Tryd.func106, Tryd.ntmps106
      go_wp2_with fail
      go_ret
      exact ⟨rfl, rfl⟩

end Go.Proofs.YtbbpockkafbfmaaDoor

/-
  The walk of word of codes.
-/
namespace Go.Proofs.YtbbpockkafbfmaaDoor
open Go.RowKit

/-- What is asked of strconv.Itoa, at every integer. -/
def ItoaAll (w : World) : Prop :=
  ∀ x, I64 x → ∀ W, Below w.heap.size w W → Calls Tryd.prog 66 #[.int .i64 x] W fun e W' => e = .returned (.string ⟨(Lib.itoa x).toArray⟩) ∧ Below W.heap.size W W'
theorem ItoaAll.below {w w' : World} (h : ItoaAll w) (hb : Below w.heap.size w w') : ItoaAll w' := fun x hx W hW => h x hx W (hb.trans (hW.mono hb.size))

/-- A letter as bytes. -/
def wordL (l : Lt) : List UInt8 :=
  if l.kind = 1 then Lib.itoa l.gate ++ 46 :: Lib.itoa l.rank
  else if l.kind = 2 then Lib.itoa l.id ++ [if l.over then 111 else 117] ++ [if l.sign = 1 then 43 else if l.sign = -1 then 45 else 63]
  else [63]
/-- A code as bytes. -/
def printC (f : Int) (ls : List Lt) : List UInt8 := Lib.itoa f ++ [58] ++ ls.flatMap fun l => [32] ++ wordL l
/-- The numbers of a letter are 64-bit integers. -/
def LtI (l : Lt) : Prop := I64 l.gate ∧ I64 l.rank ∧ I64 l.id

theorem wordL_len {l : Lt} (h : LtI l) : (wordL l).length ≤ 43 := by
  have h1 := Lib.itoa_length_le l.gate h.1.1 h.1.2
  have h2 := Lib.itoa_length_le l.rank h.2.1.1 h.2.1.2
  have h3 := Lib.itoa_length_le l.id h.2.2.1 h.2.2.2
  unfold wordL
  split
  · simp; omega
  · split
    · simp; omega
    · simp

theorem str_app (a b : List UInt8) : (⟨a.toArray⟩ : ByteArray) ++ ⟨b.toArray⟩ = ⟨(a ++ b).toArray⟩ := by
  apply ByteArray.ext
  simp

/-- The letter's cells, and what else stays. -/
def WdS (B : Nat) (l : Lt) (w w' : World) : Prop :=
  w'.cell? ⟨B, 1, none⟩ = some (.int .i64 l.gate) ∧ w'.cell? ⟨B, 2, none⟩ = some (.int .i64 l.rank) ∧ w'.cell? ⟨B, 3, none⟩ = some (.int .i64 l.id) ∧ w'.cell? ⟨B, 4, none⟩ = some (.int .i64 l.sign) ∧ w'.cell? ⟨B, 5, none⟩ = some (.bool l.over) ∧ Below w.heap.size w w'
theorem WdS.last {B : Nat} {l : Lt} {w w' : World} (h : WdS B l w w') : Below w.heap.size w w' := h.2.2.2.2.2
theorem WdS.go {B : Nat} {l : Lt} {w w1 w2 : World} (hB : B < w.heap.size) (h : WdS B l w w1) (hb : Below w1.heap.size w1 w2) : WdS B l w w2 := by
  obtain ⟨c1, c2, c3, c4, c5, hw⟩ := h
  have e : ∀ o, w2.cell? ⟨B, o, none⟩ = w1.cell? ⟨B, o, none⟩ := fun o => hb.cell (p := ⟨B, o, none⟩) (Nat.lt_of_lt_of_le hB hw.size)
  exact ⟨(e _).trans c1, (e _).trans c2, (e _).trans c3, (e _).trans c4, (e _).trans c5, hw.trans (hb.mono hw.size)⟩
theorem WdS.drew {B : Nat} {l : Lt} {w : World} (h : WdS B l w w) : WdS B l w w.drew := h.go (by
  have := h.1
  rcases Nat.lt_or_ge B w.heap.size with q | q
  · exact q
  · unfold World.cell? at this; simp [Array.getElem?_eq_none q] at this) (Below.refl _ _).drew

theorem WdS.refl_of {w w2 : World} (h : w2 = w) : Below w.heap.size w w2 := by subst h; exact Below.refl _ _

set_option maxHeartbeats 4000000 in
set_option maxRecDepth 100000 in
theorem word_pass (l : Lt) (w : World) (hT : ItoaAll w) (hl : LtI l) (hk : l.kind = 1) :
    Calls Tryd.prog 72 #[l.val] w fun e w' => e = .returned (.string ⟨(wordL l).toArray⟩) ∧ Below w.heap.size w w' := by
  obtain ⟨hg, hr, hi⟩ := hl
  have HT := Lib.hid hT
  unfold Lt.val
  have hke : (l.kind == 1) = true := by rw [beq_iff_eq]; exact hk
  have HE : Hid (wordL l = Lib.itoa l.gate ++ [46] ++ Lib.itoa l.rank) := by unfold Hid wordL; rw [if_pos hk]; simp
  rw [HE.out]
  have hke' : ((1 : Int) == l.kind) = true := by rw [beq_iff_eq]; exact hk.symm
  have g1 := Lib.itoa_length_le l.gate hg.1 hg.2
  have g2 := Lib.itoa_length_le l.rank hr.1 hr.2
  have l1 : ¬ 9223372036854775807 < (Lib.itoa l.gate).length + 1 := by omega
  have l2 : ¬ 9223372036854775807 < (Lib.itoa l.gate).length + 1 + (Lib.itoa l.rank).length := by omega
  clear hk hT g1 g2
  go_enter Tryd.func72, Tryd.ntmps72
  go_wp2_with fail
  obtain ⟨B, hB⟩ : ∃ B, w.heap.size = B := ⟨_, rfl⟩
  obtain ⟨W0, hW0⟩ : ∃ W0, w.alloc (.cells #[.int .i64 l.kind, .int .i64 l.gate, .int .i64 l.rank, .int .i64 l.id, .int .i64 l.sign, .bool l.over] 50) = W0 := ⟨_, rfl⟩
  have HW : Hid (Below w.heap.size w W0) := by rw [← hW0]; exact (Below.refl _ _).alloc (Nat.le_refl _) _
  have hBW : B < W0.heap.size := by rw [← hW0, ← hB]; simp
  have HS : Hid (WdS B l W0 W0) := by
    have h := heap_alloc_new w (.cells #[.int .i64 l.kind, .int .i64 l.gate, .int .i64 l.rank, .int .i64 l.id, .int .i64 l.sign, .bool l.over] 50)
    rw [hW0, hB] at h
    exact ⟨Lib.cell_of_heap h 1, Lib.cell_of_heap h 2, Lib.cell_of_heap h 3, Lib.cell_of_heap h 4, Lib.cell_of_heap h 5, Below.refl _ _⟩
  rw [hW0, hB]
  clear hW0
  go_region_held3 (fun w' => w'.cell? ⟨B, 1, none⟩ = some (.int .i64 l.gate) ∧ w'.cell? ⟨B, 2, none⟩ = some (.int .i64 l.rank) ∧ w'.cell? ⟨B, 3, none⟩ = some (.int .i64 l.id) ∧ w'.cell? ⟨B, 4, none⟩ = some (.int .i64 l.sign) ∧ w'.cell? ⟨B, 5, none⟩ = some (.bool l.over) ∧ Below W0.heap.size W0 w')
    (first
      | exact HS.out
      | exact HS.out.drew
      | exact WdS.go hBW (by assumption) hbw)
    (first
      | (go_at_call 66; refine (HT.out l.gate hg _ ?hbx).mono ?_; (case hbx => exact HW.out.trans ((WdS.last (B := B) (l := l) (by assumption)).mono HW.out.size)); rintro e w2 ⟨rfl, hbw⟩)
      | (go_at_call 66; refine (HT.out l.rank hr _ ?hbx).mono ?_; (case hbx => exact HW.out.trans ((WdS.last (B := B) (l := l) (by assumption)).mono HW.out.size)); rintro e w2 ⟨rfl, hbw⟩))
  all_goals
    have hS : WdS B l W0 w2 := by assumption
    have HSS := Lib.hid hS.last
    clear hS
    go_wp2_with fail
    go_ret
    refine ⟨?_, HW.out.trans (HSS.out.mono HW.out.size)⟩
    rw [← str_app, ← str_app]; rfl

set_option maxHeartbeats 4000000 in
set_option maxRecDepth 100000 in
theorem word_cross (l : Lt) (w : World) (hT : ItoaAll w) (hl : LtI l) (hk : l.kind = 2) :
    Calls Tryd.prog 72 #[l.val] w fun e w' => e = .returned (.string ⟨(wordL l).toArray⟩) ∧ Below w.heap.size w w' := by
  obtain ⟨hg, hr, hi⟩ := hl
  have HT := Lib.hid hT
  unfold Lt.val
  have hke : (l.kind == 2) = true := by rw [beq_iff_eq]; exact hk
  have hk1 : (l.kind == 1) = false := by rw [beq_eq_false_iff_ne]; omega
  have HE : Hid (wordL l = Lib.itoa l.id ++ [if l.over then 111 else 117] ++ [if l.sign = 1 then 43 else if l.sign = -1 then 45 else 63]) := by unfold Hid wordL; rw [if_neg (by omega), if_pos hk]
  rw [HE.out]
  obtain ⟨u1, hu1⟩ : ∃ u : UInt8, (if l.over then 111 else 117) = u := ⟨_, rfl⟩
  obtain ⟨u2, hu2⟩ : ∃ u : UInt8, (if l.sign = 1 then 43 else if l.sign = -1 then 45 else 63) = u := ⟨_, rfl⟩
  have HS1 : Hid (∀ W, Calls Tryd.prog 105 #[.bool l.over] W fun e w' => e = .returned (.string ⟨#[u1]⟩) ∧ Below W.heap.size W w') := by intro W; rw [← hu1]; exact (strand_calls l.over W).mono fun _ _ h => ⟨h.1, WdS.refl_of h.2⟩
  have HS2 : Hid (∀ W, Calls Tryd.prog 106 #[.int .i64 l.sign] W fun e w' => e = .returned (.string ⟨#[u2]⟩) ∧ Below W.heap.size W w') := by intro W; rw [← hu2]; exact (sign_calls l.sign W).mono fun _ _ h => ⟨h.1, WdS.refl_of h.2⟩
  rw [hu1, hu2]
  clear hu1 hu2
  have hke' : ((2 : Int) == l.kind) = true := by rw [beq_iff_eq]; exact hk.symm
  have hk1' : ((1 : Int) == l.kind) = false := by rw [beq_eq_false_iff_ne]; omega
  have g1 := Lib.itoa_length_le l.id hi.1 hi.2
  have l1 : ¬ 9223372036854775807 < (Lib.itoa l.id).length + 1 := by omega
  have l2 : ¬ 9223372036854775807 < (Lib.itoa l.id).length + 1 + 1 := by omega
  clear hk hT g1
  go_enter Tryd.func72, Tryd.ntmps72
  go_wp2_with fail
  obtain ⟨B, hB⟩ : ∃ B, w.heap.size = B := ⟨_, rfl⟩
  obtain ⟨W0, hW0⟩ : ∃ W0, w.alloc (.cells #[.int .i64 l.kind, .int .i64 l.gate, .int .i64 l.rank, .int .i64 l.id, .int .i64 l.sign, .bool l.over] 50) = W0 := ⟨_, rfl⟩
  have HW : Hid (Below w.heap.size w W0) := by rw [← hW0]; exact (Below.refl _ _).alloc (Nat.le_refl _) _
  have hBW : B < W0.heap.size := by rw [← hW0, ← hB]; simp
  have HS : Hid (WdS B l W0 W0) := by
    have h := heap_alloc_new w (.cells #[.int .i64 l.kind, .int .i64 l.gate, .int .i64 l.rank, .int .i64 l.id, .int .i64 l.sign, .bool l.over] 50)
    rw [hW0, hB] at h
    exact ⟨Lib.cell_of_heap h 1, Lib.cell_of_heap h 2, Lib.cell_of_heap h 3, Lib.cell_of_heap h 4, Lib.cell_of_heap h 5, Below.refl _ _⟩
  rw [hW0, hB]
  clear hW0
  go_region_held3 (fun w' => w'.cell? ⟨B, 1, none⟩ = some (.int .i64 l.gate) ∧ w'.cell? ⟨B, 2, none⟩ = some (.int .i64 l.rank) ∧ w'.cell? ⟨B, 3, none⟩ = some (.int .i64 l.id) ∧ w'.cell? ⟨B, 4, none⟩ = some (.int .i64 l.sign) ∧ w'.cell? ⟨B, 5, none⟩ = some (.bool l.over) ∧ Below W0.heap.size W0 w')
    (first
      | exact HS.out
      | exact HS.out.drew
      | exact WdS.go hBW (by assumption) hbw)
    (first
      | (go_at_call 66; refine (HT.out l.id hi _ ?hbx).mono ?_; (case hbx => exact HW.out.trans ((WdS.last (B := B) (l := l) (by assumption)).mono HW.out.size)); rintro e w2 ⟨rfl, hbw⟩)
      | (go_at_call 105; refine (HS1.out _).mono ?_; rintro e w2 ⟨rfl, hbw⟩)
      | (go_at_call 106; refine (HS2.out _).mono ?_; rintro e w2 ⟨rfl, hbw⟩))
  all_goals
    have hS : WdS B l W0 w2 := by assumption
    have HSS := Lib.hid hS.last
    clear hS
    go_wp2_with fail
    go_ret
    refine ⟨?_, HW.out.trans (HSS.out.mono HW.out.size)⟩
    rw [← str_app, ← str_app]; rfl

set_option maxHeartbeats 1000000 in
theorem word_none (l : Lt) (w : World) (h1 : l.kind ≠ 1) (h2 : l.kind ≠ 2) :
    Calls Tryd.prog 72 #[l.val] w fun e w' => e = .returned (.string ⟨(wordL l).toArray⟩) ∧ Below w.heap.size w w' := by
  unfold Lt.val
  have HE : Hid (wordL l = [63]) := by unfold Hid wordL; rw [if_neg h1, if_neg h2]
  rw [HE.out]
  have k1 : (l.kind == 1) = false := by rw [beq_eq_false_iff_ne]; omega
  have k1' : ((1 : Int) == l.kind) = false := by rw [beq_eq_false_iff_ne]; omega
  have k2 : (l.kind == 2) = false := by rw [beq_eq_false_iff_ne]; omega
  have k2' : ((2 : Int) == l.kind) = false := by rw [beq_eq_false_iff_ne]; omega
  clear h1 h2
  go_enter Tryd.func72, Tryd.ntmps72
  go_wp2_with fail
  go_ret
  exact ⟨rfl, by first | exact (Below.refl _ _).alloc (Nat.le_refl _) _ | exact below_drewN ((Below.refl _ _).alloc (Nat.le_refl _) _) _⟩

theorem word_calls (l : Lt) (w : World) (hT : ItoaAll w) (hl : LtI l) :
    Calls Tryd.prog 72 #[l.val] w fun e w' => e = .returned (.string ⟨(wordL l).toArray⟩) ∧ Below w.heap.size w w' := by
  by_cases h1 : l.kind = 1
  · exact word_pass l w hT hl h1
  · by_cases h2 : l.kind = 2
    · exact word_cross l w hT hl h2
    · exact word_none l w h1 h2

end Go.Proofs.YtbbpockkafbfmaaDoor
