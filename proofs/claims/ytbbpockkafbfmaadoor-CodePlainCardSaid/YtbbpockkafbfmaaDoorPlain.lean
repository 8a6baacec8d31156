/-
  The walk of the map's method plain.
-/
import Derived.Test.YtbbpockkafbfmaaDoorDia
namespace Go.Proofs.YtbbpockkafbfmaaDoor
open Go.RowKit

/-- A letter is well formed by itself. -/
def plainL (f : Int) (l : Lt) : Prop :=
  (l.kind = 1 ∧ l.id = 0 ∧ l.sign = 0 ∧ l.over = false ∧ 0 ≤ l.gate ∧ l.gate ≤ f) ∨ (l.kind = 2 ∧ l.gate = 0 ∧ l.rank = 0 ∧ (l.sign = 1 ∨ l.sign = -1))
theorem plain_cases (f : Int) (l : Lt) : (l.kind = 1 ∧ l.id = 0 ∧ l.sign = 0 ∧ l.over = false ∧ 0 ≤ l.gate ∧ l.gate ≤ f) ∨ (l.kind = 1 ∧ ¬ l.id = 0) ∨ (l.kind = 1 ∧ l.id = 0 ∧ ¬ l.sign = 0) ∨ (l.kind = 1 ∧ l.id = 0 ∧ l.sign = 0 ∧ l.over = true) ∨ (l.kind = 1 ∧ l.id = 0 ∧ l.sign = 0 ∧ l.over = false ∧ l.gate < 0) ∨ (l.kind = 1 ∧ l.id = 0 ∧ l.sign = 0 ∧ l.over = false ∧ 0 ≤ l.gate ∧ f < l.gate) ∨ (l.kind = 2 ∧ ¬ l.gate = 0) ∨ (l.kind = 2 ∧ l.gate = 0 ∧ ¬ l.rank = 0) ∨ (l.kind = 2 ∧ l.gate = 0 ∧ l.rank = 0 ∧ l.sign = 1) ∨ (l.kind = 2 ∧ l.gate = 0 ∧ l.rank = 0 ∧ l.sign = -1) ∨ (l.kind = 2 ∧ l.gate = 0 ∧ l.rank = 0 ∧ ¬ l.sign = 1 ∧ ¬ l.sign = -1) ∨ (¬ l.kind = 1 ∧ ¬ l.kind = 2) := by
  by_cases h1 : l.kind = 1
  · by_cases h2 : l.id = 0
    · by_cases h3 : l.sign = 0
      · by_cases h4 : l.over = true
        · simp [h1, h2, h3, h4]
        · have h5 : l.over = false := by simpa using h4
          have h6 : (0 ≤ l.gate ∧ l.gate ≤ f) ∨ l.gate < 0 ∨ (0 ≤ l.gate ∧ f < l.gate) := by omega
          rcases h6 with h6 | h6 | h6 <;> simp [h1, h2, h3, h5, h6]
      · simp [h1, h2, h3]
    · simp [h1, h2]
  · by_cases h2 : l.kind = 2
    · by_cases h3 : l.gate = 0
      · by_cases h4 : l.rank = 0
        · by_cases h5 : l.sign = 1
          · simp [h2, h3, h4, h5]
          · by_cases h6 : l.sign = -1
            · simp [h2, h3, h4, h6]
            · simp [h2, h3, h4, h5, h6]
        · simp [h2, h3, h4]
      · simp [h2, h3]
    · simp [h1, h2]

def PlainPost (f : Int) (ls : List Lt) (w : World) (e : Ending) (w' : World) : Prop := ∃ b, e = .returned (.bool b) ∧ (b = true ↔ ∀ l, l ∈ ls → plainL f l) ∧ Below w.heap.size w w'
theorem PlainPost.yes {f : Int} {ls : List Lt} {w w' : World} (h : ∀ l, l ∈ ls → plainL f l) (hb : Below w.heap.size w w') : PlainPost f ls w (.returned (.bool true)) w' := ⟨true, rfl, ⟨fun _ => h, fun _ => rfl⟩, hb⟩
theorem PlainPost.no {f : Int} {ls : List Lt} {l : Lt} {w w' : World} (hm : l ∈ ls) (h : ¬ plainL f l) (hb : Below w.heap.size w w') : PlainPost f ls w (.returned (.bool false)) w' :=
  ⟨false, rfl, ⟨fun c => absurd c (by decide), fun c => absurd (c l hm) h⟩, hb⟩
theorem lt_made (w : World) (k g r i s : Int) (o : Bool) (T : TypeId) : w.heap.size < (w.alloc (.cells #[.int .i64 k, .int .i64 g, .int .i64 r, .int .i64 i, .int .i64 s, .bool o] T)).heap.size ∧
    LtAt (w.alloc (.cells #[.int .i64 k, .int .i64 g, .int .i64 r, .int .i64 i, .int .i64 s, .bool o] T)) w.heap.size 0 ⟨k, g, r, i, s, o⟩ := by
  have h := heap_alloc_new w (.cells #[.int .i64 k, .int .i64 g, .int .i64 r, .int .i64 i, .int .i64 s, .bool o] T)
  exact ⟨by simp, Lib.cell_of_heap h 0, Lib.cell_of_heap h 1, Lib.cell_of_heap h 2, Lib.cell_of_heap h 3, Lib.cell_of_heap h 4, Lib.cell_of_heap h 5⟩
theorem LtAt.below {w w' : World} {b o : Nat} {l : Lt} (h : LtAt w b o l) (hlt : b < w.heap.size) (hb : Below w.heap.size w w') : LtAt w' b o l := by
  obtain ⟨c0, c1, c2, c3, c4, c5⟩ := h
  have e : ∀ o, w'.cell? ⟨b, o, none⟩ = w.cell? ⟨b, o, none⟩ := fun o => hb.cell (p := ⟨b, o, none⟩) hlt
  exact ⟨(e _).trans c0, (e _).trans c1, (e _).trans c2, (e _).trans c3, (e _).trans c4, (e _).trans c5⟩
/-- Three letters laid one after the other. -/
theorem three_made (wr : World) (k g r i s k1 g1 r1 i1 s1 k2 g2 r2 i2 s2 : Int) (o o1 o2 : Bool) (T : TypeId) : ∃ W1, W1 = ((wr.alloc (.cells #[.int .i64 k, .int .i64 g, .int .i64 r, .int .i64 i, .int .i64 s, .bool o] T)).alloc (.cells #[.int .i64 k1, .int .i64 g1, .int .i64 r1, .int .i64 i1, .int .i64 s1, .bool o1] T)).alloc (.cells #[.int .i64 k2, .int .i64 g2, .int .i64 r2, .int .i64 i2, .int .i64 s2, .bool o2] T) ∧
    Below wr.heap.size wr W1 ∧ LtAt W1 wr.heap.size 0 ⟨k, g, r, i, s, o⟩ ∧ LtAt W1 (wr.heap.size + 1) 0 ⟨k1, g1, r1, i1, s1, o1⟩ ∧ LtAt W1 (wr.heap.size + 1 + 1) 0 ⟨k2, g2, r2, i2, s2, o2⟩ := by
  obtain ⟨a0, a1⟩ := lt_made wr k g r i s o T
  obtain ⟨wa, hwa⟩ : ∃ wa, wa = wr.alloc (.cells #[.int .i64 k, .int .i64 g, .int .i64 r, .int .i64 i, .int .i64 s, .bool o] T) := ⟨_, rfl⟩
  have sa : wa.heap.size = wr.heap.size + 1 := by rw [hwa, World.size_alloc]
  have ba : Below wr.heap.size wr wa := by rw [hwa]; exact (Below.refl _ _).alloc (Nat.le_refl _) _
  rw [← hwa] at a0 a1
  obtain ⟨b0, b1⟩ := lt_made wa k1 g1 r1 i1 s1 o1 T
  obtain ⟨wb, hwb⟩ : ∃ wb, wb = wa.alloc (.cells #[.int .i64 k1, .int .i64 g1, .int .i64 r1, .int .i64 i1, .int .i64 s1, .bool o1] T) := ⟨_, rfl⟩
  have sb : wb.heap.size = wa.heap.size + 1 := by rw [hwb, World.size_alloc]
  have bb : Below wa.heap.size wa wb := by rw [hwb]; exact (Below.refl _ _).alloc (Nat.le_refl _) _
  rw [← hwb] at b0 b1
  obtain ⟨c0, c1⟩ := lt_made wb k2 g2 r2 i2 s2 o2 T
  have bc : Below wb.heap.size wb (wb.alloc (.cells #[.int .i64 k2, .int .i64 g2, .int .i64 r2, .int .i64 i2, .int .i64 s2, .bool o2] T)) := (Below.refl _ _).alloc (Nat.le_refl _) _
  refine ⟨_, rfl, ?_, ?_, ?_, ?_⟩
  · rw [← hwa, ← hwb]
    exact ba.trans ((bb.trans (bc.mono (by omega))).mono (by omega))
  · rw [← hwa, ← hwb]
    exact (a1.below (by omega) bb).below (by omega) bc
  · rw [← hwa, ← hwb, ← sa]
    exact b1.below (by omega) bc
  · rw [← hwa, ← hwb, show wr.heap.size + 1 + 1 = wb.heap.size by omega]
    exact c1

def PlainRel (f : Int) (ls : List Lt) (n : Nat) (w : World) (i : Value) (wr : World) : Prop := ∃ j : Nat, j ≤ n ∧ i = .int .i64 j ∧ (∀ k l, k < j → ls[k]? = some l → plainL f l) ∧ Below w.heap.size w wr

set_option maxHeartbeats 4000000 in
set_option maxRecDepth 100000 in
theorem plain_calls (P : Nat) (f : Int) (A : Option Addr) (n c : Nat) (ls : List Lt) (vA vX vS vO : Value) (w : World) (h : Dia w P f (.slice A n c) vA vX vS vO) (hL : LS w A n ls) (hn : n ≤ 1000000) :
    Calls Tryd.prog 79 #[.pointer (some ⟨P, 0, none⟩)] w (PlainPost f ls w) := by
  have HD := Lib.hid h
  have HLS := Lib.hid hL
  have HL := Lib.hid hL.1
  obtain ⟨hP, p0, p1, p2, p3, p4, p5⟩ := h
  go_enter Tryd.func79, Tryd.ntmps79
  go_wp2_with fail
  clear hP p0 p1 p2 p3 p4 p5
  go_loopw [15] (fun i wr => PlainRel f ls n w i wr) (fun i _ => n - (intOf i).toNat)
  case atStart => exact ⟨0, Nat.zero_le _, rfl, fun k l hk => by omega, Below.refl _ _⟩
  case round =>
    obtain ⟨j, hj, rfl, hall, hb⟩ := hrel
    have HB := Lib.hid hb
    have HALL := Lib.hid hall
    clear hall
    by_cases hlt : j < n
    · obtain ⟨b, off, l, rfl, hbl, hl, c0, c1, c2, c3, c4, c5⟩ := (HLS.out.below hb).at_ hlt
      have hj1 : (j : Int) < n := by omega
      have HLL := Lib.hid hl
      clear hl hb
      go_wp2_with fail
      obtain ⟨W1, hW1, hbw, t1, t2, t3⟩ := three_made wr l.kind l.gate l.rank l.id l.sign 1 l.gate l.rank 0 0 2 0 0 l.id l.sign l.over false l.over 50
      have HB1 := Lib.hid (HB.out.trans (hbw.mono HB.out.size))
      obtain ⟨hP, p0, p1, p2, p3, p4, p5⟩ := HD.out.below HB1.out
      rw [← hW1]
      obtain ⟨L0, hL0⟩ : ∃ L0, L0 = wr.heap.size := ⟨_, rfl⟩
      obtain ⟨L1, hL1⟩ : ∃ L1, L1 = wr.heap.size + 1 := ⟨_, rfl⟩
      obtain ⟨L2, hL2⟩ : ∃ L2, L2 = wr.heap.size + 1 + 1 := ⟨_, rfl⟩
      rw [← hL2, ← hL1, ← hL0]
      rw [← hL2] at t3
      rw [← hL1] at t2
      rw [← hL0] at t1
      obtain ⟨x0, x1, x2, x3, x4, x5⟩ := t1
      obtain ⟨y0, y1, y2, y3, y4, y5⟩ := t2
      obtain ⟨z0, z1, z2, z3, z4, z5⟩ := t3
      simp only [Nat.zero_add] at x0 x1 x2 x3 x4 x5 y0 y1 y2 y3 y4 y5 z0 z1 z2 z3 z4 z5
      clear hW1 hL0 hL1 hL2 hbw c0 c1 c2 c3 c4 c5
      have HPC := Lib.hid (plain_cases f l)
      rcases HPC.out with ⟨q1, q2, q3, q4, q5, q6⟩ | ⟨q1, q2⟩ | ⟨q1, q2, q3⟩ | ⟨q1, q2, q3, q4⟩ | ⟨q1, q2, q3, q4, q5⟩ | ⟨q1, q2, q3, q4, q5, q6⟩ | ⟨q1, q2⟩ | ⟨q1, q2, q3⟩ | ⟨q1, q2, q3, q4⟩ | ⟨q1, q2, q3, q4⟩ | ⟨q1, q2, q3, q4, q5⟩ | ⟨q1, q2⟩
      · have HP : Hid (plainL f l) := .inl ⟨q1, q2, q3, q4, q5, q6⟩
        clear HPC
        go_quiet (fail)
        go_wp2_with fail
        go_roundw
        case rel => exact ⟨j + 1, by omega, by rw [Int.natCast_add]; rfl, fun k l2 hk hl2 => by
          by_cases e : k = j
          · subst e; rw [HLL.out] at hl2; injection hl2 with hl2; rw [← hl2]; exact HP.out
          · exact HALL.out k l2 (by omega) hl2, by first | exact below_drewN HB1.out _ | exact HB1.out⟩
        case measure => simp [intOf]; omega
      · have HP : Hid (¬ plainL f l) := by
          rintro (⟨r1, r2, r3, r4, r5, r6⟩ | ⟨r1, r2, r3, r4⟩)
          all_goals first | omega | (simp_all; done) | (rcases r4 with r4 | r4 <;> first | omega | (simp_all; done))
        clear HPC
        go_quiet (fail)
        go_wp2_with fail
        go_ret
        exact PlainPost.no (List.mem_of_getElem? HLL.out) HP.out (by first | exact below_drewN HB1.out _ | exact HB1.out)
      · have HP : Hid (¬ plainL f l) := by
          rintro (⟨r1, r2, r3, r4, r5, r6⟩ | ⟨r1, r2, r3, r4⟩)
          all_goals first | omega | (simp_all; done) | (rcases r4 with r4 | r4 <;> first | omega | (simp_all; done))
        have s2 : (l.sign == 0) = false := by rw [beq_eq_false_iff_ne]; exact q3
        clear HPC
        go_quiet (fail)
        go_wp2_with fail
        go_ret
        exact PlainPost.no (List.mem_of_getElem? HLL.out) HP.out (by first | exact below_drewN HB1.out _ | exact HB1.out)
      · have HP : Hid (¬ plainL f l) := by
          rintro (⟨r1, r2, r3, r4, r5, r6⟩ | ⟨r1, r2, r3, r4⟩)
          all_goals first | omega | (simp_all; done) | (rcases r4 with r4 | r4 <;> first | omega | (simp_all; done))
        clear HPC
        go_quiet (fail)
        go_wp2_with fail
        go_ret
        exact PlainPost.no (List.mem_of_getElem? HLL.out) HP.out (by first | exact below_drewN HB1.out _ | exact HB1.out)
      · have HP : Hid (¬ plainL f l) := by
          rintro (⟨r1, r2, r3, r4, r5, r6⟩ | ⟨r1, r2, r3, r4⟩)
          all_goals first | omega | (simp_all; done) | (rcases r4 with r4 | r4 <;> first | omega | (simp_all; done))
        have d1 : decide (0 ≤ l.gate) = false := by rw [decide_eq_false_iff_not]; omega
        clear HPC
        go_quiet (fail)
        go_wp2_with fail
        go_ret
        exact PlainPost.no (List.mem_of_getElem? HLL.out) HP.out (by first | exact below_drewN HB1.out _ | exact HB1.out)
      · have HP : Hid (¬ plainL f l) := by
          rintro (⟨r1, r2, r3, r4, r5, r6⟩ | ⟨r1, r2, r3, r4⟩)
          all_goals first | omega | (simp_all; done) | (rcases r4 with r4 | r4 <;> first | omega | (simp_all; done))
        have d2 : decide (l.gate ≤ f) = false := by rw [decide_eq_false_iff_not]; omega
        clear HPC
        go_quiet (fail)
        go_wp2_with fail
        go_ret
        exact PlainPost.no (List.mem_of_getElem? HLL.out) HP.out (by first | exact below_drewN HB1.out _ | exact HB1.out)
      · have HP : Hid (¬ plainL f l) := by
          rintro (⟨r1, r2, r3, r4, r5, r6⟩ | ⟨r1, r2, r3, r4⟩)
          all_goals first | omega | (simp_all; done) | (rcases r4 with r4 | r4 <;> first | omega | (simp_all; done))
        clear HPC
        go_quiet (fail)
        go_wp2_with fail
        go_ret
        exact PlainPost.no (List.mem_of_getElem? HLL.out) HP.out (by first | exact below_drewN HB1.out _ | exact HB1.out)
      · have HP : Hid (¬ plainL f l) := by
          rintro (⟨r1, r2, r3, r4, r5, r6⟩ | ⟨r1, r2, r3, r4⟩)
          all_goals first | omega | (simp_all; done) | (rcases r4 with r4 | r4 <;> first | omega | (simp_all; done))
        clear HPC
        go_quiet (fail)
        go_wp2_with fail
        go_ret
        exact PlainPost.no (List.mem_of_getElem? HLL.out) HP.out (by first | exact below_drewN HB1.out _ | exact HB1.out)
      · have HP : Hid (plainL f l) := .inr ⟨q1, q2, q3, .inl q4⟩
        clear HPC
        go_quiet (fail)
        go_wp2_with fail
        go_roundw
        case rel => exact ⟨j + 1, by omega, by rw [Int.natCast_add]; rfl, fun k l2 hk hl2 => by
          by_cases e : k = j
          · subst e; rw [HLL.out] at hl2; injection hl2 with hl2; rw [← hl2]; exact HP.out
          · exact HALL.out k l2 (by omega) hl2, by first | exact below_drewN HB1.out _ | exact HB1.out⟩
        case measure => simp [intOf]; omega
      · have HP : Hid (plainL f l) := .inr ⟨q1, q2, q3, .inr q4⟩
        clear HPC
        go_quiet (fail)
        go_wp2_with fail
        go_roundw
        case rel => exact ⟨j + 1, by omega, by rw [Int.natCast_add]; rfl, fun k l2 hk hl2 => by
          by_cases e : k = j
          · subst e; rw [HLL.out] at hl2; injection hl2 with hl2; rw [← hl2]; exact HP.out
          · exact HALL.out k l2 (by omega) hl2, by first | exact below_drewN HB1.out _ | exact HB1.out⟩
        case measure => simp [intOf]; omega
      · have HP : Hid (¬ plainL f l) := by
          rintro (⟨r1, r2, r3, r4, r5, r6⟩ | ⟨r1, r2, r3, r4⟩)
          all_goals first | omega | (simp_all; done) | (rcases r4 with r4 | r4 <;> first | omega | (simp_all; done))
        have s3 : (l.sign == 1) = false := by rw [beq_eq_false_iff_ne]; exact q4
        have s4 : (l.sign == -1) = false := by rw [beq_eq_false_iff_ne]; exact q5
        clear HPC
        go_quiet (fail)
        go_wp2_with fail
        go_ret
        exact PlainPost.no (List.mem_of_getElem? HLL.out) HP.out (by first | exact below_drewN HB1.out _ | exact HB1.out)
      · have HP : Hid (¬ plainL f l) := by
          rintro (⟨r1, r2, r3, r4, r5, r6⟩ | ⟨r1, r2, r3, r4⟩)
          all_goals first | omega | (simp_all; done) | (rcases r4 with r4 | r4 <;> first | omega | (simp_all; done))
        clear HPC
        go_quiet (fail)
        go_wp2_with fail
        go_ret
        exact PlainPost.no (List.mem_of_getElem? HLL.out) HP.out (by first | exact below_drewN HB1.out _ | exact HB1.out)
    · obtain rfl : j = n := by omega
      go_wp2_with fail
      go_ret
      exact PlainPost.yes (fun l hm => by
        obtain ⟨k, hk, rfl⟩ := List.getElem_of_mem hm
        exact HALL.out k _ (by rw [← HL.out]; exact hk) (List.getElem?_eq_getElem hk)) HB.out

end Go.Proofs.YtbbpockkafbfmaaDoor
