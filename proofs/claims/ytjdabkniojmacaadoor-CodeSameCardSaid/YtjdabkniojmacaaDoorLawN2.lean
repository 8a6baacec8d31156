/-
  SameP LawN2, one after the other.
-/
import Derived.Test.YtjdabkniojmacaaDoorNormP
import Derived.Test.YtjdabkniojmacaaDoorLet4
import Derived.Test.YtjdabkniojmacaaDoorRefO
import Derived.Test.YtjdabkniojmacaaDoorLawN1

/-
  The walks of Same, the program's and the reference's.
-/
namespace Go.Proofs.YtjdabkniojmacaaDoor
open Go.RowKit

def SEqPost (ls ms : List Lt) (w : World) (e : Ending) (w' : World) : Prop := ∃ b, e = .returned (.bool b) ∧ (b = true ↔ ls = ms) ∧ Below w.heap.size w w'
theorem SEqPost.yes {ls ms : List Lt} {w w' : World} (h : ls = ms) (hb : Below w.heap.size w w') : SEqPost ls ms w (.returned (.bool true)) w' := ⟨true, rfl, ⟨fun _ => h, fun _ => rfl⟩, hb⟩
theorem SEqPost.no {ls ms : List Lt} {w w' : World} (h : ¬ ls = ms) (hb : Below w.heap.size w w') : SEqPost ls ms w (.returned (.bool false)) w' := ⟨false, rfl, ⟨fun c => absurd c (by decide), fun c => absurd c h⟩, hb⟩

set_option maxHeartbeats 4000000 in
set_option maxRecDepth 100000 in
theorem sliceEq_calls (A1 A2 : Option Addr) (n m c1 c2 : Nat) (ls ms : List Lt) (w : World) (h1 : LS w A1 n ls) (h2 : LS w A2 m ms) (hn : n ≤ 1000000) :
    Calls Tryd.prog 71 #[.slice A1 n c1, .slice A2 m c2] w (SEqPost ls ms w) := by
  have HL1 := Lib.hid h1.1
  have HL2 := Lib.hid h2.1
  by_cases hnm : n = m
  · subst hnm
    go_enter Tryd.func71, Tryd.ntmps71
    go_wp2_with fail
    go_loopw [13] (fun i wr => EqRel ls ms n w i wr) (fun i _ => n - (intOf i).toNat)
    case atStart => exact ⟨0, 0, Nat.zero_le _, rfl, fun k hk => by omega, rfl⟩
    case round =>
      obtain ⟨j, q, hj, rfl, hall, rfl⟩ := hrel
      have HALL := Lib.hid hall
      clear hall
      by_cases hlt : j < n
      · obtain ⟨b, off, l, rfl, hbl, hl, c0, c1, c2, c3, c4, c5⟩ := h1.at_ hlt
        obtain ⟨b', off', l', rfl, hbl', hl', d0, d1, d2, d3, d4, d5⟩ := h2.at_ hlt
        have hj1 : (j : Int) < n := by omega
        have HLL := Lib.hid hl
        have HLM := Lib.hid hl'
        clear hl hl'
        by_cases he : l = l'
        · subst he
          go_wp2_with fail
          go_quiet (fail)
          go_wp2_with fail
          go_roundw
          case rel => exact ⟨j + 1, _, by omega, by rw [Int.natCast_add]; rfl, fun k hk => by
            by_cases e : k = j
            · subst e; rw [HLL.out, HLM.out]
            · exact HALL.out k (by omega), rfl⟩
          case measure => simp [intOf]; omega
        · have HNO : Hid (¬ ls = ms) := fun c => he (by
            have h1 := HLL.out
            rw [c, HLM.out] at h1
            injection h1 with h1
            exact h1.symm)
          rcases Lt.ne_cases he with e | ⟨e1, e⟩ | ⟨e1, e2, e⟩ | ⟨e1, e2, e3, e⟩ | ⟨e1, e2, e3, e4, e⟩ | ⟨e1, e2, e3, e4, e5, e⟩
          all_goals
            clear he
            go_wp2_with fail
            go_quiet (fail)
            go_wp2_with fail
            go_ret
            exact SEqPost.no HNO.out (by first | exact below_drewN (Below.refl _ _) _ | exact below_drewN (below_drewN (Below.refl _ _) _) _)
      · obtain rfl : j = n := by omega
        go_wp2_with fail
        go_ret
        refine SEqPost.yes ?_ (below_drewN (Below.refl _ _) _)
        apply List.ext_getElem?
        intro k
        rcases Nat.lt_or_ge k j with c | c
        · exact HALL.out k c
        · rw [List.getElem?_eq_none (by rw [HL1.out]; exact c), List.getElem?_eq_none (by rw [HL2.out]; exact c)]
  · have hbe : ((n : Int) != (m : Int)) = true := by rw [bne_iff_ne]; omega
    have HNO : Hid (¬ ls = ms) := fun c => hnm (by rw [← HL1.out, ← HL2.out, c])
    clear hnm
    go_enter Tryd.func71, Tryd.ntmps71
    go_wp2_with fail
    go_ret
    exact SEqPost.no HNO.out (Below.refl _ _)

/-- Whether two codes are the same, without an error. -/
def SamePost (f1 f2 : Int) (L1 L2 : List Lt) (w : World) (e : Ending) (w' : World) : Prop := ∃ b, e = .returned (.tuple #[.bool b, .int .i64 0]) ∧ (b = true ↔ f1 = f2 ∧ L1 = L2) ∧ Below w.heap.size w w'
theorem SamePost.yes {f1 f2 : Int} {L1 L2 : List Lt} {w w' : World} {b : Bool} (h : b = true ↔ f1 = f2 ∧ L1 = L2) (hb : Below w.heap.size w w') : SamePost f1 f2 L1 L2 w (.returned (.tuple #[.bool b, .int .i64 0])) w' := ⟨b, rfl, h, hb⟩

set_option maxHeartbeats 4000000 in
theorem same_ok (f1 f2 : Int) (A1 A2 : Option Addr) (n m c1 c2 : Nat) (L1 L2 : List Lt) (w : World) (hn : n ≤ 1000) (hl1 : L1.length = n) (hl2 : L2.length = m)
    (h1 : ∀ W, Below w.heap.size w W → Calls Tryd.prog 22 #[.agg #[.int .i64 f1, .slice A1 n c1]] W (OkN f1 n L1 W))
    (h2 : ∀ W, Below w.heap.size w W → Calls Tryd.prog 22 #[.agg #[.int .i64 f2, .slice A2 m c2]] W (OkN f2 m L2 W)) :
    Calls Tryd.prog 27 #[.agg #[.int .i64 f1, .slice A1 n c1], .agg #[.int .i64 f2, .slice A2 m c2]] w (SamePost f1 f2 L1 L2 w) := by
  have H1 := Lib.hid h1
  have H2 := Lib.hid h2
  have HN1 := Lib.hid hl1
  have HN2 := Lib.hid hl2
  clear h1 h2 hl1 hl2
  go_enter Tryd.func27, Tryd.ntmps27
  go_wp2_with fail
  obtain ⟨W0, hW0⟩ : ∃ W0, W0 = (w.alloc (.cells #[.int .i64 f1, .slice A1 n c1] 24)).alloc (.cells #[.int .i64 f2, .slice A2 m c2] 24) := ⟨_, rfl⟩
  have HF0 := Lib.hid (two_mem w _ _ W0 hW0)
  rw [← hW0]
  clear hW0
  refine (H1.out _ HF0.out.2.2.2).mono ?_
  rintro e w1 ⟨B1, d1, rfl, ho, hb1⟩
  obtain ⟨X1, hX1⟩ : ∃ X, X = w1.heap.size := ⟨_, rfl⟩
  obtain ⟨V1, hV1⟩ : ∃ V, V = w1.alloc (.cells #[.int .i64 f1, .slice B1 n d1] 24) := ⟨_, rfl⟩
  have hbv : Below w1.heap.size w1 V1 := by rw [hV1]; exact (Below.refl _ _).alloc (Nat.le_refl _) _
  have HM1 := Lib.hid (two_next (two_next HF0.out hb1) hbv)
  have HX1 : Hid (V1.heap[X1]? = some (.cells #[.int .i64 f1, .slice B1 n d1] 24 (0, 0))) := by rw [hV1, hX1]; exact heap_alloc_new w1 _
  have HL1 : Hid (LS V1 B1 n L1) := (OkN.ls ho HN1.out).below hbv
  have HV1 := Lib.hid hV1
  have HXE := Lib.hid hX1
  have a0 := Lib.cell_of_heap HM1.out.2.1 0
  have a1 := Lib.cell_of_heap HM1.out.2.1 1
  rw [hV1] at a0 a1
  clear hb1 hbv ho hV1 hX1
  go_wp2_with fail
  rw [← HXE.out, ← HV1.out]
  refine (H2.out _ HM1.out.2.2.2).mono ?_
  rintro e w2 ⟨B2, d2, rfl, ho, hb2⟩
  obtain ⟨X2, hX2⟩ : ∃ X, X = w2.heap.size := ⟨_, rfl⟩
  obtain ⟨V2, hV2⟩ : ∃ V, V = w2.alloc (.cells #[.int .i64 f2, .slice B2 m d2] 24) := ⟨_, rfl⟩
  have hbv : Below w2.heap.size w2 V2 := by rw [hV2]; exact (Below.refl _ _).alloc (Nat.le_refl _) _
  have hb12 : Below V1.heap.size V1 V2 := hb2.trans (hbv.mono hb2.size)
  have HB2 : Hid (Below w.heap.size w V2) := HM1.out.2.2.2.trans (hb12.mono HM1.out.2.2.2.size)
  have hx1 := (hb12.block X1 (heap_lt HX1.out)).trans HX1.out
  have hx2 : V2.heap[X2]? = some (.cells #[.int .i64 f2, .slice B2 m d2] 24 (0, 0)) := by rw [hV2, hX2]; exact heap_alloc_new w2 _
  have HLA : Hid (LS V2 B1 n L1) := HL1.out.below hb12
  have HLB : Hid (LS V2 B2 m L2) := (OkN.ls ho HN2.out).below hbv
  have HV2 := Lib.hid hV2
  have HXE2 := Lib.hid hX2
  clear a0 a1
  have a0 := Lib.cell_of_heap hx1 0
  have a1 := Lib.cell_of_heap hx1 1
  have b0 := Lib.cell_of_heap hx2 0
  have b1 := Lib.cell_of_heap hx2 1
  rw [hV2] at a0 a1
  clear hb2 hbv ho hb12 hx1 hx2 hV2 hX2
  by_cases hf : f1 = f2
  · have hfe : (f1 == f2) = true := by rw [beq_iff_eq]; exact hf
    have HF := Lib.hid hf
    clear hf
    go_wp2_with fail
    rw [← HXE2.out, ← HV2.out]
    refine (sliceEq_calls B1 B2 n m d1 d2 L1 L2 V2 HLA.out HLB.out (by omega)).mono ?_
    rintro e w3 ⟨bb, rfl, hbb, hb3⟩
    have HB3 : Hid (Below w.heap.size w w3) := HB2.out.trans (hb3.mono HB2.out.size)
    have HBB := Lib.hid hbb
    clear hb3 hbb
    go_wp2_with fail
    go_ret2
    exact SamePost.yes (HBB.out.trans ⟨fun h => ⟨HF.out, h⟩, fun h => h.2⟩) HB3.out
  · have hfe : (f1 == f2) = false := by rw [beq_eq_false_iff_ne]; exact hf
    have HF := Lib.hid hf
    clear hf
    go_wp2_with fail
    rw [← HXE2.out, ← HV2.out]
    go_ret2
    exact SamePost.yes ⟨fun h => absurd h (by decide), fun h => absurd h.1 HF.out⟩ HB2.out

/-- Two codes in their variables. -/
def TwS (P Q : Nat) (f1 f2 : Int) (v1 v2 : Value) (V w' : World) : Prop :=
  w'.cell? ⟨P, 0, none⟩ = some (.int .i64 f1) ∧ w'.cell? ⟨P, 1, none⟩ = some v1 ∧ w'.cell? ⟨Q, 0, none⟩ = some (.int .i64 f2) ∧ w'.cell? ⟨Q, 1, none⟩ = some v2 ∧ Below V.heap.size V w'
theorem TwS.last {P Q : Nat} {f1 f2 : Int} {v1 v2 : Value} {V w' : World} (h : TwS P Q f1 f2 v1 v2 V w') : Below V.heap.size V w' := h.2.2.2.2
theorem TwS.of {P Q : Nat} {f1 f2 : Int} {v1 v2 : Value} {V w' : World} (h0 : V.heap[P]? = some (.cells #[.int .i64 f1, v1] 24 (0, 0))) (h1 : V.heap[Q]? = some (.cells #[.int .i64 f2, v2] 24 (0, 0))) (hb : Below V.heap.size V w') : TwS P Q f1 f2 v1 v2 V w' := by
  have e : ∀ q o, V.heap[q]? = some o → w'.heap[q]? = some o := fun q o hq => (hb.block q (heap_lt hq)).trans hq
  exact ⟨Lib.cell_of_heap (e _ _ h0) 0, Lib.cell_of_heap (e _ _ h0) 1, Lib.cell_of_heap (e _ _ h1) 0, Lib.cell_of_heap (e _ _ h1) 1, hb⟩

set_option maxHeartbeats 4000000 in
set_option maxRecDepth 100000 in
theorem refSame_calls (f1 f2 : Int) (A1 A2 : Option Addr) (n m c1 c2 : Nat) (L1 L2 : List Lt) (w : World) (hn : n ≤ 1000) (hl1 : L1.length = n) (hl2 : L2.length = m)
    (h1 : ∀ W, Below w.heap.size w W → Calls Tryd.prog 25 #[.agg #[.int .i64 f1, .slice A1 n c1]] W (OkC f1 n L1 W))
    (h2 : ∀ W, Below w.heap.size w W → Calls Tryd.prog 25 #[.agg #[.int .i64 f2, .slice A2 m c2]] W (OkC f2 m L2 W)) :
    Calls Tryd.prog 28 #[.agg #[.int .i64 f1, .slice A1 n c1], .agg #[.int .i64 f2, .slice A2 m c2]] w (EqPost f1 f2 L1 L2 w) := by
  have H1 := Lib.hid h1
  have H2 := Lib.hid h2
  have HN1 := Lib.hid hl1
  have HN2 := Lib.hid hl2
  have hn6 : n ≤ 1000000 := by omega
  clear h1 h2 hl1 hl2
  go_enter Tryd.func28, Tryd.ntmps28
  go_wp2_with fail
  obtain ⟨W0, hW0⟩ : ∃ W0, W0 = (w.alloc (.cells #[.int .i64 f1, .slice A1 n c1] 24)).alloc (.cells #[.int .i64 f2, .slice A2 m c2] 24) := ⟨_, rfl⟩
  have HF0 := Lib.hid (two_mem w _ _ W0 hW0)
  rw [← hW0]
  clear hW0
  obtain ⟨P, hP⟩ : ∃ P, P = w.heap.size := ⟨_, rfl⟩
  obtain ⟨Q, hQ⟩ : ∃ Q, Q = w.heap.size + 1 := ⟨_, rfl⟩
  have HKP : Hid (∀ w', Below W0.heap.size W0 w' → TwS P Q f1 f2 (.slice A1 n c1) (.slice A2 m c2) W0 w') := fun w' h => TwS.of (by rw [hP]; exact HF0.out.1) (by rw [hQ]; exact HF0.out.2.1) h
  have HBW : Hid (Below w.heap.size w W0) := HF0.out.2.2.2
  rw [← hQ, ← hP]
  clear hP hQ
  go_region_held3 (fun w' => w'.cell? ⟨P, 0, none⟩ = some (.int .i64 f1) ∧ w'.cell? ⟨P, 1, none⟩ = some (.slice A1 n c1) ∧ w'.cell? ⟨Q, 0, none⟩ = some (.int .i64 f2) ∧ w'.cell? ⟨Q, 1, none⟩ = some (.slice A2 m c2) ∧ Below W0.heap.size W0 w')
    (first
      | exact HKP.out _ (Below.refl _ _).drew
      | exact HKP.out _ ((TwS.last (P := P) (Q := Q) (f1 := f1) (f2 := f2) (v1 := .slice A1 n c1) (v2 := .slice A2 m c2) (V := W0) (by assumption)).trans (hbw.mono (TwS.last (P := P) (Q := Q) (f1 := f1) (f2 := f2) (v1 := .slice A1 n c1) (v2 := .slice A2 m c2) (V := W0) (by assumption)).size)))
    (first
      | (go_at_call 25; (with_reducible refine (H1.out _ ?hbx).mono ?_); (case hbx => exact HBW.out.trans ((TwS.last (P := P) (Q := Q) (f1 := f1) (f2 := f2) (v1 := .slice A1 n c1) (v2 := .slice A2 m c2) (V := W0) (by assumption)).mono HBW.out.size)); rintro e w2 ⟨A3, c3, rfl, hrow1, hbw⟩; have HE1 := Lib.hid (row_ls hrow1 HN1.out); clear hrow1)
      | (go_at_call 25; (with_reducible refine (H2.out _ ?hbx).mono ?_); (case hbx => exact HBW.out.trans ((TwS.last (P := P) (Q := Q) (f1 := f1) (f2 := f2) (v1 := .slice A1 n c1) (v2 := .slice A2 m c2) (V := W0) (by assumption)).mono HBW.out.size)); rintro e w3 ⟨A4, c4, rfl, hrow2, hbw⟩; have HE2 := Lib.hid (row_ls hrow2 HN2.out); have HE3 := Lib.hid (HE1.out.below hbw); clear hrow2)
      | (go_at_call 24; (with_reducible refine (codeEqual_calls f1 f2 A3 A4 n m c3 c4 L1 L2 _ HE3.out HE2.out hn6).mono ?_); rintro e w4 ⟨bb, rfl, hbb, hbw⟩; have HBB := Lib.hid hbb; clear hbb))
  have hS : TwS P Q f1 f2 (.slice A1 n c1) (.slice A2 m c2) W0 w4 := by assumption
  have HF : Hid (Below w.heap.size w w4) := HBW.out.trans (hS.last.mono HBW.out.size)
  clear hS
  go_wp2_with fail
  go_ret
  exact ⟨bb, rfl, HBB.out, HF.out⟩

end Go.Proofs.YtjdabkniojmacaaDoor

/-
  The walk of the law CodeSame.
-/
namespace Go.Proofs.YtjdabkniojmacaaDoor
open Go.RowKit

/-- Two codes in their variables, and what has happened since. -/
def TwH (P Q : Nat) (f1 f2 : Int) (v1 v2 : Value) (w W : World) : Prop :=
  W.heap[P]? = some (.cells #[.int .i64 f1, v1] 24 (0, 0)) ∧ W.heap[Q]? = some (.cells #[.int .i64 f2, v2] 24 (0, 0)) ∧ Below w.heap.size w W
theorem TwH.below {P Q : Nat} {f1 f2 : Int} {v1 v2 : Value} {w W W' : World} (h : TwH P Q f1 f2 v1 v2 w W) (hb : Below W.heap.size W W') : TwH P Q f1 f2 v1 v2 w W' :=
  ⟨(hb.block _ (heap_lt h.1)).trans h.1, (hb.block _ (heap_lt h.2.1)).trans h.2.1, h.2.2.trans (hb.mono h.2.2.size)⟩

set_option maxHeartbeats 8000000 in
set_option maxRecDepth 100000 in
theorem codeSame_b1 (f1 f2 : Int) (A1 A2 : Option Addr) (n m c1 c2 : Nat) (w : World) (hn : ¬ n ≤ 60) (hT : ItoaAll w) :
    Calls Tryd.prog 6 #[.agg #[.int .i64 f1, .slice A1 n c1], .agg #[.int .i64 f2, .slice A2 m c2]] w fun e w' => e = .returned (.bool true) ∧ Below w.heap.size w w' := by
  have HT := Lib.hid hT
  have HKN : Hid (∀ W, Below w.heap.size w W → Calls Tryd.prog 14 #[] W fun e w' => e = .returned (.bool true) ∧ Below W.heap.size W w') := fun W hW => known_calls W (HT.out.below hW)
  have t1 : decide ((n : Int) ≤ 60) = false := by rw [decide_eq_false_iff_not]; omega
  have HS1 := Lib.hid (fun W => small_calls f1 A1 n c1 false W t1)
  clear hT hn
  go_enter Tryd.func6, Tryd.ntmps6
  go_wp2_with fail
  obtain ⟨W0, hW0⟩ : ∃ W0, W0 = (w.alloc (.cells #[.int .i64 f1, .slice A1 n c1] 24)).alloc (.cells #[.int .i64 f2, .slice A2 m c2] 24) := ⟨_, rfl⟩
  have HF0 := Lib.hid (two_mem w _ _ W0 hW0)
  obtain ⟨P, hP⟩ : ∃ P, P = w.heap.size := ⟨_, rfl⟩
  obtain ⟨Q, hQ⟩ : ∃ Q, Q = w.heap.size + 1 := ⟨_, rfl⟩
  have HX0 : Hid (TwH P Q f1 f2 (.slice A1 n c1) (.slice A2 m c2) w W0) := ⟨by rw [hP]; exact HF0.out.1, by rw [hQ]; exact HF0.out.2.1, HF0.out.2.2.2⟩
  rw [← hW0, ← hQ, ← hP]
  clear hW0 hP hQ HF0
  have a0 := Lib.cell_of_heap HX0.out.1 0
  have a1 := Lib.cell_of_heap HX0.out.1 1
  have b0 := Lib.cell_of_heap HX0.out.2.1 0
  have b1 := Lib.cell_of_heap HX0.out.2.1 1
  try go_wp2_with fail
  refine (HS1.out _).mono ?_
  rintro e w1 ⟨rfl, hb⟩
  have HX1 := Lib.hid (HX0.out.below hb)
  clear hb HX0 a0 a1 b0 b1
  go_wp2_with fail
  refine (HKN.out _ HX1.out.2.2).mono ?_
  rintro e w9 ⟨rfl, hb⟩
  have HF : Hid (Below w.heap.size w w9) := HX1.out.2.2.trans (hb.mono HX1.out.2.2.size)
  clear hb
  go_wp2_with fail
  go_ret
  exact ⟨rfl, HF.out⟩

set_option maxHeartbeats 8000000 in
set_option maxRecDepth 100000 in
theorem codeSame_b2 (f1 f2 : Int) (A1 A2 : Option Addr) (n m c1 c2 : Nat) (w : World) (hn : n ≤ 60) (hm : ¬ m ≤ 60) (hT : ItoaAll w) :
    Calls Tryd.prog 6 #[.agg #[.int .i64 f1, .slice A1 n c1], .agg #[.int .i64 f2, .slice A2 m c2]] w fun e w' => e = .returned (.bool true) ∧ Below w.heap.size w w' := by
  have HT := Lib.hid hT
  have HKN : Hid (∀ W, Below w.heap.size w W → Calls Tryd.prog 14 #[] W fun e w' => e = .returned (.bool true) ∧ Below W.heap.size W w') := fun W hW => known_calls W (HT.out.below hW)
  have t1 : decide ((n : Int) ≤ 60) = true := by rw [decide_eq_true_iff]; omega
  have HS1 := Lib.hid (fun W => small_calls f1 A1 n c1 true W t1)
  have t2 : decide ((m : Int) ≤ 60) = false := by rw [decide_eq_false_iff_not]; omega
  have HS2 := Lib.hid (fun W => small_calls f2 A2 m c2 false W t2)
  clear hT hn hm
  go_enter Tryd.func6, Tryd.ntmps6
  go_wp2_with fail
  obtain ⟨W0, hW0⟩ : ∃ W0, W0 = (w.alloc (.cells #[.int .i64 f1, .slice A1 n c1] 24)).alloc (.cells #[.int .i64 f2, .slice A2 m c2] 24) := ⟨_, rfl⟩
  have HF0 := Lib.hid (two_mem w _ _ W0 hW0)
  obtain ⟨P, hP⟩ : ∃ P, P = w.heap.size := ⟨_, rfl⟩
  obtain ⟨Q, hQ⟩ : ∃ Q, Q = w.heap.size + 1 := ⟨_, rfl⟩
  have HX0 : Hid (TwH P Q f1 f2 (.slice A1 n c1) (.slice A2 m c2) w W0) := ⟨by rw [hP]; exact HF0.out.1, by rw [hQ]; exact HF0.out.2.1, HF0.out.2.2.2⟩
  rw [← hW0, ← hQ, ← hP]
  clear hW0 hP hQ HF0
  have a0 := Lib.cell_of_heap HX0.out.1 0
  have a1 := Lib.cell_of_heap HX0.out.1 1
  have b0 := Lib.cell_of_heap HX0.out.2.1 0
  have b1 := Lib.cell_of_heap HX0.out.2.1 1
  try go_wp2_with fail
  refine (HS1.out _).mono ?_
  rintro e w1 ⟨rfl, hb⟩
  have HX1 := Lib.hid (HX0.out.below hb)
  clear hb HX0 a0 a1 b0 b1
  have a0 := Lib.cell_of_heap HX1.out.1 0
  have a1 := Lib.cell_of_heap HX1.out.1 1
  have b0 := Lib.cell_of_heap HX1.out.2.1 0
  have b1 := Lib.cell_of_heap HX1.out.2.1 1
  try go_wp2_with fail
  refine (HS2.out _).mono ?_
  rintro e w2 ⟨rfl, hb⟩
  have HX2 := Lib.hid (HX1.out.below hb)
  clear hb HX1 a0 a1 b0 b1
  go_wp2_with fail
  refine (HKN.out _ HX2.out.2.2).mono ?_
  rintro e w9 ⟨rfl, hb⟩
  have HF : Hid (Below w.heap.size w w9) := HX2.out.2.2.trans (hb.mono HX2.out.2.2.size)
  clear hb
  go_wp2_with fail
  go_ret
  exact ⟨rfl, HF.out⟩

set_option maxHeartbeats 8000000 in
set_option maxRecDepth 100000 in
theorem codeSame_b3 (f1 f2 : Int) (A1 A2 : Option Addr) (n m c1 c2 : Nat) (w : World) (hn : n ≤ 60) (hm : m ≤ 60) (E1 : Int) (hz : E1 ≠ 0) (hR1 : ∀ W, Below w.heap.size w W → Calls Tryd.prog 13 #[.agg #[.int .i64 f1, .slice A1 n c1]] W fun e w' => e = .returned (.int .i64 E1) ∧ Below W.heap.size W w') (hT : ItoaAll w) :
    Calls Tryd.prog 6 #[.agg #[.int .i64 f1, .slice A1 n c1], .agg #[.int .i64 f2, .slice A2 m c2]] w fun e w' => e = .returned (.bool true) ∧ Below w.heap.size w w' := by
  have HT := Lib.hid hT
  have HKN : Hid (∀ W, Below w.heap.size w W → Calls Tryd.prog 14 #[] W fun e w' => e = .returned (.bool true) ∧ Below W.heap.size W w') := fun W hW => known_calls W (HT.out.below hW)
  have t1 : decide ((n : Int) ≤ 60) = true := by rw [decide_eq_true_iff]; omega
  have HS1 := Lib.hid (fun W => small_calls f1 A1 n c1 true W t1)
  have t2 : decide ((m : Int) ≤ 60) = true := by rw [decide_eq_true_iff]; omega
  have HS2 := Lib.hid (fun W => small_calls f2 A2 m c2 true W t2)
  have HR1 := Lib.hid hR1
  have hzb : (E1 != 0) = true := by rw [bne_iff_ne]; exact hz
  clear hT hn hm hR1 hz
  go_enter Tryd.func6, Tryd.ntmps6
  go_wp2_with fail
  obtain ⟨W0, hW0⟩ : ∃ W0, W0 = (w.alloc (.cells #[.int .i64 f1, .slice A1 n c1] 24)).alloc (.cells #[.int .i64 f2, .slice A2 m c2] 24) := ⟨_, rfl⟩
  have HF0 := Lib.hid (two_mem w _ _ W0 hW0)
  obtain ⟨P, hP⟩ : ∃ P, P = w.heap.size := ⟨_, rfl⟩
  obtain ⟨Q, hQ⟩ : ∃ Q, Q = w.heap.size + 1 := ⟨_, rfl⟩
  have HX0 : Hid (TwH P Q f1 f2 (.slice A1 n c1) (.slice A2 m c2) w W0) := ⟨by rw [hP]; exact HF0.out.1, by rw [hQ]; exact HF0.out.2.1, HF0.out.2.2.2⟩
  rw [← hW0, ← hQ, ← hP]
  clear hW0 hP hQ HF0
  have a0 := Lib.cell_of_heap HX0.out.1 0
  have a1 := Lib.cell_of_heap HX0.out.1 1
  have b0 := Lib.cell_of_heap HX0.out.2.1 0
  have b1 := Lib.cell_of_heap HX0.out.2.1 1
  try go_wp2_with fail
  refine (HS1.out _).mono ?_
  rintro e w1 ⟨rfl, hb⟩
  have HX1 := Lib.hid (HX0.out.below hb)
  clear hb HX0 a0 a1 b0 b1
  have a0 := Lib.cell_of_heap HX1.out.1 0
  have a1 := Lib.cell_of_heap HX1.out.1 1
  have b0 := Lib.cell_of_heap HX1.out.2.1 0
  have b1 := Lib.cell_of_heap HX1.out.2.1 1
  try go_wp2_with fail
  refine (HS2.out _).mono ?_
  rintro e w2 ⟨rfl, hb⟩
  have HX2 := Lib.hid (HX1.out.below hb)
  clear hb HX1 a0 a1 b0 b1
  have a0 := Lib.cell_of_heap HX2.out.1 0
  have a1 := Lib.cell_of_heap HX2.out.1 1
  have b0 := Lib.cell_of_heap HX2.out.2.1 0
  have b1 := Lib.cell_of_heap HX2.out.2.1 1
  try go_wp2_with fail
  refine (HR1.out _ HX2.out.2.2).mono ?_
  rintro e w3 ⟨rfl, hb⟩
  have HX3 := Lib.hid (HX2.out.below hb)
  clear hb HX2 a0 a1 b0 b1
  go_wp2_with fail
  refine (HKN.out _ HX3.out.2.2).mono ?_
  rintro e w9 ⟨rfl, hb⟩
  have HF : Hid (Below w.heap.size w w9) := HX3.out.2.2.trans (hb.mono HX3.out.2.2.size)
  clear hb
  go_wp2_with fail
  go_ret
  exact ⟨rfl, HF.out⟩

set_option maxHeartbeats 8000000 in
set_option maxRecDepth 100000 in
theorem codeSame_b4 (f1 f2 : Int) (A1 A2 : Option Addr) (n m c1 c2 : Nat) (w : World) (hn : n ≤ 60) (hm : m ≤ 60) (E2 : Int) (hz : E2 ≠ 0) (hR1 : ∀ W, Below w.heap.size w W → Calls Tryd.prog 13 #[.agg #[.int .i64 f1, .slice A1 n c1]] W fun e w' => e = .returned (.int .i64 0) ∧ Below W.heap.size W w') (hR2 : ∀ W, Below w.heap.size w W → Calls Tryd.prog 13 #[.agg #[.int .i64 f2, .slice A2 m c2]] W fun e w' => e = .returned (.int .i64 E2) ∧ Below W.heap.size W w') (hT : ItoaAll w) :
    Calls Tryd.prog 6 #[.agg #[.int .i64 f1, .slice A1 n c1], .agg #[.int .i64 f2, .slice A2 m c2]] w fun e w' => e = .returned (.bool true) ∧ Below w.heap.size w w' := by
  have HT := Lib.hid hT
  have HKN : Hid (∀ W, Below w.heap.size w W → Calls Tryd.prog 14 #[] W fun e w' => e = .returned (.bool true) ∧ Below W.heap.size W w') := fun W hW => known_calls W (HT.out.below hW)
  have t1 : decide ((n : Int) ≤ 60) = true := by rw [decide_eq_true_iff]; omega
  have HS1 := Lib.hid (fun W => small_calls f1 A1 n c1 true W t1)
  have t2 : decide ((m : Int) ≤ 60) = true := by rw [decide_eq_true_iff]; omega
  have HS2 := Lib.hid (fun W => small_calls f2 A2 m c2 true W t2)
  have HR1 := Lib.hid hR1
  have HR2 := Lib.hid hR2
  have hzb : (E2 != 0) = true := by rw [bne_iff_ne]; exact hz
  clear hT hn hm hR1 hR2 hz
  go_enter Tryd.func6, Tryd.ntmps6
  go_wp2_with fail
  obtain ⟨W0, hW0⟩ : ∃ W0, W0 = (w.alloc (.cells #[.int .i64 f1, .slice A1 n c1] 24)).alloc (.cells #[.int .i64 f2, .slice A2 m c2] 24) := ⟨_, rfl⟩
  have HF0 := Lib.hid (two_mem w _ _ W0 hW0)
  obtain ⟨P, hP⟩ : ∃ P, P = w.heap.size := ⟨_, rfl⟩
  obtain ⟨Q, hQ⟩ : ∃ Q, Q = w.heap.size + 1 := ⟨_, rfl⟩
  have HX0 : Hid (TwH P Q f1 f2 (.slice A1 n c1) (.slice A2 m c2) w W0) := ⟨by rw [hP]; exact HF0.out.1, by rw [hQ]; exact HF0.out.2.1, HF0.out.2.2.2⟩
  rw [← hW0, ← hQ, ← hP]
  clear hW0 hP hQ HF0
  have a0 := Lib.cell_of_heap HX0.out.1 0
  have a1 := Lib.cell_of_heap HX0.out.1 1
  have b0 := Lib.cell_of_heap HX0.out.2.1 0
  have b1 := Lib.cell_of_heap HX0.out.2.1 1
  try go_wp2_with fail
  refine (HS1.out _).mono ?_
  rintro e w1 ⟨rfl, hb⟩
  have HX1 := Lib.hid (HX0.out.below hb)
  clear hb HX0 a0 a1 b0 b1
  have a0 := Lib.cell_of_heap HX1.out.1 0
  have a1 := Lib.cell_of_heap HX1.out.1 1
  have b0 := Lib.cell_of_heap HX1.out.2.1 0
  have b1 := Lib.cell_of_heap HX1.out.2.1 1
  try go_wp2_with fail
  refine (HS2.out _).mono ?_
  rintro e w2 ⟨rfl, hb⟩
  have HX2 := Lib.hid (HX1.out.below hb)
  clear hb HX1 a0 a1 b0 b1
  have a0 := Lib.cell_of_heap HX2.out.1 0
  have a1 := Lib.cell_of_heap HX2.out.1 1
  have b0 := Lib.cell_of_heap HX2.out.2.1 0
  have b1 := Lib.cell_of_heap HX2.out.2.1 1
  try go_wp2_with fail
  refine (HR1.out _ HX2.out.2.2).mono ?_
  rintro e w3 ⟨rfl, hb⟩
  have HX3 := Lib.hid (HX2.out.below hb)
  clear hb HX2 a0 a1 b0 b1
  have a0 := Lib.cell_of_heap HX3.out.1 0
  have a1 := Lib.cell_of_heap HX3.out.1 1
  have b0 := Lib.cell_of_heap HX3.out.2.1 0
  have b1 := Lib.cell_of_heap HX3.out.2.1 1
  try go_wp2_with fail
  refine (HR2.out _ HX3.out.2.2).mono ?_
  rintro e w4 ⟨rfl, hb⟩
  have HX4 := Lib.hid (HX3.out.below hb)
  clear hb HX3 a0 a1 b0 b1
  go_wp2_with fail
  refine (HKN.out _ HX4.out.2.2).mono ?_
  rintro e w9 ⟨rfl, hb⟩
  have HF : Hid (Below w.heap.size w w9) := HX4.out.2.2.trans (hb.mono HX4.out.2.2.size)
  clear hb
  go_wp2_with fail
  go_ret
  exact ⟨rfl, HF.out⟩

set_option maxHeartbeats 8000000 in
set_option maxRecDepth 100000 in
theorem codeSame_main (f1 f2 : Int) (A1 A2 : Option Addr) (n m c1 c2 : Nat) (w : World) (L1 L2 : List Lt) (hn : n ≤ 60) (hm : m ≤ 60) (hR1 : ∀ W, Below w.heap.size w W → Calls Tryd.prog 13 #[.agg #[.int .i64 f1, .slice A1 n c1]] W fun e w' => e = .returned (.int .i64 0) ∧ Below W.heap.size W w') (hR2 : ∀ W, Below w.heap.size w W → Calls Tryd.prog 13 #[.agg #[.int .i64 f2, .slice A2 m c2]] W fun e w' => e = .returned (.int .i64 0) ∧ Below W.heap.size W w')
    (hS : ∀ W, Below w.heap.size w W → Calls Tryd.prog 27 #[.agg #[.int .i64 f1, .slice A1 n c1], .agg #[.int .i64 f2, .slice A2 m c2]] W (SamePost f1 f2 L1 L2 W))
    (hK : ∀ W, Below w.heap.size w W → Calls Tryd.prog 28 #[.agg #[.int .i64 f1, .slice A1 n c1], .agg #[.int .i64 f2, .slice A2 m c2]] W (EqPost f1 f2 L1 L2 W)) (hT : ItoaAll w) :
    Calls Tryd.prog 6 #[.agg #[.int .i64 f1, .slice A1 n c1], .agg #[.int .i64 f2, .slice A2 m c2]] w fun e w' => e = .returned (.bool true) ∧ Below w.heap.size w w' := by
  have HT := Lib.hid hT
  have HKN : Hid (∀ W, Below w.heap.size w W → Calls Tryd.prog 14 #[] W fun e w' => e = .returned (.bool true) ∧ Below W.heap.size W w') := fun W hW => known_calls W (HT.out.below hW)
  have t1 : decide ((n : Int) ≤ 60) = true := by rw [decide_eq_true_iff]; omega
  have HS1 := Lib.hid (fun W => small_calls f1 A1 n c1 true W t1)
  have t2 : decide ((m : Int) ≤ 60) = true := by rw [decide_eq_true_iff]; omega
  have HS2 := Lib.hid (fun W => small_calls f2 A2 m c2 true W t2)
  have HR1 := Lib.hid hR1
  have HR2 := Lib.hid hR2
  have HSM := Lib.hid hS
  have HKM := Lib.hid hK
  clear hT hn hm hR1 hR2 hS hK
  go_enter Tryd.func6, Tryd.ntmps6
  go_wp2_with fail
  obtain ⟨W0, hW0⟩ : ∃ W0, W0 = (w.alloc (.cells #[.int .i64 f1, .slice A1 n c1] 24)).alloc (.cells #[.int .i64 f2, .slice A2 m c2] 24) := ⟨_, rfl⟩
  have HF0 := Lib.hid (two_mem w _ _ W0 hW0)
  obtain ⟨P, hP⟩ : ∃ P, P = w.heap.size := ⟨_, rfl⟩
  obtain ⟨Q, hQ⟩ : ∃ Q, Q = w.heap.size + 1 := ⟨_, rfl⟩
  have HX0 : Hid (TwH P Q f1 f2 (.slice A1 n c1) (.slice A2 m c2) w W0) := ⟨by rw [hP]; exact HF0.out.1, by rw [hQ]; exact HF0.out.2.1, HF0.out.2.2.2⟩
  rw [← hW0, ← hQ, ← hP]
  clear hW0 hP hQ HF0
  have a0 := Lib.cell_of_heap HX0.out.1 0
  have a1 := Lib.cell_of_heap HX0.out.1 1
  have b0 := Lib.cell_of_heap HX0.out.2.1 0
  have b1 := Lib.cell_of_heap HX0.out.2.1 1
  try go_wp2_with fail
  refine (HS1.out _).mono ?_
  rintro e w1 ⟨rfl, hb⟩
  have HX1 := Lib.hid (HX0.out.below hb)
  clear hb HX0 a0 a1 b0 b1
  have a0 := Lib.cell_of_heap HX1.out.1 0
  have a1 := Lib.cell_of_heap HX1.out.1 1
  have b0 := Lib.cell_of_heap HX1.out.2.1 0
  have b1 := Lib.cell_of_heap HX1.out.2.1 1
  try go_wp2_with fail
  refine (HS2.out _).mono ?_
  rintro e w2 ⟨rfl, hb⟩
  have HX2 := Lib.hid (HX1.out.below hb)
  clear hb HX1 a0 a1 b0 b1
  have a0 := Lib.cell_of_heap HX2.out.1 0
  have a1 := Lib.cell_of_heap HX2.out.1 1
  have b0 := Lib.cell_of_heap HX2.out.2.1 0
  have b1 := Lib.cell_of_heap HX2.out.2.1 1
  try go_wp2_with fail
  refine (HR1.out _ HX2.out.2.2).mono ?_
  rintro e w3 ⟨rfl, hb⟩
  have HX3 := Lib.hid (HX2.out.below hb)
  clear hb HX2 a0 a1 b0 b1
  have a0 := Lib.cell_of_heap HX3.out.1 0
  have a1 := Lib.cell_of_heap HX3.out.1 1
  have b0 := Lib.cell_of_heap HX3.out.2.1 0
  have b1 := Lib.cell_of_heap HX3.out.2.1 1
  try go_wp2_with fail
  refine (HR2.out _ HX3.out.2.2).mono ?_
  rintro e w4 ⟨rfl, hb⟩
  have HX4 := Lib.hid (HX3.out.below hb)
  clear hb HX3 a0 a1 b0 b1
  have a0 := Lib.cell_of_heap HX4.out.1 0
  have a1 := Lib.cell_of_heap HX4.out.1 1
  have b0 := Lib.cell_of_heap HX4.out.2.1 0
  have b1 := Lib.cell_of_heap HX4.out.2.1 1
  go_wp2_with fail
  refine (HSM.out _ HX4.out.2.2).mono ?_
  rintro e w5 ⟨bb, rfl, hbb, hb⟩
  have HX5 := Lib.hid (HX4.out.below hb)
  have HBB := Lib.hid hbb
  have HKE : Hid (∀ W, Below w.heap.size w W → Calls Tryd.prog 28 #[.agg #[.int .i64 f1, .slice A1 n c1], .agg #[.int .i64 f2, .slice A2 m c2]] W fun e w' => e = .returned (.bool bb) ∧ Below W.heap.size W w') := fun W hW => (HKM.out W hW).mono (by
    rintro e w' ⟨b2, rfl, h2, hb⟩
    have h3 : b2 = true ↔ bb = true := h2.trans HBB.out.symm
    have : b2 = bb := by
      cases b2 <;> cases bb <;> simp_all
    exact ⟨by rw [this], hb⟩)
  have hself : (bb == bb) = true := by cases bb <;> rfl
  clear hb hbb HX4 a0 a1 b0 b1
  have a0 := Lib.cell_of_heap HX5.out.1 0
  have a1 := Lib.cell_of_heap HX5.out.1 1
  have b0 := Lib.cell_of_heap HX5.out.2.1 0
  have b1 := Lib.cell_of_heap HX5.out.2.1 1
  go_wp2_with fail
  refine (HKE.out _ HX5.out.2.2).mono ?_
  rintro e w6 ⟨rfl, hb⟩
  have HX6 := Lib.hid (HX5.out.below hb)
  clear hb a0 a1 b0 b1
  go_wp2_with fail
  refine (HKN.out _ HX6.out.2.2).mono ?_
  rintro e w9 ⟨rfl, hb⟩
  have HF : Hid (Below w.heap.size w w9) := HX6.out.2.2.trans (hb.mono HX6.out.2.2.size)
  clear hb
  go_wp2_with fail
  go_ret
  exact ⟨rfl, HF.out⟩

theorem normL_len {f : Int} {ls : List Lt} {st : OrdS} {pt : PairS} (V : ValidC f ls st pt) : (normL f ls).length = ls.length := by
  unfold normL
  rw [V.ord]
  dsimp only
  split
  · rename_i e; rw [e]; rfl
  · unfold candL; rw [renL_len, followL_len]

theorem codeSame_walk (f1 : Int) (A1 : Option Addr) (n c1 : Nat) (ls : List Lt) (f2 : Int) (A2 : Option Addr) (m c2 : Nat) (ms : List Lt) (w : World) (_hf1 : I64 f1) (hL1 : LS w A1 n ls) (_hn1 : n ≤ maxLen) (hI1 : ∀ l, l ∈ ls → LtAll l) (hz1 : A1 = none → c1 = 0) (hs1 : n ≤ c1) (hA1 : ∀ b off, A1 = some ⟨b, off, none⟩ → b < w.heap.size) (hsp1 : ∀ a, A1 = some a → a.spot = none)
    (_hf2 : I64 f2) (hL2 : LS w A2 m ms) (_hn2 : m ≤ maxLen) (hI2 : ∀ l, l ∈ ms → LtAll l) (hz2 : A2 = none → c2 = 0) (hs2 : m ≤ c2) (hA2 : ∀ b off, A2 = some ⟨b, off, none⟩ → b < w.heap.size) (hsp2 : ∀ a, A2 = some a → a.spot = none) (hT : ItoaAll w) :
    Calls Tryd.prog 6 #[.agg #[.int .i64 f1, .slice A1 n c1], .agg #[.int .i64 f2, .slice A2 m c2]] w fun e w' => e = .returned (.bool true) ∧ Below w.heap.size w w' := by
  by_cases hn : n ≤ 60
  · by_cases hm : m ≤ 60
    · have hR1 : ∀ W, Below w.heap.size w W → Calls Tryd.prog 13 #[.agg #[.int .i64 f1, .slice A1 n c1]] W fun e w' => e = .returned (.int .i64 (checkE f1 ls)) ∧ Below W.heap.size W w' :=
        fun W hW => refCheck_full f1 A1 n c1 ls W (hL1.below hW)
      have hR2 : ∀ W, Below w.heap.size w W → Calls Tryd.prog 13 #[.agg #[.int .i64 f2, .slice A2 m c2]] W fun e w' => e = .returned (.int .i64 (checkE f2 ms)) ∧ Below W.heap.size W w' :=
        fun W hW => refCheck_full f2 A2 m c2 ms W (hL2.below hW)
      by_cases hv1 : checkE f1 ls = 0
      · by_cases hv2 : checkE f2 ms = 0
        · rw [hv1] at hR1
          rw [hv2] at hR2
          obtain ⟨st1, pt1, V1⟩ := valid_parts hv1
          obtain ⟨st2, pt2, V2⟩ := valid_parts hv2
          have l1 : (normL f1 ls).length = n := by rw [normL_len V1]; exact hL1.1
          have l2 : (normL f2 ms).length = m := by rw [normL_len V2]; exact hL2.1
          exact codeSame_main f1 f2 A1 A2 n m c1 c2 w (normL f1 ls) (normL f2 ms) hn hm hR1 hR2
            (fun W hW => same_ok f1 f2 A1 A2 n m c1 c2 _ _ W (by omega) l1 l2
              (fun X hX => normal_ok f1 A1 n c1 ls X (hL1.below (hW.trans (hX.mono hW.size))) (fun b off e => Nat.lt_of_lt_of_le (hA1 b off e) (hW.trans (hX.mono hW.size)).size) (fun l hl => (hI1 l hl).2.2.2.1) hv1)
              (fun X hX => normal_ok f2 A2 m c2 ms X (hL2.below (hW.trans (hX.mono hW.size))) (fun b off e => Nat.lt_of_lt_of_le (hA2 b off e) (hW.trans (hX.mono hW.size)).size) (fun l hl => (hI2 l hl).2.2.2.1) hv2))
            (fun W hW => refSame_calls f1 f2 A1 A2 n m c1 c2 _ _ W (by omega) l1 l2
              (fun X hX => normal_ref f1 A1 n c1 ls X (hL1.below (hW.trans (hX.mono hW.size))) hz1 hsp1 hs1 hv1)
              (fun X hX => normal_ref f2 A2 m c2 ms X (hL2.below (hW.trans (hX.mono hW.size))) hz2 hsp2 hs2 hv2)) hT
        · rw [hv1] at hR1
          exact codeSame_b4 f1 f2 A1 A2 n m c1 c2 w hn hm (checkE f2 ms) hv2 hR1 hR2 hT
      · exact codeSame_b3 f1 f2 A1 A2 n m c1 c2 w hn hm (checkE f1 ls) hv1 hR1 hT
    · exact codeSame_b2 f1 f2 A1 A2 n m c1 c2 w hn hm hT
  · exact codeSame_b1 f1 f2 A1 A2 n m c1 c2 w hn hT

end Go.Proofs.YtjdabkniojmacaaDoor
