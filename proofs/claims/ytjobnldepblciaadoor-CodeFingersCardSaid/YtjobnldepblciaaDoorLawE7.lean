/-
  LawC7 LawE7, one after the other.
-/
import Derived.Test.YtjobnldepblciaaDoorInsB
import Derived.Test.YtjobnldepblciaaDoorRefJ
import Derived.Test.YtjobnldepblciaaDoorLawC1
import Derived.Deep.RegionHeld3
import Derived.Test.YtjobnldepblciaaDoorRefL
import Derived.Test.YtjobnldepblciaaDoorAxW
import Derived.Test.YtjobnldepblciaaDoorDoorL

/-
  The walk of the law CodeFingers on a valid code.
-/
namespace Go.Proofs.YtjobnldepblciaaDoor
open Go.RowKit

/-- The code and the place in their variables, the codes that were made in theirs. -/
def FgZ (f : Int) (vc : Value) (g v : Int) (w : World) (P Q : Nat) (bs : List (Nat × Int × Value)) (W : World) : Prop :=
  Below w.heap.size w W ∧ W.heap[P]? = some (.cells #[.int .i64 f, vc] 24 (0, 0)) ∧ W.heap[Q]? = some (.cells #[.int .i64 g, .int .i64 v] 31 (0, 0)) ∧ ∀ x, x ∈ bs → W.heap[x.1]? = some (.cells #[.int .i64 x.2.1, x.2.2] 24 (0, 0))
section
variable {f g v : Int} {vc : Value} {w W W' : World} {P Q : Nat} {bs : List (Nat × Int × Value)}
theorem FgZ.step (h : FgZ f vc g v w P Q bs W) (hb : Below W.heap.size W W') : FgZ f vc g v w P Q bs W' :=
  ⟨h.1.trans (hb.mono h.1.size), (hb.block _ (heap_lt h.2.1)).trans h.2.1, (hb.block _ (heap_lt h.2.2.1)).trans h.2.2.1, fun x hx => (hb.block _ (heap_lt (h.2.2.2 x hx))).trans (h.2.2.2 x hx)⟩
theorem FgZ.add (h : FgZ f vc g v w P Q bs W) (f2 : Int) (v2 : Value) : FgZ f vc g v w P Q ((W.heap.size, f2, v2) :: bs) (W.alloc (.cells #[.int .i64 f2, v2] 24)) := by
  have hb : Below W.heap.size W (W.alloc (.cells #[.int .i64 f2, v2] 24)) := (Below.refl _ _).alloc (Nat.le_refl _) _
  obtain ⟨h1, h2, h3, h4⟩ := h.step hb
  refine ⟨h1, h2, h3, fun x hx => ?_⟩
  rcases List.mem_cons.1 hx with rfl | hx
  · exact heap_alloc_new W _
  · exact h4 x hx
end
/-- What the comparisons read. -/
def FgS (P Q B : Nat) (f : Int) (vc : Value) (g v f2 : Int) (v2 : Value) (V w' : World) : Prop :=
  w'.cell? ⟨P, 0, none⟩ = some (.int .i64 f) ∧ w'.cell? ⟨P, 1, none⟩ = some vc ∧ w'.cell? ⟨Q, 0, none⟩ = some (.int .i64 g) ∧ w'.cell? ⟨Q, 1, none⟩ = some (.int .i64 v) ∧ w'.cell? ⟨B, 0, none⟩ = some (.int .i64 f2) ∧ w'.cell? ⟨B, 1, none⟩ = some v2 ∧ Below V.heap.size V w'
theorem FgS.of {P Q B : Nat} {f : Int} {vc : Value} {g v f2 : Int} {v2 : Value} {V w' : World} (hP : V.heap[P]? = some (.cells #[.int .i64 f, vc] 24 (0, 0))) (hQ : V.heap[Q]? = some (.cells #[.int .i64 g, .int .i64 v] 31 (0, 0))) (hB : V.heap[B]? = some (.cells #[.int .i64 f2, v2] 24 (0, 0))) (hb : Below V.heap.size V w') :
    FgS P Q B f vc g v f2 v2 V w' := by
  have e : ∀ q o, V.heap[q]? = some o → w'.heap[q]? = some o := fun q o hq => (hb.block q (heap_lt hq)).trans hq
  exact ⟨Lib.cell_of_heap (e _ _ hP) 0, Lib.cell_of_heap (e _ _ hP) 1, Lib.cell_of_heap (e _ _ hQ) 0, Lib.cell_of_heap (e _ _ hQ) 1, Lib.cell_of_heap (e _ _ hB) 0, Lib.cell_of_heap (e _ _ hB) 1, hb⟩
theorem FgS.last {P Q B : Nat} {f : Int} {vc : Value} {g v f2 : Int} {v2 : Value} {V w' : World} (h : FgS P Q B f vc g v f2 v2 V w') : Below V.heap.size V w' := h.2.2.2.2.2.2
theorem ls_none (w : World) : LS w none 0 [] := ⟨rfl, fun h => absurd h (by omega)⟩

set_option maxHeartbeats 16000000 in
set_option maxRecDepth 100000 in
theorem codeFingers_yy (f k g v : Int) (A : Option Addr) (n c : Nat) (La Lb : List Lt) (w : World) (hn60 : n ≤ 60) (hla : La.length = n) (hlb : Lb.length = n)
    (hRC : ∀ W, Below w.heap.size w W → Calls Tryd.prog 12 #[.agg #[.int .i64 f, .slice A n c]] W fun e w' => e = .returned (.int .i64 0) ∧ Below W.heap.size W w')
    (t1 : decide (k < 1) = false) (t2 : decide (f < k) = false)
    (hF : ∀ W, Below w.heap.size w W → Calls Tryd.prog 26 #[.agg #[.int .i64 f, .slice A n c], .int .i64 k] W (OkF (f - 1) n La W))
    (hRF : ∀ W, Below w.heap.size w W → Calls Tryd.prog 37 #[.agg #[.int .i64 f, .slice A n c], .int .i64 k] W (OkC (f - 1) n La W))
    (hP : ∀ W, Below w.heap.size w W → Calls Tryd.prog 38 #[.agg #[.int .i64 f, .slice A n c], .agg #[.int .i64 g, .int .i64 v]] W fun e w' => e = .returned (.bool true) ∧ Below W.heap.size W w')
    (t3 : (f == 40) = false)
    (hI : ∀ W, Below w.heap.size w W → Calls Tryd.prog 27 #[.agg #[.int .i64 f, .slice A n c], .agg #[.int .i64 g, .int .i64 v]] W (OkF (f + 1) n Lb W))
    (hRI : ∀ W, Below w.heap.size w W → Calls Tryd.prog 39 #[.agg #[.int .i64 f, .slice A n c], .agg #[.int .i64 g, .int .i64 v]] W (OkC (f + 1) n Lb W))
    (hT : ItoaAll w) :
    Calls Tryd.prog 7 #[.agg #[.int .i64 f, .slice A n c], .int .i64 k, .agg #[.int .i64 g, .int .i64 v]] w fun e w' => e = .returned (.bool true) ∧ Below w.heap.size w w' := by
  have HRC := Lib.hid hRC
  have HT := Lib.hid hT
  have HLA := Lib.hid hla
  have HLB := Lib.hid hlb
  have hle : n ≤ 1000000 := by omega
  have HF := Lib.hid hF
  have HPL := Lib.hid hP
  have HI := Lib.hid hI
  have HRF := Lib.hid hRF
  have HRI := Lib.hid hRI
  have HKN : Hid (∀ W, Below w.heap.size w W → Calls Tryd.prog 10 #[] W fun e w' => e = .returned (.bool true) ∧ Below W.heap.size W w') := fun W hW => known_calls W (HT.out.below hW)
  have s1 : decide ((n : Int) ≤ 60) = true := by rw [decide_eq_true_iff]; omega
  have HSM := Lib.hid (fun W => small_calls f A n c true W s1)
  clear hRC hT hn60 hla hlb hF hP hI hRF hRI
  go_enter Tryd.func7, Tryd.ntmps7
  go_wp2_with fail
  obtain ⟨W0, hW0⟩ : ∃ W0, W0 = (w.alloc (.cells #[.int .i64 f, .slice A n c] 24)).alloc (.cells #[.int .i64 g, .int .i64 v] 31) := ⟨_, rfl⟩
  have hM := two_mem w _ _ W0 hW0
  have Y0 : Hid (FgZ f (.slice A n c) g v w w.heap.size (w.heap.size + 1) [] W0) := ⟨hM.2.2.2, hM.1, hM.2.1, fun x hx => by cases hx⟩
  obtain ⟨P, hP⟩ : ∃ P, P = w.heap.size := ⟨_, rfl⟩
  obtain ⟨Q, hQ⟩ : ∃ Q, Q = w.heap.size + 1 := ⟨_, rfl⟩
  rw [← hQ, ← hP] at Y0
  rw [← hW0, ← hQ, ← hP]
  clear hW0 hM hP hQ
  refine (HSM.out _).mono ?_
  rintro e w1 ⟨rfl, hb⟩
  have Y1 := Lib.hid (Y0.out.step hb)
  have a0 := Lib.cell_of_heap Y1.out.2.1 0
  have a1 := Lib.cell_of_heap Y1.out.2.1 1
  have a2 := Lib.cell_of_heap Y1.out.2.2.1 0
  have a3 := Lib.cell_of_heap Y1.out.2.2.1 1
  clear hb
  go_wp2_with fail
  refine (HRC.out _ Y1.out.1).mono ?_
  rintro e w2 ⟨rfl, hb⟩
  have Y2 := Lib.hid (Y1.out.step hb)
  clear hb
  clear a0 a1 a2 a3
  have a0 := Lib.cell_of_heap Y2.out.2.1 0
  have a1 := Lib.cell_of_heap Y2.out.2.1 1
  have a2 := Lib.cell_of_heap Y2.out.2.2.1 0
  have a3 := Lib.cell_of_heap Y2.out.2.2.1 1
  go_wp2_with fail
  refine (HF.out _ Y2.out.1).mono ?_
  rintro e v3 ⟨g3, rfl, ho, hb⟩
  have Y3 := Lib.hid ((Y2.out.step hb).add (f - 1) (.slice (some ⟨g3, 0, none⟩) n n))
  have HL3 := Lib.hid ((OwnL.lsR ho HLA.out).below ((Below.refl _ _).alloc (Nat.le_refl _) (.cells #[.int .i64 (f - 1), (.slice (some ⟨g3, 0, none⟩) n n)] 24)))
  obtain ⟨B3, hB⟩ : ∃ B, B = v3.heap.size := ⟨_, rfl⟩
  obtain ⟨V3, hV⟩ : ∃ V, V = v3.alloc (.cells #[.int .i64 (f - 1), (.slice (some ⟨g3, 0, none⟩) n n)] 24) := ⟨_, rfl⟩
  rw [← hV, ← hB] at Y3
  rw [← hV] at HL3
  clear a0 a1 a2 a3
  have a0 := Lib.cell_of_heap Y3.out.2.1 0
  have a1 := Lib.cell_of_heap Y3.out.2.1 1
  have a2 := Lib.cell_of_heap Y3.out.2.2.1 0
  have a3 := Lib.cell_of_heap Y3.out.2.2.1 1
  have HV3 := Lib.hid hV
  have HB3 := Lib.hid hB
  rw [hV] at a0 a1 a2 a3
  clear hb ho hV hB
  go_wp2_with fail
  rw [← HB3.out, ← HV3.out]
  have hb3 := Y3.out.2.2.2 (B3, f - 1, (.slice (some ⟨g3, 0, none⟩) n n)) (by simp)
  clear a0 a1 a2 a3
  go_region_held3 (fun w' => w'.cell? ⟨P, 0, none⟩ = some (.int .i64 f) ∧ w'.cell? ⟨P, 1, none⟩ = some (.slice A n c) ∧ w'.cell? ⟨Q, 0, none⟩ = some (.int .i64 g) ∧ w'.cell? ⟨Q, 1, none⟩ = some (.int .i64 v) ∧ w'.cell? ⟨B3, 0, none⟩ = some (.int .i64 (f - 1)) ∧ w'.cell? ⟨B3, 1, none⟩ = some (.slice (some ⟨g3, 0, none⟩) n n) ∧ Below V3.heap.size V3 w')
    (first
      | exact FgS.of Y3.out.2.1 Y3.out.2.2.1 hb3 (Below.refl _ _).drew
      | exact FgS.of Y3.out.2.1 Y3.out.2.2.1 hb3 (HBW.out))
    (first
      | (go_at_call 37; (with_reducible refine (HRF.out _ ?hbx).mono ?_); (case hbx => exact Y3.out.1.trans ((FgS.last (P := P) (Q := Q) (B := B3) (f := f) (vc := .slice A n c) (g := g) (v := v) (f2 := f - 1) (v2 := (.slice (some ⟨g3, 0, none⟩) n n)) (V := V3) (by assumption)).mono Y3.out.1.size)); rintro e w2 ⟨A1, c1, rfl, hrow, hbw⟩; have HBW := Lib.hid ((FgS.last (P := P) (Q := Q) (B := B3) (f := f) (vc := .slice A n c) (g := g) (v := v) (f2 := f - 1) (v2 := (.slice (some ⟨g3, 0, none⟩) n n)) (V := V3) (by assumption)).trans (hbw.mono (FgS.last (P := P) (Q := Q) (B := B3) (f := f) (vc := .slice A n c) (g := g) (v := v) (f2 := f - 1) (v2 := (.slice (some ⟨g3, 0, none⟩) n n)) (V := V3) (by assumption)).size)); have HE := Lib.hid (row_ls hrow HLA.out); clear hrow hbw)
      | (go_at_call 30; (with_reducible refine (codeEq_yes (f - 1) (some ⟨g3, 0, none⟩) A1 n n n c1 La _ ?hl HE.out hle).mono ?_); (case hl => exact HL3.out.below (FgS.last (P := P) (Q := Q) (B := B3) (f := f) (vc := .slice A n c) (g := g) (v := v) (f2 := f - 1) (v2 := (.slice (some ⟨g3, 0, none⟩) n n)) (V := V3) (by assumption))); rintro e w2 ⟨rfl, hbw⟩; have HBW := Lib.hid ((FgS.last (P := P) (Q := Q) (B := B3) (f := f) (vc := .slice A n c) (g := g) (v := v) (f2 := f - 1) (v2 := (.slice (some ⟨g3, 0, none⟩) n n)) (V := V3) (by assumption)).trans (hbw.mono (FgS.last (P := P) (Q := Q) (B := B3) (f := f) (vc := .slice A n c) (g := g) (v := v) (f2 := f - 1) (v2 := (.slice (some ⟨g3, 0, none⟩) n n)) (V := V3) (by assumption)).size)); clear hbw))
  have Y4 := Lib.hid (Y3.out.step HBW.out)
  have a0 := Lib.cell_of_heap Y4.out.2.1 0
  have a1 := Lib.cell_of_heap Y4.out.2.1 1
  have a2 := Lib.cell_of_heap Y4.out.2.2.1 0
  have a3 := Lib.cell_of_heap Y4.out.2.2.1 1
  clear HBW HE
  go_wp2_with fail
  refine (HI.out _ Y4.out.1).mono ?_
  rintro e v5 ⟨g5, rfl, ho, hb⟩
  have Y5 := Lib.hid ((Y4.out.step hb).add (f + 1) (.slice (some ⟨g5, 0, none⟩) n n))
  have HL5 := Lib.hid ((OwnL.lsR ho HLB.out).below ((Below.refl _ _).alloc (Nat.le_refl _) (.cells #[.int .i64 (f + 1), (.slice (some ⟨g5, 0, none⟩) n n)] 24)))
  obtain ⟨B5, hB⟩ : ∃ B, B = v5.heap.size := ⟨_, rfl⟩
  obtain ⟨V5, hV⟩ : ∃ V, V = v5.alloc (.cells #[.int .i64 (f + 1), (.slice (some ⟨g5, 0, none⟩) n n)] 24) := ⟨_, rfl⟩
  rw [← hV, ← hB] at Y5
  rw [← hV] at HL5
  clear a0 a1 a2 a3
  have a0 := Lib.cell_of_heap Y5.out.2.1 0
  have a1 := Lib.cell_of_heap Y5.out.2.1 1
  have a2 := Lib.cell_of_heap Y5.out.2.2.1 0
  have a3 := Lib.cell_of_heap Y5.out.2.2.1 1
  have HV5 := Lib.hid hV
  have HB5 := Lib.hid hB
  rw [hV] at a0 a1 a2 a3
  clear hb ho hV hB
  go_wp2_with fail
  rw [← HB5.out, ← HV5.out]
  have hb5 := Y5.out.2.2.2 (B5, f + 1, (.slice (some ⟨g5, 0, none⟩) n n)) (by simp)
  refine (HPL.out _ Y5.out.1).mono ?_
  rintro e V ⟨rfl, hb⟩
  have Y6 := Lib.hid (Y5.out.step hb)
  have b0 := Lib.cell_of_heap (Y6.out.2.2.2 (B5, f + 1, (.slice (some ⟨g5, 0, none⟩) n n)) (by simp)) 0
  have b1 := Lib.cell_of_heap (Y6.out.2.2.2 (B5, f + 1, (.slice (some ⟨g5, 0, none⟩) n n)) (by simp)) 1
  have HL6 := Lib.hid (HL5.out.below hb)
  clear hb
  clear a0 a1 a2 a3
  have a0 := Lib.cell_of_heap Y6.out.2.1 0
  have a1 := Lib.cell_of_heap Y6.out.2.1 1
  have a2 := Lib.cell_of_heap Y6.out.2.2.1 0
  have a3 := Lib.cell_of_heap Y6.out.2.2.1 1
  go_wp2_with fail
  have hb6 := Y6.out.2.2.2 (B5, f + 1, (.slice (some ⟨g5, 0, none⟩) n n)) (by simp)
  clear a0 a1 a2 a3 b0 b1 hb5
  go_region_held3 (fun w' => w'.cell? ⟨P, 0, none⟩ = some (.int .i64 f) ∧ w'.cell? ⟨P, 1, none⟩ = some (.slice A n c) ∧ w'.cell? ⟨Q, 0, none⟩ = some (.int .i64 g) ∧ w'.cell? ⟨Q, 1, none⟩ = some (.int .i64 v) ∧ w'.cell? ⟨B5, 0, none⟩ = some (.int .i64 (f + 1)) ∧ w'.cell? ⟨B5, 1, none⟩ = some (.slice (some ⟨g5, 0, none⟩) n n) ∧ Below V.heap.size V w')
    (first
      | exact FgS.of Y6.out.2.1 Y6.out.2.2.1 hb6 (Below.refl _ _).drew
      | exact FgS.of Y6.out.2.1 Y6.out.2.2.1 hb6 HBX.out)
    (first
      | (go_at_call 39; (with_reducible refine (HRI.out _ ?hbx).mono ?_); (case hbx => exact Y6.out.1.trans ((FgS.last (P := P) (Q := Q) (B := B5) (f := f) (vc := .slice A n c) (g := g) (v := v) (f2 := f + 1) (v2 := (.slice (some ⟨g5, 0, none⟩) n n)) (V := V) (by assumption)).mono Y6.out.1.size)); rintro e w8 ⟨A2, c2, rfl, hrow, hbw⟩; have HBX := Lib.hid ((FgS.last (P := P) (Q := Q) (B := B5) (f := f) (vc := .slice A n c) (g := g) (v := v) (f2 := f + 1) (v2 := (.slice (some ⟨g5, 0, none⟩) n n)) (V := V) (by assumption)).trans (hbw.mono (FgS.last (P := P) (Q := Q) (B := B5) (f := f) (vc := .slice A n c) (g := g) (v := v) (f2 := f + 1) (v2 := (.slice (some ⟨g5, 0, none⟩) n n)) (V := V) (by assumption)).size)); have HE2 := Lib.hid (row_ls hrow HLB.out); clear hrow hbw)
      | (go_at_call 10; (with_reducible refine (HKN.out _ ?hbx).mono ?_); (case hbx => exact Y6.out.1.trans ((FgS.last (P := P) (Q := Q) (B := B5) (f := f) (vc := .slice A n c) (g := g) (v := v) (f2 := f + 1) (v2 := (.slice (some ⟨g5, 0, none⟩) n n)) (V := V) (by assumption)).mono Y6.out.1.size)); rintro e w8 ⟨rfl, hbw⟩; have HBX := Lib.hid ((FgS.last (P := P) (Q := Q) (B := B5) (f := f) (vc := .slice A n c) (g := g) (v := v) (f2 := f + 1) (v2 := (.slice (some ⟨g5, 0, none⟩) n n)) (V := V) (by assumption)).trans (hbw.mono (FgS.last (P := P) (Q := Q) (B := B5) (f := f) (vc := .slice A n c) (g := g) (v := v) (f2 := f + 1) (v2 := (.slice (some ⟨g5, 0, none⟩) n n)) (V := V) (by assumption)).size)); clear hbw)
      | (go_at_call 30; (with_reducible refine (codeEq_yes (f + 1) (some ⟨g5, 0, none⟩) A2 n n n c2 Lb _ ?hl HE2.out hle).mono ?_); (case hl => exact HL6.out.below (FgS.last (P := P) (Q := Q) (B := B5) (f := f) (vc := .slice A n c) (g := g) (v := v) (f2 := f + 1) (v2 := (.slice (some ⟨g5, 0, none⟩) n n)) (V := V) (by assumption))); rintro e w8 ⟨rfl, hbw⟩; have HBX := Lib.hid ((FgS.last (P := P) (Q := Q) (B := B5) (f := f) (vc := .slice A n c) (g := g) (v := v) (f2 := f + 1) (v2 := (.slice (some ⟨g5, 0, none⟩) n n)) (V := V) (by assumption)).trans (hbw.mono (FgS.last (P := P) (Q := Q) (B := B5) (f := f) (vc := .slice A n c) (g := g) (v := v) (f2 := f + 1) (v2 := (.slice (some ⟨g5, 0, none⟩) n n)) (V := V) (by assumption)).size)); clear hbw))
  have HF9 : Hid (Below w.heap.size w w8) := Y6.out.1.trans (HBX.out.mono Y6.out.1.size)
  go_wp2_with fail
  go_ret
  exact ⟨rfl, HF9.out⟩

set_option maxHeartbeats 16000000 in
set_option maxRecDepth 100000 in
theorem codeFingers_yp (f k g v : Int) (A : Option Addr) (n c : Nat) (La Lb : List Lt) (w : World) (hn60 : n ≤ 60) (hla : La.length = n) (hlb : Lb.length = n)
    (hRC : ∀ W, Below w.heap.size w W → Calls Tryd.prog 12 #[.agg #[.int .i64 f, .slice A n c]] W fun e w' => e = .returned (.int .i64 0) ∧ Below W.heap.size W w')
    (t1 : decide (k < 1) = false) (t2 : decide (f < k) = false)
    (hF : ∀ W, Below w.heap.size w W → Calls Tryd.prog 26 #[.agg #[.int .i64 f, .slice A n c], .int .i64 k] W (OkF (f - 1) n La W))
    (hRF : ∀ W, Below w.heap.size w W → Calls Tryd.prog 37 #[.agg #[.int .i64 f, .slice A n c], .int .i64 k] W (OkC (f - 1) n La W))
    (hP : ∀ W, Below w.heap.size w W → Calls Tryd.prog 38 #[.agg #[.int .i64 f, .slice A n c], .agg #[.int .i64 g, .int .i64 v]] W fun e w' => e = .returned (.bool false) ∧ Below W.heap.size W w')
    (hI : ∀ W, Below w.heap.size w W → Calls Tryd.prog 27 #[.agg #[.int .i64 f, .slice A n c], .agg #[.int .i64 g, .int .i64 v]] W (ErrZ 2 W))
    (hT : ItoaAll w) :
    Calls Tryd.prog 7 #[.agg #[.int .i64 f, .slice A n c], .int .i64 k, .agg #[.int .i64 g, .int .i64 v]] w fun e w' => e = .returned (.bool true) ∧ Below w.heap.size w w' := by
  have HRC := Lib.hid hRC
  have HT := Lib.hid hT
  have HLA := Lib.hid hla
  have HLB := Lib.hid hlb
  have hle : n ≤ 1000000 := by omega
  have HF := Lib.hid hF
  have HPL := Lib.hid hP
  have HI := Lib.hid hI
  have HRF := Lib.hid hRF
  have HKN : Hid (∀ W, Below w.heap.size w W → Calls Tryd.prog 10 #[] W fun e w' => e = .returned (.bool true) ∧ Below W.heap.size W w') := fun W hW => known_calls W (HT.out.below hW)
  have s1 : decide ((n : Int) ≤ 60) = true := by rw [decide_eq_true_iff]; omega
  have HSM := Lib.hid (fun W => small_calls f A n c true W s1)
  clear hRC hT hn60 hla hlb hF hP hI hRF
  go_enter Tryd.func7, Tryd.ntmps7
  go_wp2_with fail
  obtain ⟨W0, hW0⟩ : ∃ W0, W0 = (w.alloc (.cells #[.int .i64 f, .slice A n c] 24)).alloc (.cells #[.int .i64 g, .int .i64 v] 31) := ⟨_, rfl⟩
  have hM := two_mem w _ _ W0 hW0
  have Y0 : Hid (FgZ f (.slice A n c) g v w w.heap.size (w.heap.size + 1) [] W0) := ⟨hM.2.2.2, hM.1, hM.2.1, fun x hx => by cases hx⟩
  obtain ⟨P, hP⟩ : ∃ P, P = w.heap.size := ⟨_, rfl⟩
  obtain ⟨Q, hQ⟩ : ∃ Q, Q = w.heap.size + 1 := ⟨_, rfl⟩
  rw [← hQ, ← hP] at Y0
  rw [← hW0, ← hQ, ← hP]
  clear hW0 hM hP hQ
  refine (HSM.out _).mono ?_
  rintro e w1 ⟨rfl, hb⟩
  have Y1 := Lib.hid (Y0.out.step hb)
  have a0 := Lib.cell_of_heap Y1.out.2.1 0
  have a1 := Lib.cell_of_heap Y1.out.2.1 1
  have a2 := Lib.cell_of_heap Y1.out.2.2.1 0
  have a3 := Lib.cell_of_heap Y1.out.2.2.1 1
  clear hb
  go_wp2_with fail
  refine (HRC.out _ Y1.out.1).mono ?_
  rintro e w2 ⟨rfl, hb⟩
  have Y2 := Lib.hid (Y1.out.step hb)
  clear hb
  clear a0 a1 a2 a3
  have a0 := Lib.cell_of_heap Y2.out.2.1 0
  have a1 := Lib.cell_of_heap Y2.out.2.1 1
  have a2 := Lib.cell_of_heap Y2.out.2.2.1 0
  have a3 := Lib.cell_of_heap Y2.out.2.2.1 1
  go_wp2_with fail
  refine (HF.out _ Y2.out.1).mono ?_
  rintro e v3 ⟨g3, rfl, ho, hb⟩
  have Y3 := Lib.hid ((Y2.out.step hb).add (f - 1) (.slice (some ⟨g3, 0, none⟩) n n))
  have HL3 := Lib.hid ((OwnL.lsR ho HLA.out).below ((Below.refl _ _).alloc (Nat.le_refl _) (.cells #[.int .i64 (f - 1), (.slice (some ⟨g3, 0, none⟩) n n)] 24)))
  obtain ⟨B3, hB⟩ : ∃ B, B = v3.heap.size := ⟨_, rfl⟩
  obtain ⟨V3, hV⟩ : ∃ V, V = v3.alloc (.cells #[.int .i64 (f - 1), (.slice (some ⟨g3, 0, none⟩) n n)] 24) := ⟨_, rfl⟩
  rw [← hV, ← hB] at Y3
  rw [← hV] at HL3
  clear a0 a1 a2 a3
  have a0 := Lib.cell_of_heap Y3.out.2.1 0
  have a1 := Lib.cell_of_heap Y3.out.2.1 1
  have a2 := Lib.cell_of_heap Y3.out.2.2.1 0
  have a3 := Lib.cell_of_heap Y3.out.2.2.1 1
  have HV3 := Lib.hid hV
  have HB3 := Lib.hid hB
  rw [hV] at a0 a1 a2 a3
  clear hb ho hV hB
  go_wp2_with fail
  rw [← HB3.out, ← HV3.out]
  have hb3 := Y3.out.2.2.2 (B3, f - 1, (.slice (some ⟨g3, 0, none⟩) n n)) (by simp)
  clear a0 a1 a2 a3
  go_region_held3 (fun w' => w'.cell? ⟨P, 0, none⟩ = some (.int .i64 f) ∧ w'.cell? ⟨P, 1, none⟩ = some (.slice A n c) ∧ w'.cell? ⟨Q, 0, none⟩ = some (.int .i64 g) ∧ w'.cell? ⟨Q, 1, none⟩ = some (.int .i64 v) ∧ w'.cell? ⟨B3, 0, none⟩ = some (.int .i64 (f - 1)) ∧ w'.cell? ⟨B3, 1, none⟩ = some (.slice (some ⟨g3, 0, none⟩) n n) ∧ Below V3.heap.size V3 w')
    (first
      | exact FgS.of Y3.out.2.1 Y3.out.2.2.1 hb3 (Below.refl _ _).drew
      | exact FgS.of Y3.out.2.1 Y3.out.2.2.1 hb3 (HBW.out))
    (first
      | (go_at_call 37; (with_reducible refine (HRF.out _ ?hbx).mono ?_); (case hbx => exact Y3.out.1.trans ((FgS.last (P := P) (Q := Q) (B := B3) (f := f) (vc := .slice A n c) (g := g) (v := v) (f2 := f - 1) (v2 := (.slice (some ⟨g3, 0, none⟩) n n)) (V := V3) (by assumption)).mono Y3.out.1.size)); rintro e w2 ⟨A1, c1, rfl, hrow, hbw⟩; have HBW := Lib.hid ((FgS.last (P := P) (Q := Q) (B := B3) (f := f) (vc := .slice A n c) (g := g) (v := v) (f2 := f - 1) (v2 := (.slice (some ⟨g3, 0, none⟩) n n)) (V := V3) (by assumption)).trans (hbw.mono (FgS.last (P := P) (Q := Q) (B := B3) (f := f) (vc := .slice A n c) (g := g) (v := v) (f2 := f - 1) (v2 := (.slice (some ⟨g3, 0, none⟩) n n)) (V := V3) (by assumption)).size)); have HE := Lib.hid (row_ls hrow HLA.out); clear hrow hbw)
      | (go_at_call 30; (with_reducible refine (codeEq_yes (f - 1) (some ⟨g3, 0, none⟩) A1 n n n c1 La _ ?hl HE.out hle).mono ?_); (case hl => exact HL3.out.below (FgS.last (P := P) (Q := Q) (B := B3) (f := f) (vc := .slice A n c) (g := g) (v := v) (f2 := f - 1) (v2 := (.slice (some ⟨g3, 0, none⟩) n n)) (V := V3) (by assumption))); rintro e w2 ⟨rfl, hbw⟩; have HBW := Lib.hid ((FgS.last (P := P) (Q := Q) (B := B3) (f := f) (vc := .slice A n c) (g := g) (v := v) (f2 := f - 1) (v2 := (.slice (some ⟨g3, 0, none⟩) n n)) (V := V3) (by assumption)).trans (hbw.mono (FgS.last (P := P) (Q := Q) (B := B3) (f := f) (vc := .slice A n c) (g := g) (v := v) (f2 := f - 1) (v2 := (.slice (some ⟨g3, 0, none⟩) n n)) (V := V3) (by assumption)).size)); clear hbw))
  have Y4 := Lib.hid (Y3.out.step HBW.out)
  have a0 := Lib.cell_of_heap Y4.out.2.1 0
  have a1 := Lib.cell_of_heap Y4.out.2.1 1
  have a2 := Lib.cell_of_heap Y4.out.2.2.1 0
  have a3 := Lib.cell_of_heap Y4.out.2.2.1 1
  clear HBW HE
  go_wp2_with fail
  refine (HI.out _ Y4.out.1).mono ?_
  rintro e v5 ⟨rfl, hb⟩
  have Y5 := Lib.hid ((Y4.out.step hb).add (0) (.slice none 0 0))
  obtain ⟨B5, hB⟩ : ∃ B, B = v5.heap.size := ⟨_, rfl⟩
  obtain ⟨V5, hV⟩ : ∃ V, V = v5.alloc (.cells #[.int .i64 (0), (.slice none 0 0)] 24) := ⟨_, rfl⟩
  rw [← hV, ← hB] at Y5
  clear a0 a1 a2 a3
  have a0 := Lib.cell_of_heap Y5.out.2.1 0
  have a1 := Lib.cell_of_heap Y5.out.2.1 1
  have a2 := Lib.cell_of_heap Y5.out.2.2.1 0
  have a3 := Lib.cell_of_heap Y5.out.2.2.1 1
  have HV5 := Lib.hid hV
  have HB5 := Lib.hid hB
  rw [hV] at a0 a1 a2 a3
  clear hb hV hB
  go_wp2_with fail
  rw [← HB5.out, ← HV5.out]
  have hb5 := Y5.out.2.2.2 (B5, 0, (.slice none 0 0)) (by simp)
  refine (HPL.out _ Y5.out.1).mono ?_
  rintro e V ⟨rfl, hb⟩
  have Y6 := Lib.hid (Y5.out.step hb)
  have b0 := Lib.cell_of_heap (Y6.out.2.2.2 (B5, 0, (.slice none 0 0)) (by simp)) 0
  have b1 := Lib.cell_of_heap (Y6.out.2.2.2 (B5, 0, (.slice none 0 0)) (by simp)) 1
  clear hb
  clear a0 a1 a2 a3
  have a0 := Lib.cell_of_heap Y6.out.2.1 0
  have a1 := Lib.cell_of_heap Y6.out.2.1 1
  have a2 := Lib.cell_of_heap Y6.out.2.2.1 0
  have a3 := Lib.cell_of_heap Y6.out.2.2.1 1
  go_wp2_with fail
  refine (codeEq_yes 0 none none 0 0 0 0 [] _ (ls_none _) (ls_none _) (by omega)).mono ?_
  rintro e w7 ⟨rfl, hb⟩
  have Y7 := Lib.hid (Y6.out.step hb)
  clear hb a0 a1 a2 a3 b0 b1
  go_wp2_with fail
  refine (HKN.out _ Y7.out.1).mono ?_
  rintro e w8 ⟨rfl, hb⟩
  have HF9 : Hid (Below w.heap.size w w8) := Y7.out.1.trans (hb.mono Y7.out.1.size)
  clear hb
  go_wp2_with fail
  go_ret
  exact ⟨rfl, HF9.out⟩

set_option maxHeartbeats 16000000 in
set_option maxRecDepth 100000 in
theorem codeFingers_yf (f k g v : Int) (A : Option Addr) (n c : Nat) (La Lb : List Lt) (w : World) (hn60 : n ≤ 60) (hla : La.length = n) (hlb : Lb.length = n)
    (hRC : ∀ W, Below w.heap.size w W → Calls Tryd.prog 12 #[.agg #[.int .i64 f, .slice A n c]] W fun e w' => e = .returned (.int .i64 0) ∧ Below W.heap.size W w')
    (t1 : decide (k < 1) = false) (t2 : decide (f < k) = false)
    (hF : ∀ W, Below w.heap.size w W → Calls Tryd.prog 26 #[.agg #[.int .i64 f, .slice A n c], .int .i64 k] W (OkF (f - 1) n La W))
    (hRF : ∀ W, Below w.heap.size w W → Calls Tryd.prog 37 #[.agg #[.int .i64 f, .slice A n c], .int .i64 k] W (OkC (f - 1) n La W))
    (hP : ∀ W, Below w.heap.size w W → Calls Tryd.prog 38 #[.agg #[.int .i64 f, .slice A n c], .agg #[.int .i64 g, .int .i64 v]] W fun e w' => e = .returned (.bool true) ∧ Below W.heap.size W w')
    (t3 : (f == 40) = true)
    (hI : ∀ W, Below w.heap.size w W → Calls Tryd.prog 27 #[.agg #[.int .i64 f, .slice A n c], .agg #[.int .i64 g, .int .i64 v]] W (ErrZ 2 W))
    (hT : ItoaAll w) :
    Calls Tryd.prog 7 #[.agg #[.int .i64 f, .slice A n c], .int .i64 k, .agg #[.int .i64 g, .int .i64 v]] w fun e w' => e = .returned (.bool true) ∧ Below w.heap.size w w' := by
  have HRC := Lib.hid hRC
  have HT := Lib.hid hT
  have HLA := Lib.hid hla
  have HLB := Lib.hid hlb
  have hle : n ≤ 1000000 := by omega
  have HF := Lib.hid hF
  have HPL := Lib.hid hP
  have HI := Lib.hid hI
  have HRF := Lib.hid hRF
  have HKN : Hid (∀ W, Below w.heap.size w W → Calls Tryd.prog 10 #[] W fun e w' => e = .returned (.bool true) ∧ Below W.heap.size W w') := fun W hW => known_calls W (HT.out.below hW)
  have s1 : decide ((n : Int) ≤ 60) = true := by rw [decide_eq_true_iff]; omega
  have HSM := Lib.hid (fun W => small_calls f A n c true W s1)
  clear hRC hT hn60 hla hlb hF hP hI hRF
  go_enter Tryd.func7, Tryd.ntmps7
  go_wp2_with fail
  obtain ⟨W0, hW0⟩ : ∃ W0, W0 = (w.alloc (.cells #[.int .i64 f, .slice A n c] 24)).alloc (.cells #[.int .i64 g, .int .i64 v] 31) := ⟨_, rfl⟩
  have hM := two_mem w _ _ W0 hW0
  have Y0 : Hid (FgZ f (.slice A n c) g v w w.heap.size (w.heap.size + 1) [] W0) := ⟨hM.2.2.2, hM.1, hM.2.1, fun x hx => by cases hx⟩
  obtain ⟨P, hP⟩ : ∃ P, P = w.heap.size := ⟨_, rfl⟩
  obtain ⟨Q, hQ⟩ : ∃ Q, Q = w.heap.size + 1 := ⟨_, rfl⟩
  rw [← hQ, ← hP] at Y0
  rw [← hW0, ← hQ, ← hP]
  clear hW0 hM hP hQ
  refine (HSM.out _).mono ?_
  rintro e w1 ⟨rfl, hb⟩
  have Y1 := Lib.hid (Y0.out.step hb)
  have a0 := Lib.cell_of_heap Y1.out.2.1 0
  have a1 := Lib.cell_of_heap Y1.out.2.1 1
  have a2 := Lib.cell_of_heap Y1.out.2.2.1 0
  have a3 := Lib.cell_of_heap Y1.out.2.2.1 1
  clear hb
  go_wp2_with fail
  refine (HRC.out _ Y1.out.1).mono ?_
  rintro e w2 ⟨rfl, hb⟩
  have Y2 := Lib.hid (Y1.out.step hb)
  clear hb
  clear a0 a1 a2 a3
  have a0 := Lib.cell_of_heap Y2.out.2.1 0
  have a1 := Lib.cell_of_heap Y2.out.2.1 1
  have a2 := Lib.cell_of_heap Y2.out.2.2.1 0
  have a3 := Lib.cell_of_heap Y2.out.2.2.1 1
  go_wp2_with fail
  refine (HF.out _ Y2.out.1).mono ?_
  rintro e v3 ⟨g3, rfl, ho, hb⟩
  have Y3 := Lib.hid ((Y2.out.step hb).add (f - 1) (.slice (some ⟨g3, 0, none⟩) n n))
  have HL3 := Lib.hid ((OwnL.lsR ho HLA.out).below ((Below.refl _ _).alloc (Nat.le_refl _) (.cells #[.int .i64 (f - 1), (.slice (some ⟨g3, 0, none⟩) n n)] 24)))
  obtain ⟨B3, hB⟩ : ∃ B, B = v3.heap.size := ⟨_, rfl⟩
  obtain ⟨V3, hV⟩ : ∃ V, V = v3.alloc (.cells #[.int .i64 (f - 1), (.slice (some ⟨g3, 0, none⟩) n n)] 24) := ⟨_, rfl⟩
  rw [← hV, ← hB] at Y3
  rw [← hV] at HL3
  clear a0 a1 a2 a3
  have a0 := Lib.cell_of_heap Y3.out.2.1 0
  have a1 := Lib.cell_of_heap Y3.out.2.1 1
  have a2 := Lib.cell_of_heap Y3.out.2.2.1 0
  have a3 := Lib.cell_of_heap Y3.out.2.2.1 1
  have HV3 := Lib.hid hV
  have HB3 := Lib.hid hB
  rw [hV] at a0 a1 a2 a3
  clear hb ho hV hB
  go_wp2_with fail
  rw [← HB3.out, ← HV3.out]
  have hb3 := Y3.out.2.2.2 (B3, f - 1, (.slice (some ⟨g3, 0, none⟩) n n)) (by simp)
  clear a0 a1 a2 a3
  go_region_held3 (fun w' => w'.cell? ⟨P, 0, none⟩ = some (.int .i64 f) ∧ w'.cell? ⟨P, 1, none⟩ = some (.slice A n c) ∧ w'.cell? ⟨Q, 0, none⟩ = some (.int .i64 g) ∧ w'.cell? ⟨Q, 1, none⟩ = some (.int .i64 v) ∧ w'.cell? ⟨B3, 0, none⟩ = some (.int .i64 (f - 1)) ∧ w'.cell? ⟨B3, 1, none⟩ = some (.slice (some ⟨g3, 0, none⟩) n n) ∧ Below V3.heap.size V3 w')
    (first
      | exact FgS.of Y3.out.2.1 Y3.out.2.2.1 hb3 (Below.refl _ _).drew
      | exact FgS.of Y3.out.2.1 Y3.out.2.2.1 hb3 (HBW.out))
    (first
      | (go_at_call 37; (with_reducible refine (HRF.out _ ?hbx).mono ?_); (case hbx => exact Y3.out.1.trans ((FgS.last (P := P) (Q := Q) (B := B3) (f := f) (vc := .slice A n c) (g := g) (v := v) (f2 := f - 1) (v2 := (.slice (some ⟨g3, 0, none⟩) n n)) (V := V3) (by assumption)).mono Y3.out.1.size)); rintro e w2 ⟨A1, c1, rfl, hrow, hbw⟩; have HBW := Lib.hid ((FgS.last (P := P) (Q := Q) (B := B3) (f := f) (vc := .slice A n c) (g := g) (v := v) (f2 := f - 1) (v2 := (.slice (some ⟨g3, 0, none⟩) n n)) (V := V3) (by assumption)).trans (hbw.mono (FgS.last (P := P) (Q := Q) (B := B3) (f := f) (vc := .slice A n c) (g := g) (v := v) (f2 := f - 1) (v2 := (.slice (some ⟨g3, 0, none⟩) n n)) (V := V3) (by assumption)).size)); have HE := Lib.hid (row_ls hrow HLA.out); clear hrow hbw)
      | (go_at_call 30; (with_reducible refine (codeEq_yes (f - 1) (some ⟨g3, 0, none⟩) A1 n n n c1 La _ ?hl HE.out hle).mono ?_); (case hl => exact HL3.out.below (FgS.last (P := P) (Q := Q) (B := B3) (f := f) (vc := .slice A n c) (g := g) (v := v) (f2 := f - 1) (v2 := (.slice (some ⟨g3, 0, none⟩) n n)) (V := V3) (by assumption))); rintro e w2 ⟨rfl, hbw⟩; have HBW := Lib.hid ((FgS.last (P := P) (Q := Q) (B := B3) (f := f) (vc := .slice A n c) (g := g) (v := v) (f2 := f - 1) (v2 := (.slice (some ⟨g3, 0, none⟩) n n)) (V := V3) (by assumption)).trans (hbw.mono (FgS.last (P := P) (Q := Q) (B := B3) (f := f) (vc := .slice A n c) (g := g) (v := v) (f2 := f - 1) (v2 := (.slice (some ⟨g3, 0, none⟩) n n)) (V := V3) (by assumption)).size)); clear hbw))
  have Y4 := Lib.hid (Y3.out.step HBW.out)
  have a0 := Lib.cell_of_heap Y4.out.2.1 0
  have a1 := Lib.cell_of_heap Y4.out.2.1 1
  have a2 := Lib.cell_of_heap Y4.out.2.2.1 0
  have a3 := Lib.cell_of_heap Y4.out.2.2.1 1
  clear HBW HE
  go_wp2_with fail
  refine (HI.out _ Y4.out.1).mono ?_
  rintro e v5 ⟨rfl, hb⟩
  have Y5 := Lib.hid ((Y4.out.step hb).add (0) (.slice none 0 0))
  obtain ⟨B5, hB⟩ : ∃ B, B = v5.heap.size := ⟨_, rfl⟩
  obtain ⟨V5, hV⟩ : ∃ V, V = v5.alloc (.cells #[.int .i64 (0), (.slice none 0 0)] 24) := ⟨_, rfl⟩
  rw [← hV, ← hB] at Y5
  clear a0 a1 a2 a3
  have a0 := Lib.cell_of_heap Y5.out.2.1 0
  have a1 := Lib.cell_of_heap Y5.out.2.1 1
  have a2 := Lib.cell_of_heap Y5.out.2.2.1 0
  have a3 := Lib.cell_of_heap Y5.out.2.2.1 1
  have HV5 := Lib.hid hV
  have HB5 := Lib.hid hB
  rw [hV] at a0 a1 a2 a3
  clear hb hV hB
  go_wp2_with fail
  rw [← HB5.out, ← HV5.out]
  have hb5 := Y5.out.2.2.2 (B5, 0, (.slice none 0 0)) (by simp)
  refine (HPL.out _ Y5.out.1).mono ?_
  rintro e V ⟨rfl, hb⟩
  have Y6 := Lib.hid (Y5.out.step hb)
  have b0 := Lib.cell_of_heap (Y6.out.2.2.2 (B5, 0, (.slice none 0 0)) (by simp)) 0
  have b1 := Lib.cell_of_heap (Y6.out.2.2.2 (B5, 0, (.slice none 0 0)) (by simp)) 1
  clear hb
  clear a0 a1 a2 a3
  have a0 := Lib.cell_of_heap Y6.out.2.1 0
  have a1 := Lib.cell_of_heap Y6.out.2.1 1
  have a2 := Lib.cell_of_heap Y6.out.2.2.1 0
  have a3 := Lib.cell_of_heap Y6.out.2.2.1 1
  go_wp2_with fail
  refine (codeEq_yes 0 none none 0 0 0 0 [] _ (ls_none _) (ls_none _) (by omega)).mono ?_
  rintro e w7 ⟨rfl, hb⟩
  have Y7 := Lib.hid (Y6.out.step hb)
  clear hb a0 a1 a2 a3 b0 b1
  go_wp2_with fail
  refine (HKN.out _ Y7.out.1).mono ?_
  rintro e w8 ⟨rfl, hb⟩
  have HF9 : Hid (Below w.heap.size w w8) := Y7.out.1.trans (hb.mono Y7.out.1.size)
  clear hb
  go_wp2_with fail
  go_ret
  exact ⟨rfl, HF9.out⟩

set_option maxHeartbeats 16000000 in
set_option maxRecDepth 100000 in
theorem codeFingers_ly (f k g v : Int) (A : Option Addr) (n c : Nat) (La Lb : List Lt) (w : World) (hn60 : n ≤ 60) (hla : La.length = n) (hlb : Lb.length = n)
    (hRC : ∀ W, Below w.heap.size w W → Calls Tryd.prog 12 #[.agg #[.int .i64 f, .slice A n c]] W fun e w' => e = .returned (.int .i64 0) ∧ Below W.heap.size W w')
    (t1 : decide (k < 1) = true)
    (hF : ∀ W, Below w.heap.size w W → Calls Tryd.prog 26 #[.agg #[.int .i64 f, .slice A n c], .int .i64 k] W (ErrZ 2 W))
    (hP : ∀ W, Below w.heap.size w W → Calls Tryd.prog 38 #[.agg #[.int .i64 f, .slice A n c], .agg #[.int .i64 g, .int .i64 v]] W fun e w' => e = .returned (.bool true) ∧ Below W.heap.size W w')
    (t3 : (f == 40) = false)
    (hI : ∀ W, Below w.heap.size w W → Calls Tryd.prog 27 #[.agg #[.int .i64 f, .slice A n c], .agg #[.int .i64 g, .int .i64 v]] W (OkF (f + 1) n Lb W))
    (hRI : ∀ W, Below w.heap.size w W → Calls Tryd.prog 39 #[.agg #[.int .i64 f, .slice A n c], .agg #[.int .i64 g, .int .i64 v]] W (OkC (f + 1) n Lb W))
    (hT : ItoaAll w) :
    Calls Tryd.prog 7 #[.agg #[.int .i64 f, .slice A n c], .int .i64 k, .agg #[.int .i64 g, .int .i64 v]] w fun e w' => e = .returned (.bool true) ∧ Below w.heap.size w w' := by
  have HRC := Lib.hid hRC
  have HT := Lib.hid hT
  have HLA := Lib.hid hla
  have HLB := Lib.hid hlb
  have hle : n ≤ 1000000 := by omega
  have HF := Lib.hid hF
  have HPL := Lib.hid hP
  have HI := Lib.hid hI
  have HRI := Lib.hid hRI
  have HKN : Hid (∀ W, Below w.heap.size w W → Calls Tryd.prog 10 #[] W fun e w' => e = .returned (.bool true) ∧ Below W.heap.size W w') := fun W hW => known_calls W (HT.out.below hW)
  have s1 : decide ((n : Int) ≤ 60) = true := by rw [decide_eq_true_iff]; omega
  have HSM := Lib.hid (fun W => small_calls f A n c true W s1)
  clear hRC hT hn60 hla hlb hF hP hI hRI
  go_enter Tryd.func7, Tryd.ntmps7
  go_wp2_with fail
  obtain ⟨W0, hW0⟩ : ∃ W0, W0 = (w.alloc (.cells #[.int .i64 f, .slice A n c] 24)).alloc (.cells #[.int .i64 g, .int .i64 v] 31) := ⟨_, rfl⟩
  have hM := two_mem w _ _ W0 hW0
  have Y0 : Hid (FgZ f (.slice A n c) g v w w.heap.size (w.heap.size + 1) [] W0) := ⟨hM.2.2.2, hM.1, hM.2.1, fun x hx => by cases hx⟩
  obtain ⟨P, hP⟩ : ∃ P, P = w.heap.size := ⟨_, rfl⟩
  obtain ⟨Q, hQ⟩ : ∃ Q, Q = w.heap.size + 1 := ⟨_, rfl⟩
  rw [← hQ, ← hP] at Y0
  rw [← hW0, ← hQ, ← hP]
  clear hW0 hM hP hQ
  refine (HSM.out _).mono ?_
  rintro e w1 ⟨rfl, hb⟩
  have Y1 := Lib.hid (Y0.out.step hb)
  have a0 := Lib.cell_of_heap Y1.out.2.1 0
  have a1 := Lib.cell_of_heap Y1.out.2.1 1
  have a2 := Lib.cell_of_heap Y1.out.2.2.1 0
  have a3 := Lib.cell_of_heap Y1.out.2.2.1 1
  clear hb
  go_wp2_with fail
  refine (HRC.out _ Y1.out.1).mono ?_
  rintro e w2 ⟨rfl, hb⟩
  have Y2 := Lib.hid (Y1.out.step hb)
  clear hb
  clear a0 a1 a2 a3
  have a0 := Lib.cell_of_heap Y2.out.2.1 0
  have a1 := Lib.cell_of_heap Y2.out.2.1 1
  have a2 := Lib.cell_of_heap Y2.out.2.2.1 0
  have a3 := Lib.cell_of_heap Y2.out.2.2.1 1
  go_wp2_with fail
  refine (HF.out _ Y2.out.1).mono ?_
  rintro e v3 ⟨rfl, hb⟩
  have Y3 := Lib.hid ((Y2.out.step hb).add (0) (.slice none 0 0))
  obtain ⟨B3, hB⟩ : ∃ B, B = v3.heap.size := ⟨_, rfl⟩
  obtain ⟨V3, hV⟩ : ∃ V, V = v3.alloc (.cells #[.int .i64 (0), (.slice none 0 0)] 24) := ⟨_, rfl⟩
  rw [← hV, ← hB] at Y3
  clear a0 a1 a2 a3
  have a0 := Lib.cell_of_heap Y3.out.2.1 0
  have a1 := Lib.cell_of_heap Y3.out.2.1 1
  have a2 := Lib.cell_of_heap Y3.out.2.2.1 0
  have a3 := Lib.cell_of_heap Y3.out.2.2.1 1
  have HV3 := Lib.hid hV
  have HB3 := Lib.hid hB
  rw [hV] at a0 a1 a2 a3
  clear hb hV hB
  go_wp2_with fail
  rw [← HB3.out, ← HV3.out]
  have hb3 := Y3.out.2.2.2 (B3, 0, (.slice none 0 0)) (by simp)
  refine (codeEq_yes 0 none none 0 0 0 0 [] _ (ls_none _) (ls_none _) (by omega)).mono ?_
  rintro e w4 ⟨rfl, hb⟩
  have Y4 := Lib.hid (Y3.out.step hb)
  clear hb
  clear a0 a1 a2 a3
  have a0 := Lib.cell_of_heap Y4.out.2.1 0
  have a1 := Lib.cell_of_heap Y4.out.2.1 1
  have a2 := Lib.cell_of_heap Y4.out.2.2.1 0
  have a3 := Lib.cell_of_heap Y4.out.2.2.1 1
  go_wp2_with fail
  refine (HI.out _ Y4.out.1).mono ?_
  rintro e v5 ⟨g5, rfl, ho, hb⟩
  have Y5 := Lib.hid ((Y4.out.step hb).add (f + 1) (.slice (some ⟨g5, 0, none⟩) n n))
  have HL5 := Lib.hid ((OwnL.lsR ho HLB.out).below ((Below.refl _ _).alloc (Nat.le_refl _) (.cells #[.int .i64 (f + 1), (.slice (some ⟨g5, 0, none⟩) n n)] 24)))
  obtain ⟨B5, hB⟩ : ∃ B, B = v5.heap.size := ⟨_, rfl⟩
  obtain ⟨V5, hV⟩ : ∃ V, V = v5.alloc (.cells #[.int .i64 (f + 1), (.slice (some ⟨g5, 0, none⟩) n n)] 24) := ⟨_, rfl⟩
  rw [← hV, ← hB] at Y5
  rw [← hV] at HL5
  clear a0 a1 a2 a3
  have a0 := Lib.cell_of_heap Y5.out.2.1 0
  have a1 := Lib.cell_of_heap Y5.out.2.1 1
  have a2 := Lib.cell_of_heap Y5.out.2.2.1 0
  have a3 := Lib.cell_of_heap Y5.out.2.2.1 1
  have HV5 := Lib.hid hV
  have HB5 := Lib.hid hB
  rw [hV] at a0 a1 a2 a3
  clear hb ho hV hB
  go_wp2_with fail
  rw [← HB5.out, ← HV5.out]
  have hb5 := Y5.out.2.2.2 (B5, f + 1, (.slice (some ⟨g5, 0, none⟩) n n)) (by simp)
  refine (HPL.out _ Y5.out.1).mono ?_
  rintro e V ⟨rfl, hb⟩
  have Y6 := Lib.hid (Y5.out.step hb)
  have b0 := Lib.cell_of_heap (Y6.out.2.2.2 (B5, f + 1, (.slice (some ⟨g5, 0, none⟩) n n)) (by simp)) 0
  have b1 := Lib.cell_of_heap (Y6.out.2.2.2 (B5, f + 1, (.slice (some ⟨g5, 0, none⟩) n n)) (by simp)) 1
  have HL6 := Lib.hid (HL5.out.below hb)
  clear hb
  clear a0 a1 a2 a3
  have a0 := Lib.cell_of_heap Y6.out.2.1 0
  have a1 := Lib.cell_of_heap Y6.out.2.1 1
  have a2 := Lib.cell_of_heap Y6.out.2.2.1 0
  have a3 := Lib.cell_of_heap Y6.out.2.2.1 1
  go_wp2_with fail
  have hb6 := Y6.out.2.2.2 (B5, f + 1, (.slice (some ⟨g5, 0, none⟩) n n)) (by simp)
  clear a0 a1 a2 a3 b0 b1 hb5
  go_region_held3 (fun w' => w'.cell? ⟨P, 0, none⟩ = some (.int .i64 f) ∧ w'.cell? ⟨P, 1, none⟩ = some (.slice A n c) ∧ w'.cell? ⟨Q, 0, none⟩ = some (.int .i64 g) ∧ w'.cell? ⟨Q, 1, none⟩ = some (.int .i64 v) ∧ w'.cell? ⟨B5, 0, none⟩ = some (.int .i64 (f + 1)) ∧ w'.cell? ⟨B5, 1, none⟩ = some (.slice (some ⟨g5, 0, none⟩) n n) ∧ Below V.heap.size V w')
    (first
      | exact FgS.of Y6.out.2.1 Y6.out.2.2.1 hb6 (Below.refl _ _).drew
      | exact FgS.of Y6.out.2.1 Y6.out.2.2.1 hb6 HBX.out)
    (first
      | (go_at_call 39; (with_reducible refine (HRI.out _ ?hbx).mono ?_); (case hbx => exact Y6.out.1.trans ((FgS.last (P := P) (Q := Q) (B := B5) (f := f) (vc := .slice A n c) (g := g) (v := v) (f2 := f + 1) (v2 := (.slice (some ⟨g5, 0, none⟩) n n)) (V := V) (by assumption)).mono Y6.out.1.size)); rintro e w8 ⟨A2, c2, rfl, hrow, hbw⟩; have HBX := Lib.hid ((FgS.last (P := P) (Q := Q) (B := B5) (f := f) (vc := .slice A n c) (g := g) (v := v) (f2 := f + 1) (v2 := (.slice (some ⟨g5, 0, none⟩) n n)) (V := V) (by assumption)).trans (hbw.mono (FgS.last (P := P) (Q := Q) (B := B5) (f := f) (vc := .slice A n c) (g := g) (v := v) (f2 := f + 1) (v2 := (.slice (some ⟨g5, 0, none⟩) n n)) (V := V) (by assumption)).size)); have HE2 := Lib.hid (row_ls hrow HLB.out); clear hrow hbw)
      | (go_at_call 10; (with_reducible refine (HKN.out _ ?hbx).mono ?_); (case hbx => exact Y6.out.1.trans ((FgS.last (P := P) (Q := Q) (B := B5) (f := f) (vc := .slice A n c) (g := g) (v := v) (f2 := f + 1) (v2 := (.slice (some ⟨g5, 0, none⟩) n n)) (V := V) (by assumption)).mono Y6.out.1.size)); rintro e w8 ⟨rfl, hbw⟩; have HBX := Lib.hid ((FgS.last (P := P) (Q := Q) (B := B5) (f := f) (vc := .slice A n c) (g := g) (v := v) (f2 := f + 1) (v2 := (.slice (some ⟨g5, 0, none⟩) n n)) (V := V) (by assumption)).trans (hbw.mono (FgS.last (P := P) (Q := Q) (B := B5) (f := f) (vc := .slice A n c) (g := g) (v := v) (f2 := f + 1) (v2 := (.slice (some ⟨g5, 0, none⟩) n n)) (V := V) (by assumption)).size)); clear hbw)
      | (go_at_call 30; (with_reducible refine (codeEq_yes (f + 1) (some ⟨g5, 0, none⟩) A2 n n n c2 Lb _ ?hl HE2.out hle).mono ?_); (case hl => exact HL6.out.below (FgS.last (P := P) (Q := Q) (B := B5) (f := f) (vc := .slice A n c) (g := g) (v := v) (f2 := f + 1) (v2 := (.slice (some ⟨g5, 0, none⟩) n n)) (V := V) (by assumption))); rintro e w8 ⟨rfl, hbw⟩; have HBX := Lib.hid ((FgS.last (P := P) (Q := Q) (B := B5) (f := f) (vc := .slice A n c) (g := g) (v := v) (f2 := f + 1) (v2 := (.slice (some ⟨g5, 0, none⟩) n n)) (V := V) (by assumption)).trans (hbw.mono (FgS.last (P := P) (Q := Q) (B := B5) (f := f) (vc := .slice A n c) (g := g) (v := v) (f2 := f + 1) (v2 := (.slice (some ⟨g5, 0, none⟩) n n)) (V := V) (by assumption)).size)); clear hbw))
  have HF9 : Hid (Below w.heap.size w w8) := Y6.out.1.trans (HBX.out.mono Y6.out.1.size)
  go_wp2_with fail
  go_ret
  exact ⟨rfl, HF9.out⟩

set_option maxHeartbeats 16000000 in
set_option maxRecDepth 100000 in
theorem codeFingers_lp (f k g v : Int) (A : Option Addr) (n c : Nat) (La Lb : List Lt) (w : World) (hn60 : n ≤ 60) (hla : La.length = n) (hlb : Lb.length = n)
    (hRC : ∀ W, Below w.heap.size w W → Calls Tryd.prog 12 #[.agg #[.int .i64 f, .slice A n c]] W fun e w' => e = .returned (.int .i64 0) ∧ Below W.heap.size W w')
    (t1 : decide (k < 1) = true)
    (hF : ∀ W, Below w.heap.size w W → Calls Tryd.prog 26 #[.agg #[.int .i64 f, .slice A n c], .int .i64 k] W (ErrZ 2 W))
    (hP : ∀ W, Below w.heap.size w W → Calls Tryd.prog 38 #[.agg #[.int .i64 f, .slice A n c], .agg #[.int .i64 g, .int .i64 v]] W fun e w' => e = .returned (.bool false) ∧ Below W.heap.size W w')
    (hI : ∀ W, Below w.heap.size w W → Calls Tryd.prog 27 #[.agg #[.int .i64 f, .slice A n c], .agg #[.int .i64 g, .int .i64 v]] W (ErrZ 2 W))
    (hT : ItoaAll w) :
    Calls Tryd.prog 7 #[.agg #[.int .i64 f, .slice A n c], .int .i64 k, .agg #[.int .i64 g, .int .i64 v]] w fun e w' => e = .returned (.bool true) ∧ Below w.heap.size w w' := by
  have HRC := Lib.hid hRC
  have HT := Lib.hid hT
  have HLA := Lib.hid hla
  have HLB := Lib.hid hlb
  have hle : n ≤ 1000000 := by omega
  have HF := Lib.hid hF
  have HPL := Lib.hid hP
  have HI := Lib.hid hI
  have HKN : Hid (∀ W, Below w.heap.size w W → Calls Tryd.prog 10 #[] W fun e w' => e = .returned (.bool true) ∧ Below W.heap.size W w') := fun W hW => known_calls W (HT.out.below hW)
  have s1 : decide ((n : Int) ≤ 60) = true := by rw [decide_eq_true_iff]; omega
  have HSM := Lib.hid (fun W => small_calls f A n c true W s1)
  clear hRC hT hn60 hla hlb hF hP hI
  go_enter Tryd.func7, Tryd.ntmps7
  go_wp2_with fail
  obtain ⟨W0, hW0⟩ : ∃ W0, W0 = (w.alloc (.cells #[.int .i64 f, .slice A n c] 24)).alloc (.cells #[.int .i64 g, .int .i64 v] 31) := ⟨_, rfl⟩
  have hM := two_mem w _ _ W0 hW0
  have Y0 : Hid (FgZ f (.slice A n c) g v w w.heap.size (w.heap.size + 1) [] W0) := ⟨hM.2.2.2, hM.1, hM.2.1, fun x hx => by cases hx⟩
  obtain ⟨P, hP⟩ : ∃ P, P = w.heap.size := ⟨_, rfl⟩
  obtain ⟨Q, hQ⟩ : ∃ Q, Q = w.heap.size + 1 := ⟨_, rfl⟩
  rw [← hQ, ← hP] at Y0
  rw [← hW0, ← hQ, ← hP]
  clear hW0 hM hP hQ
  refine (HSM.out _).mono ?_
  rintro e w1 ⟨rfl, hb⟩
  have Y1 := Lib.hid (Y0.out.step hb)
  have a0 := Lib.cell_of_heap Y1.out.2.1 0
  have a1 := Lib.cell_of_heap Y1.out.2.1 1
  have a2 := Lib.cell_of_heap Y1.out.2.2.1 0
  have a3 := Lib.cell_of_heap Y1.out.2.2.1 1
  clear hb
  go_wp2_with fail
  refine (HRC.out _ Y1.out.1).mono ?_
  rintro e w2 ⟨rfl, hb⟩
  have Y2 := Lib.hid (Y1.out.step hb)
  clear hb
  clear a0 a1 a2 a3
  have a0 := Lib.cell_of_heap Y2.out.2.1 0
  have a1 := Lib.cell_of_heap Y2.out.2.1 1
  have a2 := Lib.cell_of_heap Y2.out.2.2.1 0
  have a3 := Lib.cell_of_heap Y2.out.2.2.1 1
  go_wp2_with fail
  refine (HF.out _ Y2.out.1).mono ?_
  rintro e v3 ⟨rfl, hb⟩
  have Y3 := Lib.hid ((Y2.out.step hb).add (0) (.slice none 0 0))
  obtain ⟨B3, hB⟩ : ∃ B, B = v3.heap.size := ⟨_, rfl⟩
  obtain ⟨V3, hV⟩ : ∃ V, V = v3.alloc (.cells #[.int .i64 (0), (.slice none 0 0)] 24) := ⟨_, rfl⟩
  rw [← hV, ← hB] at Y3
  clear a0 a1 a2 a3
  have a0 := Lib.cell_of_heap Y3.out.2.1 0
  have a1 := Lib.cell_of_heap Y3.out.2.1 1
  have a2 := Lib.cell_of_heap Y3.out.2.2.1 0
  have a3 := Lib.cell_of_heap Y3.out.2.2.1 1
  have HV3 := Lib.hid hV
  have HB3 := Lib.hid hB
  rw [hV] at a0 a1 a2 a3
  clear hb hV hB
  go_wp2_with fail
  rw [← HB3.out, ← HV3.out]
  have hb3 := Y3.out.2.2.2 (B3, 0, (.slice none 0 0)) (by simp)
  refine (codeEq_yes 0 none none 0 0 0 0 [] _ (ls_none _) (ls_none _) (by omega)).mono ?_
  rintro e w4 ⟨rfl, hb⟩
  have Y4 := Lib.hid (Y3.out.step hb)
  clear hb
  clear a0 a1 a2 a3
  have a0 := Lib.cell_of_heap Y4.out.2.1 0
  have a1 := Lib.cell_of_heap Y4.out.2.1 1
  have a2 := Lib.cell_of_heap Y4.out.2.2.1 0
  have a3 := Lib.cell_of_heap Y4.out.2.2.1 1
  go_wp2_with fail
  refine (HI.out _ Y4.out.1).mono ?_
  rintro e v5 ⟨rfl, hb⟩
  have Y5 := Lib.hid ((Y4.out.step hb).add (0) (.slice none 0 0))
  obtain ⟨B5, hB⟩ : ∃ B, B = v5.heap.size := ⟨_, rfl⟩
  obtain ⟨V5, hV⟩ : ∃ V, V = v5.alloc (.cells #[.int .i64 (0), (.slice none 0 0)] 24) := ⟨_, rfl⟩
  rw [← hV, ← hB] at Y5
  clear a0 a1 a2 a3
  have a0 := Lib.cell_of_heap Y5.out.2.1 0
  have a1 := Lib.cell_of_heap Y5.out.2.1 1
  have a2 := Lib.cell_of_heap Y5.out.2.2.1 0
  have a3 := Lib.cell_of_heap Y5.out.2.2.1 1
  have HV5 := Lib.hid hV
  have HB5 := Lib.hid hB
  rw [hV] at a0 a1 a2 a3
  clear hb hV hB
  go_wp2_with fail
  rw [← HB5.out, ← HV5.out]
  have hb5 := Y5.out.2.2.2 (B5, 0, (.slice none 0 0)) (by simp)
  refine (HPL.out _ Y5.out.1).mono ?_
  rintro e V ⟨rfl, hb⟩
  have Y6 := Lib.hid (Y5.out.step hb)
  have b0 := Lib.cell_of_heap (Y6.out.2.2.2 (B5, 0, (.slice none 0 0)) (by simp)) 0
  have b1 := Lib.cell_of_heap (Y6.out.2.2.2 (B5, 0, (.slice none 0 0)) (by simp)) 1
  clear hb
  clear a0 a1 a2 a3
  have a0 := Lib.cell_of_heap Y6.out.2.1 0
  have a1 := Lib.cell_of_heap Y6.out.2.1 1
  have a2 := Lib.cell_of_heap Y6.out.2.2.1 0
  have a3 := Lib.cell_of_heap Y6.out.2.2.1 1
  go_wp2_with fail
  refine (codeEq_yes 0 none none 0 0 0 0 [] _ (ls_none _) (ls_none _) (by omega)).mono ?_
  rintro e w7 ⟨rfl, hb⟩
  have Y7 := Lib.hid (Y6.out.step hb)
  clear hb a0 a1 a2 a3 b0 b1
  go_wp2_with fail
  refine (HKN.out _ Y7.out.1).mono ?_
  rintro e w8 ⟨rfl, hb⟩
  have HF9 : Hid (Below w.heap.size w w8) := Y7.out.1.trans (hb.mono Y7.out.1.size)
  clear hb
  go_wp2_with fail
  go_ret
  exact ⟨rfl, HF9.out⟩

set_option maxHeartbeats 16000000 in
set_option maxRecDepth 100000 in
theorem codeFingers_lf (f k g v : Int) (A : Option Addr) (n c : Nat) (La Lb : List Lt) (w : World) (hn60 : n ≤ 60) (hla : La.length = n) (hlb : Lb.length = n)
    (hRC : ∀ W, Below w.heap.size w W → Calls Tryd.prog 12 #[.agg #[.int .i64 f, .slice A n c]] W fun e w' => e = .returned (.int .i64 0) ∧ Below W.heap.size W w')
    (t1 : decide (k < 1) = true)
    (hF : ∀ W, Below w.heap.size w W → Calls Tryd.prog 26 #[.agg #[.int .i64 f, .slice A n c], .int .i64 k] W (ErrZ 2 W))
    (hP : ∀ W, Below w.heap.size w W → Calls Tryd.prog 38 #[.agg #[.int .i64 f, .slice A n c], .agg #[.int .i64 g, .int .i64 v]] W fun e w' => e = .returned (.bool true) ∧ Below W.heap.size W w')
    (t3 : (f == 40) = true)
    (hI : ∀ W, Below w.heap.size w W → Calls Tryd.prog 27 #[.agg #[.int .i64 f, .slice A n c], .agg #[.int .i64 g, .int .i64 v]] W (ErrZ 2 W))
    (hT : ItoaAll w) :
    Calls Tryd.prog 7 #[.agg #[.int .i64 f, .slice A n c], .int .i64 k, .agg #[.int .i64 g, .int .i64 v]] w fun e w' => e = .returned (.bool true) ∧ Below w.heap.size w w' := by
  have HRC := Lib.hid hRC
  have HT := Lib.hid hT
  have HLA := Lib.hid hla
  have HLB := Lib.hid hlb
  have hle : n ≤ 1000000 := by omega
  have HF := Lib.hid hF
  have HPL := Lib.hid hP
  have HI := Lib.hid hI
  have HKN : Hid (∀ W, Below w.heap.size w W → Calls Tryd.prog 10 #[] W fun e w' => e = .returned (.bool true) ∧ Below W.heap.size W w') := fun W hW => known_calls W (HT.out.below hW)
  have s1 : decide ((n : Int) ≤ 60) = true := by rw [decide_eq_true_iff]; omega
  have HSM := Lib.hid (fun W => small_calls f A n c true W s1)
  clear hRC hT hn60 hla hlb hF hP hI
  go_enter Tryd.func7, Tryd.ntmps7
  go_wp2_with fail
  obtain ⟨W0, hW0⟩ : ∃ W0, W0 = (w.alloc (.cells #[.int .i64 f, .slice A n c] 24)).alloc (.cells #[.int .i64 g, .int .i64 v] 31) := ⟨_, rfl⟩
  have hM := two_mem w _ _ W0 hW0
  have Y0 : Hid (FgZ f (.slice A n c) g v w w.heap.size (w.heap.size + 1) [] W0) := ⟨hM.2.2.2, hM.1, hM.2.1, fun x hx => by cases hx⟩
  obtain ⟨P, hP⟩ : ∃ P, P = w.heap.size := ⟨_, rfl⟩
  obtain ⟨Q, hQ⟩ : ∃ Q, Q = w.heap.size + 1 := ⟨_, rfl⟩
  rw [← hQ, ← hP] at Y0
  rw [← hW0, ← hQ, ← hP]
  clear hW0 hM hP hQ
  refine (HSM.out _).mono ?_
  rintro e w1 ⟨rfl, hb⟩
  have Y1 := Lib.hid (Y0.out.step hb)
  have a0 := Lib.cell_of_heap Y1.out.2.1 0
  have a1 := Lib.cell_of_heap Y1.out.2.1 1
  have a2 := Lib.cell_of_heap Y1.out.2.2.1 0
  have a3 := Lib.cell_of_heap Y1.out.2.2.1 1
  clear hb
  go_wp2_with fail
  refine (HRC.out _ Y1.out.1).mono ?_
  rintro e w2 ⟨rfl, hb⟩
  have Y2 := Lib.hid (Y1.out.step hb)
  clear hb
  clear a0 a1 a2 a3
  have a0 := Lib.cell_of_heap Y2.out.2.1 0
  have a1 := Lib.cell_of_heap Y2.out.2.1 1
  have a2 := Lib.cell_of_heap Y2.out.2.2.1 0
  have a3 := Lib.cell_of_heap Y2.out.2.2.1 1
  go_wp2_with fail
  refine (HF.out _ Y2.out.1).mono ?_
  rintro e v3 ⟨rfl, hb⟩
  have Y3 := Lib.hid ((Y2.out.step hb).add (0) (.slice none 0 0))
  obtain ⟨B3, hB⟩ : ∃ B, B = v3.heap.size := ⟨_, rfl⟩
  obtain ⟨V3, hV⟩ : ∃ V, V = v3.alloc (.cells #[.int .i64 (0), (.slice none 0 0)] 24) := ⟨_, rfl⟩
  rw [← hV, ← hB] at Y3
  clear a0 a1 a2 a3
  have a0 := Lib.cell_of_heap Y3.out.2.1 0
  have a1 := Lib.cell_of_heap Y3.out.2.1 1
  have a2 := Lib.cell_of_heap Y3.out.2.2.1 0
  have a3 := Lib.cell_of_heap Y3.out.2.2.1 1
  have HV3 := Lib.hid hV
  have HB3 := Lib.hid hB
  rw [hV] at a0 a1 a2 a3
  clear hb hV hB
  go_wp2_with fail
  rw [← HB3.out, ← HV3.out]
  have hb3 := Y3.out.2.2.2 (B3, 0, (.slice none 0 0)) (by simp)
  refine (codeEq_yes 0 none none 0 0 0 0 [] _ (ls_none _) (ls_none _) (by omega)).mono ?_
  rintro e w4 ⟨rfl, hb⟩
  have Y4 := Lib.hid (Y3.out.step hb)
  clear hb
  clear a0 a1 a2 a3
  have a0 := Lib.cell_of_heap Y4.out.2.1 0
  have a1 := Lib.cell_of_heap Y4.out.2.1 1
  have a2 := Lib.cell_of_heap Y4.out.2.2.1 0
  have a3 := Lib.cell_of_heap Y4.out.2.2.1 1
  go_wp2_with fail
  refine (HI.out _ Y4.out.1).mono ?_
  rintro e v5 ⟨rfl, hb⟩
  have Y5 := Lib.hid ((Y4.out.step hb).add (0) (.slice none 0 0))
  obtain ⟨B5, hB⟩ : ∃ B, B = v5.heap.size := ⟨_, rfl⟩
  obtain ⟨V5, hV⟩ : ∃ V, V = v5.alloc (.cells #[.int .i64 (0), (.slice none 0 0)] 24) := ⟨_, rfl⟩
  rw [← hV, ← hB] at Y5
  clear a0 a1 a2 a3
  have a0 := Lib.cell_of_heap Y5.out.2.1 0
  have a1 := Lib.cell_of_heap Y5.out.2.1 1
  have a2 := Lib.cell_of_heap Y5.out.2.2.1 0
  have a3 := Lib.cell_of_heap Y5.out.2.2.1 1
  have HV5 := Lib.hid hV
  have HB5 := Lib.hid hB
  rw [hV] at a0 a1 a2 a3
  clear hb hV hB
  go_wp2_with fail
  rw [← HB5.out, ← HV5.out]
  have hb5 := Y5.out.2.2.2 (B5, 0, (.slice none 0 0)) (by simp)
  refine (HPL.out _ Y5.out.1).mono ?_
  rintro e V ⟨rfl, hb⟩
  have Y6 := Lib.hid (Y5.out.step hb)
  have b0 := Lib.cell_of_heap (Y6.out.2.2.2 (B5, 0, (.slice none 0 0)) (by simp)) 0
  have b1 := Lib.cell_of_heap (Y6.out.2.2.2 (B5, 0, (.slice none 0 0)) (by simp)) 1
  clear hb
  clear a0 a1 a2 a3
  have a0 := Lib.cell_of_heap Y6.out.2.1 0
  have a1 := Lib.cell_of_heap Y6.out.2.1 1
  have a2 := Lib.cell_of_heap Y6.out.2.2.1 0
  have a3 := Lib.cell_of_heap Y6.out.2.2.1 1
  go_wp2_with fail
  refine (codeEq_yes 0 none none 0 0 0 0 [] _ (ls_none _) (ls_none _) (by omega)).mono ?_
  rintro e w7 ⟨rfl, hb⟩
  have Y7 := Lib.hid (Y6.out.step hb)
  clear hb a0 a1 a2 a3 b0 b1
  go_wp2_with fail
  refine (HKN.out _ Y7.out.1).mono ?_
  rintro e w8 ⟨rfl, hb⟩
  have HF9 : Hid (Below w.heap.size w w8) := Y7.out.1.trans (hb.mono Y7.out.1.size)
  clear hb
  go_wp2_with fail
  go_ret
  exact ⟨rfl, HF9.out⟩

set_option maxHeartbeats 16000000 in
set_option maxRecDepth 100000 in
theorem codeFingers_hy (f k g v : Int) (A : Option Addr) (n c : Nat) (La Lb : List Lt) (w : World) (hn60 : n ≤ 60) (hla : La.length = n) (hlb : Lb.length = n)
    (hRC : ∀ W, Below w.heap.size w W → Calls Tryd.prog 12 #[.agg #[.int .i64 f, .slice A n c]] W fun e w' => e = .returned (.int .i64 0) ∧ Below W.heap.size W w')
    (t1 : decide (k < 1) = false) (t2 : decide (f < k) = true)
    (hF : ∀ W, Below w.heap.size w W → Calls Tryd.prog 26 #[.agg #[.int .i64 f, .slice A n c], .int .i64 k] W (ErrZ 2 W))
    (hP : ∀ W, Below w.heap.size w W → Calls Tryd.prog 38 #[.agg #[.int .i64 f, .slice A n c], .agg #[.int .i64 g, .int .i64 v]] W fun e w' => e = .returned (.bool true) ∧ Below W.heap.size W w')
    (t3 : (f == 40) = false)
    (hI : ∀ W, Below w.heap.size w W → Calls Tryd.prog 27 #[.agg #[.int .i64 f, .slice A n c], .agg #[.int .i64 g, .int .i64 v]] W (OkF (f + 1) n Lb W))
    (hRI : ∀ W, Below w.heap.size w W → Calls Tryd.prog 39 #[.agg #[.int .i64 f, .slice A n c], .agg #[.int .i64 g, .int .i64 v]] W (OkC (f + 1) n Lb W))
    (hT : ItoaAll w) :
    Calls Tryd.prog 7 #[.agg #[.int .i64 f, .slice A n c], .int .i64 k, .agg #[.int .i64 g, .int .i64 v]] w fun e w' => e = .returned (.bool true) ∧ Below w.heap.size w w' := by
  have HRC := Lib.hid hRC
  have HT := Lib.hid hT
  have HLA := Lib.hid hla
  have HLB := Lib.hid hlb
  have hle : n ≤ 1000000 := by omega
  have HF := Lib.hid hF
  have HPL := Lib.hid hP
  have HI := Lib.hid hI
  have HRI := Lib.hid hRI
  have HKN : Hid (∀ W, Below w.heap.size w W → Calls Tryd.prog 10 #[] W fun e w' => e = .returned (.bool true) ∧ Below W.heap.size W w') := fun W hW => known_calls W (HT.out.below hW)
  have s1 : decide ((n : Int) ≤ 60) = true := by rw [decide_eq_true_iff]; omega
  have HSM := Lib.hid (fun W => small_calls f A n c true W s1)
  clear hRC hT hn60 hla hlb hF hP hI hRI
  go_enter Tryd.func7, Tryd.ntmps7
  go_wp2_with fail
  obtain ⟨W0, hW0⟩ : ∃ W0, W0 = (w.alloc (.cells #[.int .i64 f, .slice A n c] 24)).alloc (.cells #[.int .i64 g, .int .i64 v] 31) := ⟨_, rfl⟩
  have hM := two_mem w _ _ W0 hW0
  have Y0 : Hid (FgZ f (.slice A n c) g v w w.heap.size (w.heap.size + 1) [] W0) := ⟨hM.2.2.2, hM.1, hM.2.1, fun x hx => by cases hx⟩
  obtain ⟨P, hP⟩ : ∃ P, P = w.heap.size := ⟨_, rfl⟩
  obtain ⟨Q, hQ⟩ : ∃ Q, Q = w.heap.size + 1 := ⟨_, rfl⟩
  rw [← hQ, ← hP] at Y0
  rw [← hW0, ← hQ, ← hP]
  clear hW0 hM hP hQ
  refine (HSM.out _).mono ?_
  rintro e w1 ⟨rfl, hb⟩
  have Y1 := Lib.hid (Y0.out.step hb)
  have a0 := Lib.cell_of_heap Y1.out.2.1 0
  have a1 := Lib.cell_of_heap Y1.out.2.1 1
  have a2 := Lib.cell_of_heap Y1.out.2.2.1 0
  have a3 := Lib.cell_of_heap Y1.out.2.2.1 1
  clear hb
  go_wp2_with fail
  refine (HRC.out _ Y1.out.1).mono ?_
  rintro e w2 ⟨rfl, hb⟩
  have Y2 := Lib.hid (Y1.out.step hb)
  clear hb
  clear a0 a1 a2 a3
  have a0 := Lib.cell_of_heap Y2.out.2.1 0
  have a1 := Lib.cell_of_heap Y2.out.2.1 1
  have a2 := Lib.cell_of_heap Y2.out.2.2.1 0
  have a3 := Lib.cell_of_heap Y2.out.2.2.1 1
  go_wp2_with fail
  refine (HF.out _ Y2.out.1).mono ?_
  rintro e v3 ⟨rfl, hb⟩
  have Y3 := Lib.hid ((Y2.out.step hb).add (0) (.slice none 0 0))
  obtain ⟨B3, hB⟩ : ∃ B, B = v3.heap.size := ⟨_, rfl⟩
  obtain ⟨V3, hV⟩ : ∃ V, V = v3.alloc (.cells #[.int .i64 (0), (.slice none 0 0)] 24) := ⟨_, rfl⟩
  rw [← hV, ← hB] at Y3
  clear a0 a1 a2 a3
  have a0 := Lib.cell_of_heap Y3.out.2.1 0
  have a1 := Lib.cell_of_heap Y3.out.2.1 1
  have a2 := Lib.cell_of_heap Y3.out.2.2.1 0
  have a3 := Lib.cell_of_heap Y3.out.2.2.1 1
  have HV3 := Lib.hid hV
  have HB3 := Lib.hid hB
  rw [hV] at a0 a1 a2 a3
  clear hb hV hB
  go_wp2_with fail
  rw [← HB3.out, ← HV3.out]
  have hb3 := Y3.out.2.2.2 (B3, 0, (.slice none 0 0)) (by simp)
  refine (codeEq_yes 0 none none 0 0 0 0 [] _ (ls_none _) (ls_none _) (by omega)).mono ?_
  rintro e w4 ⟨rfl, hb⟩
  have Y4 := Lib.hid (Y3.out.step hb)
  clear hb
  clear a0 a1 a2 a3
  have a0 := Lib.cell_of_heap Y4.out.2.1 0
  have a1 := Lib.cell_of_heap Y4.out.2.1 1
  have a2 := Lib.cell_of_heap Y4.out.2.2.1 0
  have a3 := Lib.cell_of_heap Y4.out.2.2.1 1
  go_wp2_with fail
  refine (HI.out _ Y4.out.1).mono ?_
  rintro e v5 ⟨g5, rfl, ho, hb⟩
  have Y5 := Lib.hid ((Y4.out.step hb).add (f + 1) (.slice (some ⟨g5, 0, none⟩) n n))
  have HL5 := Lib.hid ((OwnL.lsR ho HLB.out).below ((Below.refl _ _).alloc (Nat.le_refl _) (.cells #[.int .i64 (f + 1), (.slice (some ⟨g5, 0, none⟩) n n)] 24)))
  obtain ⟨B5, hB⟩ : ∃ B, B = v5.heap.size := ⟨_, rfl⟩
  obtain ⟨V5, hV⟩ : ∃ V, V = v5.alloc (.cells #[.int .i64 (f + 1), (.slice (some ⟨g5, 0, none⟩) n n)] 24) := ⟨_, rfl⟩
  rw [← hV, ← hB] at Y5
  rw [← hV] at HL5
  clear a0 a1 a2 a3
  have a0 := Lib.cell_of_heap Y5.out.2.1 0
  have a1 := Lib.cell_of_heap Y5.out.2.1 1
  have a2 := Lib.cell_of_heap Y5.out.2.2.1 0
  have a3 := Lib.cell_of_heap Y5.out.2.2.1 1
  have HV5 := Lib.hid hV
  have HB5 := Lib.hid hB
  rw [hV] at a0 a1 a2 a3
  clear hb ho hV hB
  go_wp2_with fail
  rw [← HB5.out, ← HV5.out]
  have hb5 := Y5.out.2.2.2 (B5, f + 1, (.slice (some ⟨g5, 0, none⟩) n n)) (by simp)
  refine (HPL.out _ Y5.out.1).mono ?_
  rintro e V ⟨rfl, hb⟩
  have Y6 := Lib.hid (Y5.out.step hb)
  have b0 := Lib.cell_of_heap (Y6.out.2.2.2 (B5, f + 1, (.slice (some ⟨g5, 0, none⟩) n n)) (by simp)) 0
  have b1 := Lib.cell_of_heap (Y6.out.2.2.2 (B5, f + 1, (.slice (some ⟨g5, 0, none⟩) n n)) (by simp)) 1
  have HL6 := Lib.hid (HL5.out.below hb)
  clear hb
  clear a0 a1 a2 a3
  have a0 := Lib.cell_of_heap Y6.out.2.1 0
  have a1 := Lib.cell_of_heap Y6.out.2.1 1
  have a2 := Lib.cell_of_heap Y6.out.2.2.1 0
  have a3 := Lib.cell_of_heap Y6.out.2.2.1 1
  go_wp2_with fail
  have hb6 := Y6.out.2.2.2 (B5, f + 1, (.slice (some ⟨g5, 0, none⟩) n n)) (by simp)
  clear a0 a1 a2 a3 b0 b1 hb5
  go_region_held3 (fun w' => w'.cell? ⟨P, 0, none⟩ = some (.int .i64 f) ∧ w'.cell? ⟨P, 1, none⟩ = some (.slice A n c) ∧ w'.cell? ⟨Q, 0, none⟩ = some (.int .i64 g) ∧ w'.cell? ⟨Q, 1, none⟩ = some (.int .i64 v) ∧ w'.cell? ⟨B5, 0, none⟩ = some (.int .i64 (f + 1)) ∧ w'.cell? ⟨B5, 1, none⟩ = some (.slice (some ⟨g5, 0, none⟩) n n) ∧ Below V.heap.size V w')
    (first
      | exact FgS.of Y6.out.2.1 Y6.out.2.2.1 hb6 (Below.refl _ _).drew
      | exact FgS.of Y6.out.2.1 Y6.out.2.2.1 hb6 HBX.out)
    (first
      | (go_at_call 39; (with_reducible refine (HRI.out _ ?hbx).mono ?_); (case hbx => exact Y6.out.1.trans ((FgS.last (P := P) (Q := Q) (B := B5) (f := f) (vc := .slice A n c) (g := g) (v := v) (f2 := f + 1) (v2 := (.slice (some ⟨g5, 0, none⟩) n n)) (V := V) (by assumption)).mono Y6.out.1.size)); rintro e w8 ⟨A2, c2, rfl, hrow, hbw⟩; have HBX := Lib.hid ((FgS.last (P := P) (Q := Q) (B := B5) (f := f) (vc := .slice A n c) (g := g) (v := v) (f2 := f + 1) (v2 := (.slice (some ⟨g5, 0, none⟩) n n)) (V := V) (by assumption)).trans (hbw.mono (FgS.last (P := P) (Q := Q) (B := B5) (f := f) (vc := .slice A n c) (g := g) (v := v) (f2 := f + 1) (v2 := (.slice (some ⟨g5, 0, none⟩) n n)) (V := V) (by assumption)).size)); have HE2 := Lib.hid (row_ls hrow HLB.out); clear hrow hbw)
      | (go_at_call 10; (with_reducible refine (HKN.out _ ?hbx).mono ?_); (case hbx => exact Y6.out.1.trans ((FgS.last (P := P) (Q := Q) (B := B5) (f := f) (vc := .slice A n c) (g := g) (v := v) (f2 := f + 1) (v2 := (.slice (some ⟨g5, 0, none⟩) n n)) (V := V) (by assumption)).mono Y6.out.1.size)); rintro e w8 ⟨rfl, hbw⟩; have HBX := Lib.hid ((FgS.last (P := P) (Q := Q) (B := B5) (f := f) (vc := .slice A n c) (g := g) (v := v) (f2 := f + 1) (v2 := (.slice (some ⟨g5, 0, none⟩) n n)) (V := V) (by assumption)).trans (hbw.mono (FgS.last (P := P) (Q := Q) (B := B5) (f := f) (vc := .slice A n c) (g := g) (v := v) (f2 := f + 1) (v2 := (.slice (some ⟨g5, 0, none⟩) n n)) (V := V) (by assumption)).size)); clear hbw)
      | (go_at_call 30; (with_reducible refine (codeEq_yes (f + 1) (some ⟨g5, 0, none⟩) A2 n n n c2 Lb _ ?hl HE2.out hle).mono ?_); (case hl => exact HL6.out.below (FgS.last (P := P) (Q := Q) (B := B5) (f := f) (vc := .slice A n c) (g := g) (v := v) (f2 := f + 1) (v2 := (.slice (some ⟨g5, 0, none⟩) n n)) (V := V) (by assumption))); rintro e w8 ⟨rfl, hbw⟩; have HBX := Lib.hid ((FgS.last (P := P) (Q := Q) (B := B5) (f := f) (vc := .slice A n c) (g := g) (v := v) (f2 := f + 1) (v2 := (.slice (some ⟨g5, 0, none⟩) n n)) (V := V) (by assumption)).trans (hbw.mono (FgS.last (P := P) (Q := Q) (B := B5) (f := f) (vc := .slice A n c) (g := g) (v := v) (f2 := f + 1) (v2 := (.slice (some ⟨g5, 0, none⟩) n n)) (V := V) (by assumption)).size)); clear hbw))
  have HF9 : Hid (Below w.heap.size w w8) := Y6.out.1.trans (HBX.out.mono Y6.out.1.size)
  go_wp2_with fail
  go_ret
  exact ⟨rfl, HF9.out⟩

set_option maxHeartbeats 16000000 in
set_option maxRecDepth 100000 in
theorem codeFingers_hp (f k g v : Int) (A : Option Addr) (n c : Nat) (La Lb : List Lt) (w : World) (hn60 : n ≤ 60) (hla : La.length = n) (hlb : Lb.length = n)
    (hRC : ∀ W, Below w.heap.size w W → Calls Tryd.prog 12 #[.agg #[.int .i64 f, .slice A n c]] W fun e w' => e = .returned (.int .i64 0) ∧ Below W.heap.size W w')
    (t1 : decide (k < 1) = false) (t2 : decide (f < k) = true)
    (hF : ∀ W, Below w.heap.size w W → Calls Tryd.prog 26 #[.agg #[.int .i64 f, .slice A n c], .int .i64 k] W (ErrZ 2 W))
    (hP : ∀ W, Below w.heap.size w W → Calls Tryd.prog 38 #[.agg #[.int .i64 f, .slice A n c], .agg #[.int .i64 g, .int .i64 v]] W fun e w' => e = .returned (.bool false) ∧ Below W.heap.size W w')
    (hI : ∀ W, Below w.heap.size w W → Calls Tryd.prog 27 #[.agg #[.int .i64 f, .slice A n c], .agg #[.int .i64 g, .int .i64 v]] W (ErrZ 2 W))
    (hT : ItoaAll w) :
    Calls Tryd.prog 7 #[.agg #[.int .i64 f, .slice A n c], .int .i64 k, .agg #[.int .i64 g, .int .i64 v]] w fun e w' => e = .returned (.bool true) ∧ Below w.heap.size w w' := by
  have HRC := Lib.hid hRC
  have HT := Lib.hid hT
  have HLA := Lib.hid hla
  have HLB := Lib.hid hlb
  have hle : n ≤ 1000000 := by omega
  have HF := Lib.hid hF
  have HPL := Lib.hid hP
  have HI := Lib.hid hI
  have HKN : Hid (∀ W, Below w.heap.size w W → Calls Tryd.prog 10 #[] W fun e w' => e = .returned (.bool true) ∧ Below W.heap.size W w') := fun W hW => known_calls W (HT.out.below hW)
  have s1 : decide ((n : Int) ≤ 60) = true := by rw [decide_eq_true_iff]; omega
  have HSM := Lib.hid (fun W => small_calls f A n c true W s1)
  clear hRC hT hn60 hla hlb hF hP hI
  go_enter Tryd.func7, Tryd.ntmps7
  go_wp2_with fail
  obtain ⟨W0, hW0⟩ : ∃ W0, W0 = (w.alloc (.cells #[.int .i64 f, .slice A n c] 24)).alloc (.cells #[.int .i64 g, .int .i64 v] 31) := ⟨_, rfl⟩
  have hM := two_mem w _ _ W0 hW0
  have Y0 : Hid (FgZ f (.slice A n c) g v w w.heap.size (w.heap.size + 1) [] W0) := ⟨hM.2.2.2, hM.1, hM.2.1, fun x hx => by cases hx⟩
  obtain ⟨P, hP⟩ : ∃ P, P = w.heap.size := ⟨_, rfl⟩
  obtain ⟨Q, hQ⟩ : ∃ Q, Q = w.heap.size + 1 := ⟨_, rfl⟩
  rw [← hQ, ← hP] at Y0
  rw [← hW0, ← hQ, ← hP]
  clear hW0 hM hP hQ
  refine (HSM.out _).mono ?_
  rintro e w1 ⟨rfl, hb⟩
  have Y1 := Lib.hid (Y0.out.step hb)
  have a0 := Lib.cell_of_heap Y1.out.2.1 0
  have a1 := Lib.cell_of_heap Y1.out.2.1 1
  have a2 := Lib.cell_of_heap Y1.out.2.2.1 0
  have a3 := Lib.cell_of_heap Y1.out.2.2.1 1
  clear hb
  go_wp2_with fail
  refine (HRC.out _ Y1.out.1).mono ?_
  rintro e w2 ⟨rfl, hb⟩
  have Y2 := Lib.hid (Y1.out.step hb)
  clear hb
  clear a0 a1 a2 a3
  have a0 := Lib.cell_of_heap Y2.out.2.1 0
  have a1 := Lib.cell_of_heap Y2.out.2.1 1
  have a2 := Lib.cell_of_heap Y2.out.2.2.1 0
  have a3 := Lib.cell_of_heap Y2.out.2.2.1 1
  go_wp2_with fail
  refine (HF.out _ Y2.out.1).mono ?_
  rintro e v3 ⟨rfl, hb⟩
  have Y3 := Lib.hid ((Y2.out.step hb).add (0) (.slice none 0 0))
  obtain ⟨B3, hB⟩ : ∃ B, B = v3.heap.size := ⟨_, rfl⟩
  obtain ⟨V3, hV⟩ : ∃ V, V = v3.alloc (.cells #[.int .i64 (0), (.slice none 0 0)] 24) := ⟨_, rfl⟩
  rw [← hV, ← hB] at Y3
  clear a0 a1 a2 a3
  have a0 := Lib.cell_of_heap Y3.out.2.1 0
  have a1 := Lib.cell_of_heap Y3.out.2.1 1
  have a2 := Lib.cell_of_heap Y3.out.2.2.1 0
  have a3 := Lib.cell_of_heap Y3.out.2.2.1 1
  have HV3 := Lib.hid hV
  have HB3 := Lib.hid hB
  rw [hV] at a0 a1 a2 a3
  clear hb hV hB
  go_wp2_with fail
  rw [← HB3.out, ← HV3.out]
  have hb3 := Y3.out.2.2.2 (B3, 0, (.slice none 0 0)) (by simp)
  refine (codeEq_yes 0 none none 0 0 0 0 [] _ (ls_none _) (ls_none _) (by omega)).mono ?_
  rintro e w4 ⟨rfl, hb⟩
  have Y4 := Lib.hid (Y3.out.step hb)
  clear hb
  clear a0 a1 a2 a3
  have a0 := Lib.cell_of_heap Y4.out.2.1 0
  have a1 := Lib.cell_of_heap Y4.out.2.1 1
  have a2 := Lib.cell_of_heap Y4.out.2.2.1 0
  have a3 := Lib.cell_of_heap Y4.out.2.2.1 1
  go_wp2_with fail
  refine (HI.out _ Y4.out.1).mono ?_
  rintro e v5 ⟨rfl, hb⟩
  have Y5 := Lib.hid ((Y4.out.step hb).add (0) (.slice none 0 0))
  obtain ⟨B5, hB⟩ : ∃ B, B = v5.heap.size := ⟨_, rfl⟩
  obtain ⟨V5, hV⟩ : ∃ V, V = v5.alloc (.cells #[.int .i64 (0), (.slice none 0 0)] 24) := ⟨_, rfl⟩
  rw [← hV, ← hB] at Y5
  clear a0 a1 a2 a3
  have a0 := Lib.cell_of_heap Y5.out.2.1 0
  have a1 := Lib.cell_of_heap Y5.out.2.1 1
  have a2 := Lib.cell_of_heap Y5.out.2.2.1 0
  have a3 := Lib.cell_of_heap Y5.out.2.2.1 1
  have HV5 := Lib.hid hV
  have HB5 := Lib.hid hB
  rw [hV] at a0 a1 a2 a3
  clear hb hV hB
  go_wp2_with fail
  rw [← HB5.out, ← HV5.out]
  have hb5 := Y5.out.2.2.2 (B5, 0, (.slice none 0 0)) (by simp)
  refine (HPL.out _ Y5.out.1).mono ?_
  rintro e V ⟨rfl, hb⟩
  have Y6 := Lib.hid (Y5.out.step hb)
  have b0 := Lib.cell_of_heap (Y6.out.2.2.2 (B5, 0, (.slice none 0 0)) (by simp)) 0
  have b1 := Lib.cell_of_heap (Y6.out.2.2.2 (B5, 0, (.slice none 0 0)) (by simp)) 1
  clear hb
  clear a0 a1 a2 a3
  have a0 := Lib.cell_of_heap Y6.out.2.1 0
  have a1 := Lib.cell_of_heap Y6.out.2.1 1
  have a2 := Lib.cell_of_heap Y6.out.2.2.1 0
  have a3 := Lib.cell_of_heap Y6.out.2.2.1 1
  go_wp2_with fail
  refine (codeEq_yes 0 none none 0 0 0 0 [] _ (ls_none _) (ls_none _) (by omega)).mono ?_
  rintro e w7 ⟨rfl, hb⟩
  have Y7 := Lib.hid (Y6.out.step hb)
  clear hb a0 a1 a2 a3 b0 b1
  go_wp2_with fail
  refine (HKN.out _ Y7.out.1).mono ?_
  rintro e w8 ⟨rfl, hb⟩
  have HF9 : Hid (Below w.heap.size w w8) := Y7.out.1.trans (hb.mono Y7.out.1.size)
  clear hb
  go_wp2_with fail
  go_ret
  exact ⟨rfl, HF9.out⟩

set_option maxHeartbeats 16000000 in
set_option maxRecDepth 100000 in
theorem codeFingers_hf (f k g v : Int) (A : Option Addr) (n c : Nat) (La Lb : List Lt) (w : World) (hn60 : n ≤ 60) (hla : La.length = n) (hlb : Lb.length = n)
    (hRC : ∀ W, Below w.heap.size w W → Calls Tryd.prog 12 #[.agg #[.int .i64 f, .slice A n c]] W fun e w' => e = .returned (.int .i64 0) ∧ Below W.heap.size W w')
    (t1 : decide (k < 1) = false) (t2 : decide (f < k) = true)
    (hF : ∀ W, Below w.heap.size w W → Calls Tryd.prog 26 #[.agg #[.int .i64 f, .slice A n c], .int .i64 k] W (ErrZ 2 W))
    (hP : ∀ W, Below w.heap.size w W → Calls Tryd.prog 38 #[.agg #[.int .i64 f, .slice A n c], .agg #[.int .i64 g, .int .i64 v]] W fun e w' => e = .returned (.bool true) ∧ Below W.heap.size W w')
    (t3 : (f == 40) = true)
    (hI : ∀ W, Below w.heap.size w W → Calls Tryd.prog 27 #[.agg #[.int .i64 f, .slice A n c], .agg #[.int .i64 g, .int .i64 v]] W (ErrZ 2 W))
    (hT : ItoaAll w) :
    Calls Tryd.prog 7 #[.agg #[.int .i64 f, .slice A n c], .int .i64 k, .agg #[.int .i64 g, .int .i64 v]] w fun e w' => e = .returned (.bool true) ∧ Below w.heap.size w w' := by
  have HRC := Lib.hid hRC
  have HT := Lib.hid hT
  have HLA := Lib.hid hla
  have HLB := Lib.hid hlb
  have hle : n ≤ 1000000 := by omega
  have HF := Lib.hid hF
  have HPL := Lib.hid hP
  have HI := Lib.hid hI
  have HKN : Hid (∀ W, Below w.heap.size w W → Calls Tryd.prog 10 #[] W fun e w' => e = .returned (.bool true) ∧ Below W.heap.size W w') := fun W hW => known_calls W (HT.out.below hW)
  have s1 : decide ((n : Int) ≤ 60) = true := by rw [decide_eq_true_iff]; omega
  have HSM := Lib.hid (fun W => small_calls f A n c true W s1)
  clear hRC hT hn60 hla hlb hF hP hI
  go_enter Tryd.func7, Tryd.ntmps7
  go_wp2_with fail
  obtain ⟨W0, hW0⟩ : ∃ W0, W0 = (w.alloc (.cells #[.int .i64 f, .slice A n c] 24)).alloc (.cells #[.int .i64 g, .int .i64 v] 31) := ⟨_, rfl⟩
  have hM := two_mem w _ _ W0 hW0
  have Y0 : Hid (FgZ f (.slice A n c) g v w w.heap.size (w.heap.size + 1) [] W0) := ⟨hM.2.2.2, hM.1, hM.2.1, fun x hx => by cases hx⟩
  obtain ⟨P, hP⟩ : ∃ P, P = w.heap.size := ⟨_, rfl⟩
  obtain ⟨Q, hQ⟩ : ∃ Q, Q = w.heap.size + 1 := ⟨_, rfl⟩
  rw [← hQ, ← hP] at Y0
  rw [← hW0, ← hQ, ← hP]
  clear hW0 hM hP hQ
  refine (HSM.out _).mono ?_
  rintro e w1 ⟨rfl, hb⟩
  have Y1 := Lib.hid (Y0.out.step hb)
  have a0 := Lib.cell_of_heap Y1.out.2.1 0
  have a1 := Lib.cell_of_heap Y1.out.2.1 1
  have a2 := Lib.cell_of_heap Y1.out.2.2.1 0
  have a3 := Lib.cell_of_heap Y1.out.2.2.1 1
  clear hb
  go_wp2_with fail
  refine (HRC.out _ Y1.out.1).mono ?_
  rintro e w2 ⟨rfl, hb⟩
  have Y2 := Lib.hid (Y1.out.step hb)
  clear hb
  clear a0 a1 a2 a3
  have a0 := Lib.cell_of_heap Y2.out.2.1 0
  have a1 := Lib.cell_of_heap Y2.out.2.1 1
  have a2 := Lib.cell_of_heap Y2.out.2.2.1 0
  have a3 := Lib.cell_of_heap Y2.out.2.2.1 1
  go_wp2_with fail
  refine (HF.out _ Y2.out.1).mono ?_
  rintro e v3 ⟨rfl, hb⟩
  have Y3 := Lib.hid ((Y2.out.step hb).add (0) (.slice none 0 0))
  obtain ⟨B3, hB⟩ : ∃ B, B = v3.heap.size := ⟨_, rfl⟩
  obtain ⟨V3, hV⟩ : ∃ V, V = v3.alloc (.cells #[.int .i64 (0), (.slice none 0 0)] 24) := ⟨_, rfl⟩
  rw [← hV, ← hB] at Y3
  clear a0 a1 a2 a3
  have a0 := Lib.cell_of_heap Y3.out.2.1 0
  have a1 := Lib.cell_of_heap Y3.out.2.1 1
  have a2 := Lib.cell_of_heap Y3.out.2.2.1 0
  have a3 := Lib.cell_of_heap Y3.out.2.2.1 1
  have HV3 := Lib.hid hV
  have HB3 := Lib.hid hB
  rw [hV] at a0 a1 a2 a3
  clear hb hV hB
  go_wp2_with fail
  rw [← HB3.out, ← HV3.out]
  have hb3 := Y3.out.2.2.2 (B3, 0, (.slice none 0 0)) (by simp)
  refine (codeEq_yes 0 none none 0 0 0 0 [] _ (ls_none _) (ls_none _) (by omega)).mono ?_
  rintro e w4 ⟨rfl, hb⟩
  have Y4 := Lib.hid (Y3.out.step hb)
  clear hb
  clear a0 a1 a2 a3
  have a0 := Lib.cell_of_heap Y4.out.2.1 0
  have a1 := Lib.cell_of_heap Y4.out.2.1 1
  have a2 := Lib.cell_of_heap Y4.out.2.2.1 0
  have a3 := Lib.cell_of_heap Y4.out.2.2.1 1
  go_wp2_with fail
  refine (HI.out _ Y4.out.1).mono ?_
  rintro e v5 ⟨rfl, hb⟩
  have Y5 := Lib.hid ((Y4.out.step hb).add (0) (.slice none 0 0))
  obtain ⟨B5, hB⟩ : ∃ B, B = v5.heap.size := ⟨_, rfl⟩
  obtain ⟨V5, hV⟩ : ∃ V, V = v5.alloc (.cells #[.int .i64 (0), (.slice none 0 0)] 24) := ⟨_, rfl⟩
  rw [← hV, ← hB] at Y5
  clear a0 a1 a2 a3
  have a0 := Lib.cell_of_heap Y5.out.2.1 0
  have a1 := Lib.cell_of_heap Y5.out.2.1 1
  have a2 := Lib.cell_of_heap Y5.out.2.2.1 0
  have a3 := Lib.cell_of_heap Y5.out.2.2.1 1
  have HV5 := Lib.hid hV
  have HB5 := Lib.hid hB
  rw [hV] at a0 a1 a2 a3
  clear hb hV hB
  go_wp2_with fail
  rw [← HB5.out, ← HV5.out]
  have hb5 := Y5.out.2.2.2 (B5, 0, (.slice none 0 0)) (by simp)
  refine (HPL.out _ Y5.out.1).mono ?_
  rintro e V ⟨rfl, hb⟩
  have Y6 := Lib.hid (Y5.out.step hb)
  have b0 := Lib.cell_of_heap (Y6.out.2.2.2 (B5, 0, (.slice none 0 0)) (by simp)) 0
  have b1 := Lib.cell_of_heap (Y6.out.2.2.2 (B5, 0, (.slice none 0 0)) (by simp)) 1
  clear hb
  clear a0 a1 a2 a3
  have a0 := Lib.cell_of_heap Y6.out.2.1 0
  have a1 := Lib.cell_of_heap Y6.out.2.1 1
  have a2 := Lib.cell_of_heap Y6.out.2.2.1 0
  have a3 := Lib.cell_of_heap Y6.out.2.2.1 1
  go_wp2_with fail
  refine (codeEq_yes 0 none none 0 0 0 0 [] _ (ls_none _) (ls_none _) (by omega)).mono ?_
  rintro e w7 ⟨rfl, hb⟩
  have Y7 := Lib.hid (Y6.out.step hb)
  clear hb a0 a1 a2 a3 b0 b1
  go_wp2_with fail
  refine (HKN.out _ Y7.out.1).mono ?_
  rintro e w8 ⟨rfl, hb⟩
  have HF9 : Hid (Below w.heap.size w w8) := Y7.out.1.trans (hb.mono Y7.out.1.size)
  clear hb
  go_wp2_with fail
  go_ret
  exact ⟨rfl, HF9.out⟩

end Go.Proofs.YtjobnldepblciaaDoor

/-
  The law CodeFingers: whole.
-/
namespace Go.Proofs.YtjobnldepblciaaDoor
open Go.RowKit

theorem checkE_partsF {f : Int} {ls : List Lt} (h : checkE f ls = 0) : closedB ls = true ∧ ∃ st, ordM ls (numP f ls) ls.length ls.length = some st := by
  unfold checkE at h
  split at h
  · cases h
  · split at h
    · cases h
    · split at h
      · cases h
      · rename_i hc
        split at h
        · cases h
        · split at h
          · cases h
          · rename_i st ho
            exact ⟨by simpa using hc, st, ho⟩
theorem checkE_rankF {f : Int} {ls : List Lt} (h : checkE f ls = 0) : ∀ l, l ∈ ls → l.kind = 1 → (0 ≤ l.gate ∧ l.gate ≤ 1000) ∧ 0 ≤ l.rank ∧ l.rank ≤ 1000000 := by
  obtain ⟨z1, z2, z3⟩ := checkE_zero h
  obtain ⟨_, st, ho⟩ := checkE_partsF h
  intro l hl hk
  have hq := (ord_fine z3 ho l hl hk).1
  unfold passOk at hq
  have e2 := cntB_take_le (inGate l.gate) ls ls.length
  rw [List.take_of_length_le (Nat.le_refl _)] at e2
  omega

theorem refCheck_fullF (f : Int) (A : Option Addr) (n c : Nat) (ls : List Lt) (w : World) (hL : LS w A n ls) :
    Calls Tryd.prog 12 #[.agg #[.int .i64 f, .slice A n c]] w fun e w' => e = .returned (.int .i64 (checkE f ls)) ∧ Below w.heap.size w w' := by
  refine refCheck_calls f A n c ls w hL (fun st pt hg W hW => ?_)
  refine refAxis_calls hg f A c W ?_
  show LS W A ls.length ls
  rw [hL.1]
  exact hL.below hW

theorem insert_arg (f g v : Int) (A : Option Addr) (n c : Nat) (ls : List Lt) (w : World) (hL : LS w A n ls) (hn : n ≤ 1000) (hf : 0 ≤ f ∧ f ≤ 40) (hp : ∀ l, l ∈ ls → plainL f l) (hC : ChkAt f A n c 0 w) (h : f = 40 ∨ placeB f ls g v = false) :
    Calls Tryd.prog 27 #[.agg #[.int .i64 f, .slice A n c], .agg #[.int .i64 g, .int .i64 v]] w (ErrZ 2 w) := by
  by_cases h0 : f = 40
  · exact insert_a f g v A n c w h0 hC
  · have h := h.resolve_left h0
    by_cases h1 : 0 ≤ g
    · by_cases h2 : g ≤ f
      · by_cases h3 : 0 ≤ v
        · obtain ⟨fn, rfl⟩ : ∃ fn : Nat, f = (fn : Int) := ⟨f.toNat, by omega⟩
          obtain ⟨G, rfl⟩ : ∃ G : Nat, g = (G : Int) := ⟨g.toNat, by omega⟩
          refine insert_e fn G v A n c ls w hL hn (by omega) (by omega) h3 hp ?_ hC
          unfold placeB at h
          rw [decide_eq_true h1, decide_eq_true h2, decide_eq_true h3] at h
          have h4 : ¬ v ≤ cntB (inGate (G : Int)) ls := by simpa using h
          omega
        · exact insert_d f g v A n c w ⟨h0, ⟨h1, h2⟩, by omega⟩ hC
      · exact insert_c f g v A n c w ⟨h0, h1, by omega⟩ hC
    · exact insert_b f g v A n c w ⟨h0, by omega⟩ hC

theorem insert_ok (f g v : Int) (A : Option Addr) (n c : Nat) (ls : List Lt) (w : World) (hL : LS w A n ls) (hn : n ≤ 1000) (hf : 0 ≤ f ∧ f ≤ 40) (hp : ∀ l, l ∈ ls → plainL f l) (hrk : ∀ l, l ∈ ls → l.kind = 1 → 0 ≤ l.rank ∧ l.rank ≤ 1000000) (hC : ChkAt f A n c 0 w) (h0 : f ≠ 40) (h : (0 ≤ g ∧ g ≤ f) ∧ 0 ≤ v ∧ v ≤ cntB (inGate g) ls) :
    Calls Tryd.prog 27 #[.agg #[.int .i64 f, .slice A n c], .agg #[.int .i64 g, .int .i64 v]] w (OkF (f + 1) n (ls.map (insL g v)) w) := by
  obtain ⟨fn, rfl⟩ : ∃ fn : Nat, f = (fn : Int) := ⟨f.toNat, by omega⟩
  obtain ⟨G, rfl⟩ : ∃ G : Nat, g = (G : Int) := ⟨g.toNat, by omega⟩
  exact insert_f fn G v A n c ls w hL hn (by omega) (by omega) h.2.1 hp hrk h.2.2 hC

theorem placeB_true {f g v : Int} {ls : List Lt} (h : placeB f ls g v = true) : (0 ≤ g ∧ g ≤ f) ∧ 0 ≤ v ∧ v ≤ cntB (inGate g) ls := by
  unfold placeB at h
  simp at h
  exact ⟨⟨h.1.1.1, h.1.1.2⟩, h.1.2, h.2⟩

set_option maxHeartbeats 8000000 in
set_option maxRecDepth 100000 in
theorem codeFingers_big (f k g v : Int) (A : Option Addr) (n c : Nat) (w : World) (hn : ¬ n ≤ 60) (hT : ItoaAll w) :
    Calls Tryd.prog 7 #[.agg #[.int .i64 f, .slice A n c], .int .i64 k, .agg #[.int .i64 g, .int .i64 v]] w fun e w' => e = .returned (.bool true) ∧ Below w.heap.size w w' := by
  have HT := Lib.hid hT
  have t1 : decide ((n : Int) ≤ 60) = false := by rw [decide_eq_false_iff_not]; omega
  have HSM := Lib.hid (fun W => small_calls f A n c false W t1)
  clear hT hn
  go_enter Tryd.func7, Tryd.ntmps7
  go_wp2_with fail
  have HB0 : Hid (Below w.heap.size w ((w.alloc (.cells #[.int .i64 f, .slice A n c] 24)).alloc (.cells #[.int .i64 g, .int .i64 v] 31))) := ((Below.refl _ _).alloc (Nat.le_refl _) _).alloc (by simp) _
  refine (HSM.out _).mono ?_
  rintro e w1 ⟨rfl, hb⟩
  have HB1 : Hid (Below w.heap.size w w1) := HB0.out.trans (hb.mono HB0.out.size)
  clear hb
  go_wp2_with fail
  refine (known_calls _ (HT.out.below HB1.out)).mono ?_
  rintro e w2 ⟨rfl, hb⟩
  have HB2 : Hid (Below w.heap.size w w2) := HB1.out.trans (hb.mono HB1.out.size)
  clear hb
  go_wp2_with fail
  go_ret
  exact ⟨rfl, HB2.out⟩

set_option maxHeartbeats 8000000 in
set_option maxRecDepth 100000 in
theorem codeFingers_bad (f k g v : Int) (A : Option Addr) (n c : Nat) (ce : Int) (w : World) (hn : n ≤ 60) (hz : ce ≠ 0) (hRC : ∀ W, Below w.heap.size w W → Calls Tryd.prog 12 #[.agg #[.int .i64 f, .slice A n c]] W fun e w' => e = .returned (.int .i64 ce) ∧ Below W.heap.size W w') (hT : ItoaAll w) :
    Calls Tryd.prog 7 #[.agg #[.int .i64 f, .slice A n c], .int .i64 k, .agg #[.int .i64 g, .int .i64 v]] w fun e w' => e = .returned (.bool true) ∧ Below w.heap.size w w' := by
  have HT := Lib.hid hT
  have HRC := Lib.hid hRC
  have t1 : decide ((n : Int) ≤ 60) = true := by rw [decide_eq_true_iff]; omega
  have HSM := Lib.hid (fun W => small_calls f A n c true W t1)
  have hzb : (ce != 0) = true := by simp [hz]
  clear hT hn hRC
  go_enter Tryd.func7, Tryd.ntmps7
  go_wp2_with fail
  obtain ⟨W0, hW0⟩ : ∃ W0, W0 = (w.alloc (.cells #[.int .i64 f, .slice A n c] 24)).alloc (.cells #[.int .i64 g, .int .i64 v] 31) := ⟨_, rfl⟩
  have HM := Lib.hid (two_mem w _ _ W0 hW0)
  rw [← hW0]
  clear hW0
  refine (HSM.out _).mono ?_
  rintro e w1 ⟨rfl, hb⟩
  have HM1 := Lib.hid (two_next HM.out hb)
  have a0 := Lib.cell_of_heap HM1.out.1 0
  have a1 := Lib.cell_of_heap HM1.out.1 1
  clear hb
  go_wp2_with fail
  refine (HRC.out _ HM1.out.2.2.2).mono ?_
  rintro e w2 ⟨rfl, hb⟩
  have HM2 := Lib.hid (two_next HM1.out hb)
  clear hb a0 a1
  go_wp2_with fail
  refine (known_calls _ (HT.out.below HM2.out.2.2.2)).mono ?_
  rintro e w3 ⟨rfl, hb⟩
  have HB3 : Hid (Below w.heap.size w w3) := HM2.out.2.2.2.trans (hb.mono HM2.out.2.2.2.size)
  clear hb
  go_wp2_with fail
  go_ret
  exact ⟨rfl, HB3.out⟩

theorem codeFingers_walk (f : Int) (A : Option Addr) (n c : Nat) (ls : List Lt) (k g v : Int) (w : World) (_hf : I64 f) (hL : LS w A n ls) (_hn : n ≤ maxLen) (hI : ∀ l, l ∈ ls → LtAll l) (hz : A = none → c = 0) (_hs : n ≤ c) (hA : ∀ b off, A = some ⟨b, off, none⟩ → b < w.heap.size) (hsp : ∀ a, A = some a → a.spot = none) (_hk : I64 k) (_hg : I64 g) (_hv : I64 v) (hT : ItoaAll w) :
    Calls Tryd.prog 7 #[.agg #[.int .i64 f, .slice A n c], .int .i64 k, .agg #[.int .i64 g, .int .i64 v]] w fun e w' => e = .returned (.bool true) ∧ Below w.heap.size w w' := by
  by_cases hn : n ≤ 60
  · have hRC : ∀ W, Below w.heap.size w W → Calls Tryd.prog 12 #[.agg #[.int .i64 f, .slice A n c]] W fun e w' => e = .returned (.int .i64 (checkE f ls)) ∧ Below W.heap.size W w' :=
      fun W hW => refCheck_fullF f A n c ls W (hL.below hW)
    by_cases hv0 : checkE f ls = 0
    · rw [hv0] at hRC
      have hlen := hL.1
      subst hlen
      obtain ⟨z1, z2, z3⟩ := checkE_zero hv0
      have hrk := checkE_rankF hv0
      have hrk2 : ∀ l, l ∈ ls → l.kind = 1 → 0 ≤ l.rank ∧ l.rank ≤ 1000000 := fun l hl hk => (hrk l hl hk).2
      have hA' : ∀ W, Below w.heap.size w W → ∀ b off, A = some ⟨b, off, none⟩ → b < W.heap.size := fun W hW b off e => Nat.lt_of_lt_of_le (hA b off e) hW.size
      have hC : ∀ W, Below w.heap.size w W → ChkAt f A ls.length c 0 W := by
        intro W hW V hV
        have hWV := hW.trans (hV.mono hW.size)
        have h := check_calls f A ls.length c ls V (hL.below hWV) (hA' V hWV) (fun l hl => (hI l hl).2.2.2.1)
        rw [hv0] at h
        exact h
      have hFg : ∀ W, Below w.heap.size w W → Calls Tryd.prog 26 #[.agg #[.int .i64 f, .slice A ls.length c], .int .i64 k] W (ForgetPost f k ls W) :=
        fun W hW => forget_calls f k A ls.length c ls W (hL.below hW) (hA' W hW) (fun l hl => (hI l hl).2.2.2.1) hrk2
      have hPl : ∀ W, Below w.heap.size w W → Calls Tryd.prog 38 #[.agg #[.int .i64 f, .slice A ls.length c], .agg #[.int .i64 g, .int .i64 v]] W fun e w' => e = .returned (.bool (placeB f ls g v)) ∧ Below W.heap.size W w' :=
        fun W hW => place_calls f g v A ls.length c ls W (hL.below hW) (by omega)
      have hIa : (f = 40 ∨ placeB f ls g v = false) → ∀ W, Below w.heap.size w W → Calls Tryd.prog 27 #[.agg #[.int .i64 f, .slice A ls.length c], .agg #[.int .i64 g, .int .i64 v]] W (ErrZ 2 W) :=
        fun h W hW => insert_arg f g v A ls.length c ls W (hL.below hW) (by omega) z2 z3 (hC W hW) h
      have hIy : f ≠ 40 → placeB f ls g v = true → (∀ W, Below w.heap.size w W → Calls Tryd.prog 27 #[.agg #[.int .i64 f, .slice A ls.length c], .agg #[.int .i64 g, .int .i64 v]] W (OkF (f + 1) ls.length (ls.map (insL g v)) W)) ∧
          (∀ W, Below w.heap.size w W → Calls Tryd.prog 39 #[.agg #[.int .i64 f, .slice A ls.length c], .agg #[.int .i64 g, .int .i64 v]] W (OkC (f + 1) ls.length (ls.map (insL g v)) W)) := by
        intro h40 hp
        have hpp := placeB_true hp
        have e2 := cntB_take_le (inGate g) ls ls.length
        rw [List.take_of_length_le (Nat.le_refl _)] at e2
        exact ⟨fun W hW => insert_ok f g v A ls.length c ls W (hL.below hW) (by omega) z2 z3 hrk2 (hC W hW) h40 hpp,
          fun W hW => refInsert_calls f g v A ls.length c ls W (hL.below hW) hz hsp (by omega) (by omega) ⟨⟨hpp.1.1, by omega⟩, hpp.2.1, by omega⟩ hrk⟩
      have hFa : ¬ (1 ≤ k ∧ k ≤ f) → ∀ W, Below w.heap.size w W → Calls Tryd.prog 26 #[.agg #[.int .i64 f, .slice A ls.length c], .int .i64 k] W (ErrZ 2 W) := by
        intro h W hW
        refine (hFg W hW).mono ?_
        rintro e w' (⟨q, _⟩ | ⟨_, _, q⟩ | ⟨_, q, _⟩)
        · exact absurd hv0 q
        · exact q
        · exact absurd q h
      have hFy : (1 ≤ k ∧ k ≤ f) → (∀ W, Below w.heap.size w W → Calls Tryd.prog 26 #[.agg #[.int .i64 f, .slice A ls.length c], .int .i64 k] W (OkF (f - 1) ls.length (ls.map (forgL k (cntB (inGate (k - 1)) ls))) W)) ∧
          (∀ W, Below w.heap.size w W → Calls Tryd.prog 37 #[.agg #[.int .i64 f, .slice A ls.length c], .int .i64 k] W (OkC (f - 1) ls.length (ls.map (forgL k (cntB (inGate (k - 1)) ls))) W)) := by
        intro h
        refine ⟨fun W hW => (hFg W hW).mono ?_, fun W hW => refForget_calls f k A ls.length c ls W (hL.below hW) hz hsp (by omega) (by omega) (by omega) hrk⟩
        rintro e w' (⟨q, _⟩ | ⟨_, q, _⟩ | ⟨_, _, q⟩)
        · exact absurd hv0 q
        · exact absurd h q
        · exact q
      obtain ⟨pb, hpb⟩ : ∃ pb, placeB f ls g v = pb := ⟨_, rfl⟩
      rw [hpb] at hPl hIa hIy
      by_cases h1 : k < 1
      · have t1 : decide (k < 1) = true := decide_eq_true h1
        have hF := hFa (by omega)
        cases pb with
        | false => exact codeFingers_lp f k g v A ls.length c ls ls w hn rfl rfl hRC t1 hF hPl (hIa (.inr rfl)) hT
        | true =>
          by_cases h40 : f = 40
          · exact codeFingers_lf f k g v A ls.length c ls ls w hn rfl rfl hRC t1 hF hPl (by rw [beq_iff_eq]; exact h40) (hIa (.inl h40)) hT
          · obtain ⟨i1, i2⟩ := hIy h40 rfl
            exact codeFingers_ly f k g v A ls.length c ls _ w hn rfl (List.length_map _) hRC t1 hF hPl (by rw [beq_eq_false_iff_ne]; exact h40) i1 i2 hT
      · have t1 : decide (k < 1) = false := decide_eq_false h1
        by_cases h2 : f < k
        · have t2 : decide (f < k) = true := decide_eq_true h2
          have hF := hFa (by omega)
          cases pb with
          | false => exact codeFingers_hp f k g v A ls.length c ls ls w hn rfl rfl hRC t1 t2 hF hPl (hIa (.inr rfl)) hT
          | true =>
            by_cases h40 : f = 40
            · exact codeFingers_hf f k g v A ls.length c ls ls w hn rfl rfl hRC t1 t2 hF hPl (by rw [beq_iff_eq]; exact h40) (hIa (.inl h40)) hT
            · obtain ⟨i1, i2⟩ := hIy h40 rfl
              exact codeFingers_hy f k g v A ls.length c ls _ w hn rfl (List.length_map _) hRC t1 t2 hF hPl (by rw [beq_eq_false_iff_ne]; exact h40) i1 i2 hT
        · have t2 : decide (f < k) = false := decide_eq_false h2
          obtain ⟨f1, f2⟩ := hFy (by omega)
          cases pb with
          | false => exact codeFingers_yp f k g v A ls.length c _ ls w hn (List.length_map _) rfl hRC t1 t2 f1 f2 hPl (hIa (.inr rfl)) hT
          | true =>
            by_cases h40 : f = 40
            · exact codeFingers_yf f k g v A ls.length c _ ls w hn (List.length_map _) rfl hRC t1 t2 f1 f2 hPl (by rw [beq_iff_eq]; exact h40) (hIa (.inl h40)) hT
            · obtain ⟨i1, i2⟩ := hIy h40 rfl
              exact codeFingers_yy f k g v A ls.length c _ _ w hn (List.length_map _) (List.length_map _) hRC t1 t2 f1 f2 hPl (by rw [beq_eq_false_iff_ne]; exact h40) i1 i2 hT
    · exact codeFingers_bad f k g v A n c (checkE f ls) w hn hv0 hRC hT
  · exact codeFingers_big f k g v A n c w hn hT

end Go.Proofs.YtjobnldepblciaaDoor
