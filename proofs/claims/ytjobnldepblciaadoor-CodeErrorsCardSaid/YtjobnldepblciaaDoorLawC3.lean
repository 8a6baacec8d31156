/-
  The walk of the law CodeErrors.
-/
import Derived.Test.YtjobnldepblciaaDoorLawC1
import Derived.Test.YtjobnldepblciaaDoorNorm
import Derived.Deep.RegionHeld3
namespace Go.Proofs.YtjobnldepblciaaDoor
open Go.RowKit

/-- The code and the place in their variables, the zero codes in theirs. -/
def ZB (f : Int) (vc : Value) (g l : Int) (w : World) (P Q : Nat) (bs : List Nat) (W : World) : Prop :=
  Below w.heap.size w W ∧ (P < W.heap.size ∧ W.cell? ⟨P, 0, none⟩ = some (.int .i64 f) ∧ W.cell? ⟨P, 1, none⟩ = some vc) ∧ (Q < W.heap.size ∧ W.cell? ⟨Q, 0, none⟩ = some (.int .i64 g) ∧ W.cell? ⟨Q, 1, none⟩ = some (.int .i64 l)) ∧
    ∀ b, b ∈ bs → b < W.heap.size ∧ W.cell? ⟨b, 0, none⟩ = some (.int .i64 0) ∧ W.cell? ⟨b, 1, none⟩ = some (.slice none 0 0)
section
variable {f g l : Int} {vc : Value} {w W W' : World} {P Q : Nat} {bs : List Nat}
theorem ZB.step (h : ZB f vc g l w P Q bs W) (hb : Below W.heap.size W W') : ZB f vc g l w P Q bs W' := by
  obtain ⟨h1, ⟨h2, h3, h4⟩, ⟨h5, h6, h7⟩, h8⟩ := h
  have e : ∀ q x, q < W.heap.size → W'.cell? ⟨q, x, none⟩ = W.cell? ⟨q, x, none⟩ := fun q x hq => hb.cell (p := ⟨q, x, none⟩) hq
  have hs := hb.size
  exact ⟨h1.trans (hb.mono h1.size), ⟨by omega, (e _ _ h2).trans h3, (e _ _ h2).trans h4⟩, ⟨by omega, (e _ _ h5).trans h6, (e _ _ h5).trans h7⟩, fun b hbm => by
    obtain ⟨k1, k2, k3⟩ := h8 b hbm
    exact ⟨by omega, (e _ _ k1).trans k2, (e _ _ k1).trans k3⟩⟩
theorem ZB.add (h : ZB f vc g l w P Q bs W) : ZB f vc g l w P Q (W.heap.size :: bs) (W.alloc (.cells #[.int .i64 0, .slice none 0 0] 24)) := by
  obtain ⟨h1, h2, h3, h4⟩ := h.step ((Below.refl W.heap.size W).alloc (Nat.le_refl _) (.cells #[.int .i64 0, .slice none 0 0] 24))
  refine ⟨h1, h2, h3, fun b hb => ?_⟩
  rcases List.mem_cons.1 hb with rfl | hb
  · have hn := heap_alloc_new W (.cells #[.int .i64 0, .slice none 0 0] 24)
    exact ⟨by simp, Lib.cell_of_heap hn 0, Lib.cell_of_heap hn 1⟩
  · exact h4 b hb
end
theorem ChkAt.below {f : Int} {A : Option Addr} {n c : Nat} {ce : Int} {w W : World} (h : ChkAt f A n c ce w) (hb : Below w.heap.size w W) : ChkAt f A n c ce W := fun V hV => h V (hb.trans (hV.mono hb.size))
theorem DrawAt.below {f : Int} {A : Option Addr} {n c : Nat} {ce : Int} {w W : World} (h : DrawAt f A n c ce w) (hb : Below w.heap.size w W) : DrawAt f A n c ce W := fun V hV => h V (hb.trans (hV.mono hb.size))

/-- What the comparison of one code with the zero code reads. -/
def ErS (D E j : Nat) (V w' : World) : Prop := w'.cell? ⟨E, j * 2, none⟩ = some (.int .i64 0) ∧ w'.cell? ⟨E, j * 2 + 1, none⟩ = some (.slice none 0 0) ∧ w'.cell? ⟨D, 0, none⟩ = some (.int .i64 0) ∧ w'.cell? ⟨D, 1, none⟩ = some (.slice none 0 0) ∧ Below V.heap.size V w'
theorem ErS.of {D E j : Nat} {V w' : World} (hD : D < V.heap.size) (hE : E < V.heap.size) (h : ErS D E j V V) (hw : Below V.heap.size V w') : ErS D E j V w' :=
  ⟨(hw.cell (p := ⟨E, j * 2, none⟩) hE).trans h.1, (hw.cell (p := ⟨E, j * 2 + 1, none⟩) hE).trans h.2.1, (hw.cell (p := ⟨D, 0, none⟩) hD).trans h.2.2.1, (hw.cell (p := ⟨D, 1, none⟩) hD).trans h.2.2.2.1, hw⟩
theorem ErS.last {D E j : Nat} {V w' : World} (h : ErS D E j V w') : Below V.heap.size V w' := h.2.2.2.2
def ErRel (V : World) (jv : Value) (wr : World) : Prop := ∃ j : Nat, j ≤ 9 ∧ jv = .int .i64 (j : Int) ∧ Below V.heap.size V wr
def nineZ : Array Value := #[.int .i64 0, .slice none 0 0, .int .i64 0, .slice none 0 0, .int .i64 0, .slice none 0 0, .int .i64 0, .slice none 0 0, .int .i64 0, .slice none 0 0, .int .i64 0, .slice none 0 0, .int .i64 0, .slice none 0 0, .int .i64 0, .slice none 0 0, .int .i64 0, .slice none 0 0]
theorem nine_at : ∀ j : Nat, j < 9 → nineZ[j * 2]? = some (.int .i64 0) ∧ nineZ[j * 2 + 1]? = some (.slice none 0 0) := by
  intro j hj
  have h : j = 0 ∨ j = 1 ∨ j = 2 ∨ j = 3 ∨ j = 4 ∨ j = 5 ∨ j = 6 ∨ j = 7 ∨ j = 8 := by omega
  rcases h with rfl | rfl | rfl | rfl | rfl | rfl | rfl | rfl | rfl <;> exact ⟨rfl, rfl⟩

set_option maxHeartbeats 16000000 in
set_option maxRecDepth 100000 in
theorem codeErrors_main (f : Int) (A : Option Addr) (n c : Nat) (i g l ce : Int) (w : World) (hn60 : n ≤ 60) (hz : ce ≠ 0) (hRC : ∀ W, Below w.heap.size w W → Calls Tryd.prog 12 #[.agg #[.int .i64 f, .slice A n c]] W fun e w' => e = .returned (.int .i64 ce) ∧ Below W.heap.size W w')
    (hC : ChkAt f A n c ce w) (hD : DrawAt f A n c ce w) (hT : ItoaAll w) :
    Calls Tryd.prog 4 #[.agg #[.int .i64 f, .slice A n c], .int .i64 i, .agg #[.int .i64 g, .int .i64 l]] w fun e w' => e = .returned (.bool true) ∧ Below w.heap.size w w' := by
  have HRC := Lib.hid hRC
  have HT := Lib.hid hT
  have HWD : Hid (∀ W, Below w.heap.size w W → Calls Tryd.prog 17 #[.agg #[.int .i64 f, .slice A n c]] W fun e w' => e = .returned (.tuple #[.slice none 0 0, .int .i64 ce]) ∧ Below W.heap.size W w') := fun W hW => word_early f A n c ce W hz (hC.below hW)
  have HFA : Hid (∀ W, Below w.heap.size w W → Calls Tryd.prog 18 #[.agg #[.int .i64 f, .slice A n c]] W fun e w' => e = .returned (.tuple #[.slice none 0 0, .int .i64 ce]) ∧ Below W.heap.size W w') := fun W hW => faces_early f A n c ce W hz (hD.below hW)
  have HSA : Hid (∀ W A8 c8, Below w.heap.size w W → LS W A8 2 [⟨1, 0, 1, 0, 0, false⟩, ⟨1, 1, 1, 0, 0, false⟩] → (∀ b off, A8 = some ⟨b, off, none⟩ → b < W.heap.size) → Calls Tryd.prog 28 #[.agg #[.int .i64 2, .slice A8 2 c8], .agg #[.int .i64 f, .slice A n c]] W fun e w' => e = .returned (.tuple #[.bool false, .int .i64 ce]) ∧ Below W.heap.size W w') := fun W A8 c8 hW h1 h2 => same_early f A n c ce A8 c8 W hz h1 h2 (hD.below hW)
  have H0 : Hid (∀ W, Below w.heap.size w W → Calls Tryd.prog 19 #[.agg #[.int .i64 f, .slice A n c]] W (ErrZ ce W)) := fun W hW => normal_early f A n c ce W hz (hD.below hW)
  have H1 : Hid (∀ W, Below w.heap.size w W → Calls Tryd.prog 20 #[.agg #[.int .i64 f, .slice A n c]] W (ErrZ ce W)) := fun W hW => rename_early f A n c ce W hz (hC.below hW)
  have H2 : Hid (∀ W, Below w.heap.size w W → Calls Tryd.prog 21 #[.agg #[.int .i64 f, .slice A n c], .int .i64 i] W (ErrZ ce W)) := fun W hW => start_early f A n c i ce W hz (hD.below hW)
  have H3 : Hid (∀ W, Below w.heap.size w W → Calls Tryd.prog 22 #[.agg #[.int .i64 f, .slice A n c]] W (ErrZ ce W)) := fun W hW => back_early f A n c ce W hz (hC.below hW)
  have H4 : Hid (∀ W, Below w.heap.size w W → Calls Tryd.prog 23 #[.agg #[.int .i64 f, .slice A n c]] W (ErrZ ce W)) := fun W hW => swap_early f A n c ce W hz (hC.below hW)
  have H5 : Hid (∀ W, Below w.heap.size w W → Calls Tryd.prog 24 #[.agg #[.int .i64 f, .slice A n c]] W (ErrZ ce W)) := fun W hW => mirror_early f A n c ce W hz (hC.below hW)
  have H6 : Hid (∀ W, Below w.heap.size w W → Calls Tryd.prog 25 #[.agg #[.int .i64 f, .slice A n c]] W (ErrZ ce W)) := fun W hW => turn_early f A n c ce W hz (hC.below hW)
  have H7 : Hid (∀ W, Below w.heap.size w W → Calls Tryd.prog 26 #[.agg #[.int .i64 f, .slice A n c], .int .i64 i] W (ErrZ ce W)) := fun W hW => forget_early f A n c i ce W hz (hC.below hW)
  have H8 : Hid (∀ W, Below w.heap.size w W → Calls Tryd.prog 27 #[.agg #[.int .i64 f, .slice A n c], .agg #[.int .i64 g, .int .i64 l]] W (ErrZ ce W)) := fun W hW => insert_early f A n c g l ce W hz (hC.below hW)
  have t1 : decide ((n : Int) ≤ 60) = true := by rw [decide_eq_true_iff]; omega
  have HSM := Lib.hid (fun W => small_calls f A n c true W t1)
  have hzb : (ce == 0) = false := by rw [beq_eq_false_iff_ne]; exact hz
  clear hRC hC hD hT hz hn60
  go_enter Tryd.func4, Tryd.ntmps4
  go_wp2_with fail
  obtain ⟨W0, hW0⟩ : ∃ W0, W0 = (w.alloc (.cells #[.int .i64 f, .slice A n c] 24)).alloc (.cells #[.int .i64 g, .int .i64 l] 31) := ⟨_, rfl⟩
  have HF0 := Lib.hid (two_mem w _ _ W0 hW0)
  obtain ⟨P, hP⟩ : ∃ P, P = w.heap.size := ⟨_, rfl⟩
  obtain ⟨Q, hQ⟩ : ∃ Q, Q = w.heap.size + 1 := ⟨_, rfl⟩
  have Z0 : Hid (ZB f (.slice A n c) g l w P Q [] W0) := by
    obtain ⟨h1, h2, h3, h4⟩ := HF0.out
    rw [← hQ] at h2 h3
    rw [← hP] at h1
    exact ⟨h4, ⟨by omega, Lib.cell_of_heap h1 0, Lib.cell_of_heap h1 1⟩, ⟨h3, Lib.cell_of_heap h2 0, Lib.cell_of_heap h2 1⟩, fun b hb => by cases hb⟩
  rw [← hW0]
  rw [show w.heap.size + 1 = Q from hQ.symm, ← hP]
  clear hW0 HF0 hP hQ
  refine (HSM.out _).mono ?_
  rintro e w1 ⟨rfl, hb⟩
  have Z1 := Lib.hid (Z0.out.step hb)
  obtain ⟨_, ⟨_, a0, a1⟩, _, _⟩ := Z1.out
  clear hb Z0
  go_wp2_with fail
  refine (HRC.out _ Z1.out.1).mono ?_
  rintro e w2 ⟨rfl, hb⟩
  have Z2 := Lib.hid (Z1.out.step hb)
  clear a0 a1
  obtain ⟨_, ⟨_, a0, a1⟩, _, _⟩ := Z2.out
  clear hb Z1
  go_wp2_with fail
  refine (HWD.out _ Z2.out.1).mono ?_
  rintro e w3 ⟨rfl, hb⟩
  have Z3 := Lib.hid (Z2.out.step hb)
  clear a0 a1
  obtain ⟨_, ⟨_, a0, a1⟩, _, _⟩ := Z3.out
  clear hb Z2
  go_wp2_with fail
  refine (HFA.out _ Z3.out.1).mono ?_
  rintro e w4 ⟨rfl, hb⟩
  have Z4 := Lib.hid (Z3.out.step hb)
  clear a0 a1
  obtain ⟨_, ⟨_, a0, a1⟩, _, _⟩ := Z4.out
  clear hb Z3
  go_wp2_with fail
  refine (H0.out _ Z4.out.1).mono ?_
  rintro e w5 ⟨rfl, hb⟩
  have Z5 := Lib.hid ((Z4.out.step hb).add)
  obtain ⟨B5, hB5⟩ : ∃ B, B = w5.heap.size := ⟨_, rfl⟩
  obtain ⟨V5, hV5⟩ : ∃ V, V = w5.alloc (.cells #[.int .i64 0, .slice none 0 0] 24) := ⟨_, rfl⟩
  rw [← hV5, ← hB5] at Z5
  clear a0 a1
  obtain ⟨_, ⟨_, a0, a1⟩, ⟨_, p0, p1⟩, _⟩ := Z5.out
  have HV5 := Lib.hid hV5
  have HB5 := Lib.hid hB5
  rw [hV5] at a0 a1 p0 p1
  clear hb Z4 hV5 hB5
  go_wp2_with fail
  rw [← HB5.out, ← HV5.out]
  refine (H1.out _ Z5.out.1).mono ?_
  rintro e w6 ⟨rfl, hb⟩
  have Z6 := Lib.hid ((Z5.out.step hb).add)
  obtain ⟨B6, hB6⟩ : ∃ B, B = w6.heap.size := ⟨_, rfl⟩
  obtain ⟨V6, hV6⟩ : ∃ V, V = w6.alloc (.cells #[.int .i64 0, .slice none 0 0] 24) := ⟨_, rfl⟩
  rw [← hV6, ← hB6] at Z6
  clear a0 a1 p0 p1
  obtain ⟨_, ⟨_, a0, a1⟩, ⟨_, p0, p1⟩, _⟩ := Z6.out
  have HV6 := Lib.hid hV6
  have HB6 := Lib.hid hB6
  rw [hV6] at a0 a1 p0 p1
  clear hb Z5 hV6 hB6
  go_wp2_with fail
  rw [← HB6.out, ← HV6.out]
  refine (H2.out _ Z6.out.1).mono ?_
  rintro e w7 ⟨rfl, hb⟩
  have Z7 := Lib.hid ((Z6.out.step hb).add)
  obtain ⟨B7, hB7⟩ : ∃ B, B = w7.heap.size := ⟨_, rfl⟩
  obtain ⟨V7, hV7⟩ : ∃ V, V = w7.alloc (.cells #[.int .i64 0, .slice none 0 0] 24) := ⟨_, rfl⟩
  rw [← hV7, ← hB7] at Z7
  clear a0 a1 p0 p1
  obtain ⟨_, ⟨_, a0, a1⟩, ⟨_, p0, p1⟩, _⟩ := Z7.out
  have HV7 := Lib.hid hV7
  have HB7 := Lib.hid hB7
  rw [hV7] at a0 a1 p0 p1
  clear hb Z6 hV7 hB7
  go_wp2_with fail
  rw [← HB7.out, ← HV7.out]
  refine (H3.out _ Z7.out.1).mono ?_
  rintro e w8 ⟨rfl, hb⟩
  have Z8 := Lib.hid ((Z7.out.step hb).add)
  obtain ⟨B8, hB8⟩ : ∃ B, B = w8.heap.size := ⟨_, rfl⟩
  obtain ⟨V8, hV8⟩ : ∃ V, V = w8.alloc (.cells #[.int .i64 0, .slice none 0 0] 24) := ⟨_, rfl⟩
  rw [← hV8, ← hB8] at Z8
  clear a0 a1 p0 p1
  obtain ⟨_, ⟨_, a0, a1⟩, ⟨_, p0, p1⟩, _⟩ := Z8.out
  have HV8 := Lib.hid hV8
  have HB8 := Lib.hid hB8
  rw [hV8] at a0 a1 p0 p1
  clear hb Z7 hV8 hB8
  go_wp2_with fail
  rw [← HB8.out, ← HV8.out]
  refine (H4.out _ Z8.out.1).mono ?_
  rintro e w9 ⟨rfl, hb⟩
  have Z9 := Lib.hid ((Z8.out.step hb).add)
  obtain ⟨B9, hB9⟩ : ∃ B, B = w9.heap.size := ⟨_, rfl⟩
  obtain ⟨V9, hV9⟩ : ∃ V, V = w9.alloc (.cells #[.int .i64 0, .slice none 0 0] 24) := ⟨_, rfl⟩
  rw [← hV9, ← hB9] at Z9
  clear a0 a1 p0 p1
  obtain ⟨_, ⟨_, a0, a1⟩, ⟨_, p0, p1⟩, _⟩ := Z9.out
  have HV9 := Lib.hid hV9
  have HB9 := Lib.hid hB9
  rw [hV9] at a0 a1 p0 p1
  clear hb Z8 hV9 hB9
  go_wp2_with fail
  rw [← HB9.out, ← HV9.out]
  refine (H5.out _ Z9.out.1).mono ?_
  rintro e w10 ⟨rfl, hb⟩
  have Z10 := Lib.hid ((Z9.out.step hb).add)
  obtain ⟨B10, hB10⟩ : ∃ B, B = w10.heap.size := ⟨_, rfl⟩
  obtain ⟨V10, hV10⟩ : ∃ V, V = w10.alloc (.cells #[.int .i64 0, .slice none 0 0] 24) := ⟨_, rfl⟩
  rw [← hV10, ← hB10] at Z10
  clear a0 a1 p0 p1
  obtain ⟨_, ⟨_, a0, a1⟩, ⟨_, p0, p1⟩, _⟩ := Z10.out
  have HV10 := Lib.hid hV10
  have HB10 := Lib.hid hB10
  rw [hV10] at a0 a1 p0 p1
  clear hb Z9 hV10 hB10
  go_wp2_with fail
  rw [← HB10.out, ← HV10.out]
  refine (H6.out _ Z10.out.1).mono ?_
  rintro e w11 ⟨rfl, hb⟩
  have Z11 := Lib.hid ((Z10.out.step hb).add)
  obtain ⟨B11, hB11⟩ : ∃ B, B = w11.heap.size := ⟨_, rfl⟩
  obtain ⟨V11, hV11⟩ : ∃ V, V = w11.alloc (.cells #[.int .i64 0, .slice none 0 0] 24) := ⟨_, rfl⟩
  rw [← hV11, ← hB11] at Z11
  clear a0 a1 p0 p1
  obtain ⟨_, ⟨_, a0, a1⟩, ⟨_, p0, p1⟩, _⟩ := Z11.out
  have HV11 := Lib.hid hV11
  have HB11 := Lib.hid hB11
  rw [hV11] at a0 a1 p0 p1
  clear hb Z10 hV11 hB11
  go_wp2_with fail
  rw [← HB11.out, ← HV11.out]
  refine (H7.out _ Z11.out.1).mono ?_
  rintro e w12 ⟨rfl, hb⟩
  have Z12 := Lib.hid ((Z11.out.step hb).add)
  obtain ⟨B12, hB12⟩ : ∃ B, B = w12.heap.size := ⟨_, rfl⟩
  obtain ⟨V12, hV12⟩ : ∃ V, V = w12.alloc (.cells #[.int .i64 0, .slice none 0 0] 24) := ⟨_, rfl⟩
  rw [← hV12, ← hB12] at Z12
  clear a0 a1 p0 p1
  obtain ⟨_, ⟨_, a0, a1⟩, ⟨_, p0, p1⟩, _⟩ := Z12.out
  have HV12 := Lib.hid hV12
  have HB12 := Lib.hid hB12
  rw [hV12] at a0 a1 p0 p1
  clear hb Z11 hV12 hB12
  go_wp2_with fail
  rw [← HB12.out, ← HV12.out]
  refine (H8.out _ Z12.out.1).mono ?_
  rintro e w13 ⟨rfl, hb⟩
  have Z13 := Lib.hid ((Z12.out.step hb).add)
  obtain ⟨B13, hB13⟩ : ∃ B, B = w13.heap.size := ⟨_, rfl⟩
  obtain ⟨V13, hV13⟩ : ∃ V, V = w13.alloc (.cells #[.int .i64 0, .slice none 0 0] 24) := ⟨_, rfl⟩
  rw [← hV13, ← hB13] at Z13
  clear a0 a1 p0 p1
  obtain ⟨_, ⟨_, a0, a1⟩, ⟨_, p0, p1⟩, _⟩ := Z13.out
  have HV13 := Lib.hid hV13
  have HB13 := Lib.hid hB13
  rw [hV13] at a0 a1 p0 p1
  clear hb Z12 hV13 hB13
  go_wp2_with fail
  rw [← HB13.out, ← HV13.out]
  obtain ⟨hZP, hZc, hZq, hZb⟩ := Z13.out
  have HSQ : Hid (CkB P f (.slice A n c) V13 V13) := ⟨hZc.2.1, hZc.2.2, Below.refl _ _⟩
  have hPV := hZc.1
  clear a0 a1 p0 p1 hZP hZc hZq hZb
  go_region_held3 (fun w' => w'.cell? ⟨P, 0, none⟩ = some (.int .i64 f) ∧ w'.cell? ⟨P, 1, none⟩ = some (.slice A n c) ∧ Below V13.heap.size V13 w')
    (first
      | exact CkB.of hPV HSQ.out (Below.refl _ _).drew
      | exact CkB.of hPV HSQ.out ((CkB.last (P := P) (f := f) (v := .slice A n c) (by assumption)).trans (hbw.mono (CkB.last (P := P) (f := f) (v := .slice A n c) (by assumption)).size)))
    (first
      | (go_at_call 29; (with_reducible refine (lawCircle_calls _).mono ?_); rintro e wq ⟨A8, c8, rfl, hA8, hL8, hbw⟩; have HL8 := Lib.hid (And.intro hL8 hA8))
      | (go_at_call 28; (with_reducible refine (HSA.out _ _ _ ?hbx HL8.out.1 HL8.out.2).mono ?_); (case hbx => exact Z13.out.1.trans ((CkB.last (P := P) (f := f) (v := .slice A n c) (V := V13) (by assumption)).mono Z13.out.1.size)); rintro e ws ⟨rfl, hbw⟩))
  have hS : CkB P f (.slice A n c) V13 ws := by assumption
  have ZS := Lib.hid (Z13.out.step hS.last)
  clear hS Z13 HSQ hPV
  obtain ⟨_, _, _, zb⟩ := ZS.out
  obtain ⟨l0, x0, y0⟩ := zb B5 (by simp)
  obtain ⟨l1, x1, y1⟩ := zb B6 (by simp)
  obtain ⟨l2, x2, y2⟩ := zb B7 (by simp)
  obtain ⟨l3, x3, y3⟩ := zb B8 (by simp)
  obtain ⟨l4, x4, y4⟩ := zb B9 (by simp)
  obtain ⟨l5, x5, y5⟩ := zb B10 (by simp)
  obtain ⟨l6, x6, y6⟩ := zb B11 (by simp)
  obtain ⟨l7, x7, y7⟩ := zb B12 (by simp)
  obtain ⟨l8, x8, y8⟩ := zb B13 (by simp)
  clear zb
  go_wp2_with fail
  obtain ⟨U, hU⟩ : ∃ U, U = (ws.alloc (.cells #[.int .i64 0, .slice none 0 0] 24)).alloc (.cells #[.int .i64 0, .slice none 0 0, .int .i64 0, .slice none 0 0, .int .i64 0, .slice none 0 0, .int .i64 0, .slice none 0 0, .int .i64 0, .slice none 0 0, .int .i64 0, .slice none 0 0, .int .i64 0, .slice none 0 0, .int .i64 0, .slice none 0 0, .int .i64 0, .slice none 0 0] 24) := ⟨_, rfl⟩
  obtain ⟨u1, u2, u3, u4⟩ := two_mem ws _ _ U hU
  have HBU : Hid (Below w.heap.size w U) := ZS.out.1.trans (u4.mono ZS.out.1.size)
  rw [← hU]
  obtain ⟨D, hD⟩ : ∃ D, D = ws.heap.size := ⟨_, rfl⟩
  obtain ⟨E, hE⟩ : ∃ E, E = ws.heap.size + 1 := ⟨_, rfl⟩
  rw [← hE] at u2 u3
  rw [← hD] at u1
  rw [← hE, ← hD]
  have HZD : Hid (∀ W j, Below U.heap.size U W → j < 9 → D < W.heap.size ∧ E < W.heap.size ∧ ErS D E j W W) := by
    intro W j hW hj
    have hs := hW.size
    have d1 := (hW.block D (by omega)).trans u1
    have d2 := (hW.block E (by omega)).trans u2
    obtain ⟨n1, n2⟩ := nine_at j hj
    exact ⟨by omega, by omega, (Lib.cell_of_heap d2 (j * 2)).trans n1, (Lib.cell_of_heap d2 (j * 2 + 1)).trans n2, Lib.cell_of_heap d1 0, Lib.cell_of_heap d1 1, Below.refl _ _⟩
  clear hU u1 u2 u3 u4 hD hE ZS l0 x0 y0 l1 x1 y1 l2 x2 y2 l3 x3 y3 l4 x4 y4 l5 x5 y5 l6 x6 y6 l7 x7 y7 l8 x8 y8
  go_loopw [34] (fun jv wr => ErRel U jv wr) (fun jv _ => 9 - (intOf jv).toNat)
  case atStart => exact ⟨0, by omega, rfl, Below.refl _ _⟩
  case round =>
    obtain ⟨j, hj, rfl, hb⟩ := hrel
    have HB := Lib.hid hb
    by_cases hlt : j < 9
    · have hji : (j : Int) < 9 := by omega
      obtain ⟨hDw, hEw, hES⟩ := HZD.out wr j hb hlt
      have HES := Lib.hid hES
      clear hES hb
      go_wp2_with fail
      go_region_held3 (fun w' => w'.cell? ⟨E, j * 2, none⟩ = some (.int .i64 0) ∧ w'.cell? ⟨E, j * 2 + 1, none⟩ = some (.slice none 0 0) ∧ w'.cell? ⟨D, 0, none⟩ = some (.int .i64 0) ∧ w'.cell? ⟨D, 1, none⟩ = some (.slice none 0 0) ∧ Below wr.heap.size wr w')
        (first
          | exact ErS.of (D := D) (E := E) (j := j) (V := wr) hDw hEw HES.out (Below.refl _ _).drew
          | exact ErS.of (D := D) (E := E) (j := j) (V := wr) hDw hEw HES.out (((Below.refl _ _).drew).trans hbw))
        (first
          | (go_at_call 30; (with_reducible refine (codeEq_yes 0 none none 0 0 0 0 [] _ (LS.nil _ _) (LS.nil _ _) (by omega)).mono ?_); rintro e we ⟨rfl, hbw⟩))
      have hS : ErS D E j wr we := by assumption
      have HSS := Lib.hid hS.last
      clear hS
      go_wp2_with fail
      go_roundw
      case rel => exact ⟨j + 1, by omega, by rw [Int.natCast_add]; rfl, HB.out.trans (HSS.out.mono HB.out.size)⟩
      case measure => simp [intOf]; omega
    · obtain rfl : j = 9 := by omega
      clear hb
      go_wp2_with fail
      refine (known_calls _ (HT.out.below (HBU.out.trans (HB.out.mono HBU.out.size)))).mono ?_
      rintro e wk ⟨rfl, hbk⟩
      have HF : Hid (Below w.heap.size w wk) := by
        have h1 := HBU.out.trans (HB.out.mono HBU.out.size)
        exact h1.trans (hbk.mono h1.size)
      clear hbk
      go_wp2_with fail
      go_ret
      exact ⟨rfl, HF.out⟩

end Go.Proofs.YtjobnldepblciaaDoor
