/-
  RefK RefL, one after the other.
-/
import Derived.Test.YtbbpockkafbfmaaDoorRefW
import Derived.Test.YtbbpockkafbfmaaDoorAxM
import Derived.Test.YtbbpockkafbfmaaDoorKn
import Derived.Deep.RegionHeld3
import Derived.Test.YtbbpockkafbfmaaDoorLtrs

/-
  The walk of the reference's Check, given those of its letters and its Axis.
-/
namespace Go.Proofs.YtbbpockkafbfmaaDoor
open Go.RowKit

set_option maxHeartbeats 2000000 in
theorem refCrossings_wide (f : Int) (A : Option Addr) (n cap : Nat) (ls : List Lt) (w : World) (h : LS w A n ls) (hn : n ≤ 9223372036854775807) :
    Calls Tryd.prog 38 #[.agg #[.int .i64 f, .slice A n cap]] w fun e w' => e = .returned (.int .i64 (cntK 2 ls / 2)) ∧ Below w.heap.size w w' := by
  have HC := Lib.hid (visits_wide f A n cap ls _ (h.below ((Below.refl _ _).alloc (Nat.le_refl _) (.cells #[.int .i64 f, .slice A n cap] 33))) hn)
  have b0 := cntK_nonneg 2 ls
  have b1 : cntK 2 ls ≤ n := by
    have h1 := cntK_take_le 2 ls n
    rw [List.take_of_length_le (by rw [h.1]; omega)] at h1
    exact h1
  obtain ⟨x, hx⟩ : ∃ x, cntK 2 ls = x := ⟨_, rfl⟩
  rw [hx] at HC b0 b1 ⊢
  clear hx h
  go_enter Tryd.func38, Tryd.ntmps38
  go_wp2_with fail
  refine HC.out.mono ?_
  rintro e w1 ⟨rfl, hb1⟩
  go_wp2_with fail
  go_ret
  exact ⟨rfl, ((Below.refl w.heap.size w).alloc (Nat.le_refl _) _).trans (hb1.mono (by simp))⟩
theorem refCrossings_calls (f : Int) (A : Option Addr) (n cap : Nat) (ls : List Lt) (w : World) (h : LS w A n ls) (hn : n ≤ 1000000) :
    Calls Tryd.prog 38 #[.agg #[.int .i64 f, .slice A n cap]] w fun e w' => e = .returned (.int .i64 (cntK 2 ls / 2)) ∧ Below w.heap.size w w' :=
  refCrossings_wide f A n cap ls w h (by omega)

/-- What the last test reads. -/
def CkS (P : Nat) (f : Int) (v : Value) (b off : Nat) (w w' : World) : Prop := w'.cell? ⟨P, 0, none⟩ = some (.int .i64 f) ∧ w'.cell? ⟨P, 1, none⟩ = some v ∧ w'.cell? ⟨b, off, none⟩ = some (.int .i64 1) ∧ Below w.heap.size w w'
theorem CkS.of {P : Nat} {f : Int} {v : Value} {b off : Nat} {w w' : World} (hP : P < w.heap.size) (hb : b < w.heap.size) (h : CkS P f v b off w w) (hw : Below w.heap.size w w') : CkS P f v b off w w' :=
  ⟨(hw.cell (p := ⟨P, 0, none⟩) hP).trans h.1, (hw.cell (p := ⟨P, 1, none⟩) hP).trans h.2.1, (hw.cell (p := ⟨b, off, none⟩) hb).trans h.2.2.1, hw⟩
theorem CkS.last {P : Nat} {f : Int} {v : Value} {b off : Nat} {w w' : World} (h : CkS P f v b off w w') : Below w.heap.size w w' := h.2.2.2

set_option maxHeartbeats 8000000 in
set_option maxRecDepth 100000 in
/-- The last test, with a code whose letters are not fine. -/
theorem refCheck_lastno (f : Int) (b off n c : Nat) (ls : List Lt) (w : World) (hL : LS w (some ⟨b, off, none⟩) n ls) (hn : n ≤ 400) (hn0 : 0 < n) (hx : cntK 2 ls ≤ 200) (hf : 0 ≤ f ∧ f ≤ 40) (l : Lt) (hl : ls[0]? = some l) (hk : l.kind = 1) (hev : cntB isPass ls % 2 = 0)
    (hLF : ∀ W, Below w.heap.size w W → Calls Tryd.prog 36 #[.agg #[.int .i64 f, .slice (some ⟨b, off, none⟩) n c]] W fun e w' => e = .returned (.bool false) ∧ Below W.heap.size W w') :
    Calls Tryd.prog 12 #[.agg #[.int .i64 f, .slice (some ⟨b, off, none⟩) n c]] w fun e w' => e = .returned (.int .i64 3) ∧ Below w.heap.size w w' := by
  have HLS := Lib.hid hL
  have HLF0 := Lib.hid hLF
  have HV : Hid (∀ W, Below w.heap.size w W → Calls Tryd.prog 35 #[.agg #[.int .i64 f, .slice (some ⟨b, off, none⟩) n c]] W fun e w' => e = .returned (.int .i64 (cntK 2 ls)) ∧ Below W.heap.size W w') :=
    fun W hW => visits_calls f _ n c ls W (hL.below hW) (by omega)
  have HPA : Hid (∀ W, Below w.heap.size w W → Calls Tryd.prog 20 #[.agg #[.int .i64 f, .slice (some ⟨b, off, none⟩) n c]] W fun e w' => e = .returned (.int .i64 (cntB isPass ls)) ∧ Below W.heap.size W w') :=
    fun W hW => passes_calls f _ n c ls W (hL.below hW) (by omega)
  have HX := Lib.hid (Box.made w f (some ⟨b, off, none⟩) n c 33)
  have HB0 : Hid (Below w.heap.size w (w.alloc (.cells #[.int .i64 f, .slice (some ⟨b, off, none⟩) n c] 33))) := (Below.refl _ _).alloc (Nat.le_refl _) _
  have p0 := cntB_nonneg isPass ls
  have p1 : cntB isPass ls ≤ n := by
    have h1 := cntB_take_le isPass ls n
    rw [List.take_of_length_le (by rw [hL.1]; omega)] at h1
    exact h1
  obtain ⟨vi, hvi⟩ : ∃ vi, cntK 2 ls = vi := ⟨_, rfl⟩
  obtain ⟨m, hm⟩ : ∃ m, cntB isPass ls = m := ⟨_, rfl⟩
  rw [hvi] at HV hx
  rw [hm] at HPA hev p0 p1
  have t1 : decide ((400 : Int) < (n : Int)) = false := by rw [decide_eq_false_iff_not]; omega
  have t2 : decide ((200 : Int) < vi) = false := by rw [decide_eq_false_iff_not]; omega
  have t3 : decide (f < 0) = false := by rw [decide_eq_false_iff_not]; omega
  have t4 : decide ((40 : Int) < f) = false := by rw [decide_eq_false_iff_not]; omega
  have t5 : ((n : Int) == 0) = false := by rw [beq_eq_false_iff_ne]; omega
  have hn0i : (0 : Int) < (n : Int) := by omega
  have HKC : Hid (∀ W, Below w.heap.size w W → W.cell? ⟨b, off, none⟩ = some (.int .i64 1)) := by
    intro W hW
    obtain ⟨b', off', l', hA, _, hl', c0, _⟩ := (HLS.out.below hW).at_ (k := 0) hn0
    injection hA with hA
    injection hA with e1 e2
    subst e1; subst e2
    rw [hl] at hl'
    injection hl' with hl'
    subst hl'
    rw [hk] at c0
    simpa using c0
  have hbw : b < w.heap.size := by
    obtain ⟨b', off', l', hA, hlt, _⟩ := hL.at_ (k := 0) hn0
    injection hA with hA
    injection hA with e1 e2
    subst e1
    exact hlt
  clear hL hLF hl hk hvi hm hf hn
  have t6 : m % 2 = 0 := hev
  have t7 : m.tmod 2 = 0 := by rw [Int.tmod_eq_emod_of_nonneg p0]; exact hev
  go_enter Tryd.func12, Tryd.ntmps12
  go_wp2_with fail
  refine (HV.out _ HB0.out).mono ?_
  rintro e w1 ⟨rfl, hb1⟩
  have HB1 : Hid (Below w.heap.size w w1) := HB0.out.trans (hb1.mono HB0.out.size)
  have HX1 := Lib.hid (HX.out.below hb1)
  obtain ⟨_, a0, a1⟩ := HX1.out
  clear hb1
  go_wp2_with fail
  refine (HPA.out _ HB1.out).mono ?_
  rintro e V ⟨rfl, hb2⟩
  have HB2 : Hid (Below w.heap.size w V) := HB1.out.trans (hb2.mono HB1.out.size)
  clear a0 a1
  obtain ⟨hPV, a0, a1⟩ := HX1.out.below hb2
  have a2 := HKC.out V HB2.out
  have hbV : b < V.heap.size := Nat.lt_of_lt_of_le hbw HB2.out.size
  have HLF : Hid (∀ W, Below V.heap.size V W → Calls Tryd.prog 36 #[.agg #[.int .i64 f, .slice (some ⟨b, off, none⟩) n c]] W fun e w' => e = .returned (.bool false) ∧ Below W.heap.size W w') :=
    fun W hW => HLF0.out W (HB2.out.trans (hW.mono HB2.out.size))
  clear hb2
  obtain ⟨P, hP⟩ : ∃ P, P = w.heap.size := ⟨_, rfl⟩
  rw [← hP] at a0 a1 hPV ⊢
  have HS1 : Hid (CkS P f (.slice (some ⟨b, off, none⟩) n c) b off V V) := ⟨a0, a1, a2, Below.refl _ _⟩
  clear hP
  go_wp2_with fail
  refine wp_region_held_drew (S := (fun w' => w'.cell? ⟨P, 0, none⟩ = some (.int .i64 f) ∧ w'.cell? ⟨P, 1, none⟩ = some (.slice (some ⟨b, off, none⟩) n c) ∧ w'.cell? ⟨b, off, none⟩ = some (.int .i64 1) ∧ Below V.heap.size V w')) (by kernel_rfl) ?_ (fun hHeld => ?_)
  · exact CkS.of hPV hbV HS1.out (Below.refl _ _).drew
  refine wpAnyH_take (i := 0) (oi := { dst := some 27, op := Go.Op.fieldAddr 33 (Go.Operand.tmp 1) 1, type := 0, pos := "ref.go:210", after := #[], guard := none }) (v := ?_) rfl (by kernel_rfl) (by kernel_rfl) (by kernel_rfl) (fun _ _ _ h => h) (Or.inl ⟨by rfl, ?_⟩) (by assumption) ?_
  rotate_left
  · (intro w hSw; (try dsimp only at hSw); go_simp <;> with_reducible rfl)
  try simp only [Act.put, List.setIfInBounds_toArray, List.set_cons_zero, List.set_cons_succ]
  refine wpAnyH_take (i := 1) (oi := { dst := some 28, op := Go.Op.load 31 (Go.Operand.tmp 27), type := 31, pos := "ref.go:210", after := #[{ on := 0, ground := Go.Ground.data }], guard := none }) (v := ?_) rfl (by kernel_rfl) (by kernel_rfl) (by kernel_rfl) (fun _ _ _ h => h) (Or.inl ⟨by rfl, ?_⟩) (by assumption) ?_
  rotate_left
  · (intro w hSw; (try dsimp only at hSw); go_simp <;> with_reducible rfl)
  try simp only [Act.put, List.setIfInBounds_toArray, List.set_cons_zero, List.set_cons_succ]
  refine wpAnyH_take (i := 2) (oi := { dst := some 29, op := Go.Op.indexAddr 31 (Go.Operand.tmp 28) (Go.Operand.const (Go.Value.int Go.IntKind.i64 0)), type := 0, pos := "ref.go:210", after := #[{ on := 1, ground := Go.Ground.data }], guard := none }) (v := ?_) rfl (by kernel_rfl) (by kernel_rfl) (by kernel_rfl) (fun _ _ _ h => h) (Or.inl ⟨by rfl, ?_⟩) (by assumption) ?_
  rotate_left
  · (intro w hSw; (try dsimp only at hSw); go_simp <;> with_reducible rfl)
  try simp only [Act.put, List.setIfInBounds_toArray, List.set_cons_zero, List.set_cons_succ]
  refine wpAnyH_take (i := 3) (oi := { dst := some 30, op := Go.Op.fieldAddr 50 (Go.Operand.tmp 29) 0, type := 0, pos := "ref.go:210", after := #[{ on := 2, ground := Go.Ground.data }], guard := none }) (v := ?_) rfl (by kernel_rfl) (by kernel_rfl) (by kernel_rfl) (fun _ _ _ h => h) (Or.inl ⟨by rfl, ?_⟩) (by assumption) ?_
  rotate_left
  · (intro w hSw; (try dsimp only at hSw); go_simp <;> with_reducible rfl)
  try simp only [Act.put, List.setIfInBounds_toArray, List.set_cons_zero, List.set_cons_succ]
  refine wpAnyH_take (i := 4) (oi := { dst := some 31, op := Go.Op.load 48 (Go.Operand.tmp 30), type := 48, pos := "ref.go:210", after := #[{ on := 3, ground := Go.Ground.data }], guard := none }) (v := ?_) rfl (by kernel_rfl) (by kernel_rfl) (by kernel_rfl) (fun _ _ _ h => h) (Or.inl ⟨by rfl, ?_⟩) (by assumption) ?_
  rotate_left
  · (intro w hSw; (try dsimp only at hSw); go_simp <;> with_reducible rfl)
  try simp only [Act.put, List.setIfInBounds_toArray, List.set_cons_zero, List.set_cons_succ]
  refine wpAnyH_take (i := 5) (oi := { dst := some 32, op := Go.Op.binOp Go.BinOp.neq 48 (Go.Operand.tmp 31) (Go.Operand.const (Go.Value.int Go.IntKind.i64 1)) 48, type := 4, pos := "ref.go:210", after := #[{ on := 4, ground := Go.Ground.data }], guard := none }) (v := ?_) rfl (by kernel_rfl) (by kernel_rfl) (by kernel_rfl) (fun _ _ _ h => h) (Or.inl ⟨by rfl, ?_⟩) (by assumption) ?_
  rotate_left
  · (intro w hSw; (try dsimp only at hSw); go_simp <;> with_reducible rfl)
  try simp only [Act.put, List.setIfInBounds_toArray, List.set_cons_zero, List.set_cons_succ]
  refine wpAnyH_take (i := 6) (oi := { dst := some 33, op := Go.Op.move (Go.Operand.tmp 32), type := 4, pos := "ref.go:210", after := #[{ on := 5, ground := Go.Ground.data }], guard := none }) (v := ?_) rfl (by kernel_rfl) (by kernel_rfl) (by kernel_rfl) (fun _ _ _ h => h) (Or.inl ⟨by rfl, ?_⟩) (by assumption) ?_
  rotate_left
  · (intro w hSw; (try dsimp only at hSw); go_simp <;> with_reducible rfl)
  try simp only [Act.put, List.setIfInBounds_toArray, List.set_cons_zero, List.set_cons_succ]
  refine wpAnyH_take (i := 7) (oi := { dst := some 34, op := Go.Op.move (Go.Operand.tmp 3), type := 3, pos := "ref.go:210", after := #[{ on := 6, ground := Go.Ground.guard }], guard := some (6, false) }) (v := ?_) rfl (by kernel_rfl) (by kernel_rfl) (by kernel_rfl) (fun _ _ _ h => h) (Or.inl ⟨by rfl, ?_⟩) (by assumption) ?_
  rotate_left
  · (intro w hSw; (try dsimp only at hSw); go_simp <;> with_reducible rfl)
  try simp only [Act.put, List.setIfInBounds_toArray, List.set_cons_zero, List.set_cons_succ]
  refine wpAnyH_take (i := 8) (oi := { dst := some 35, op := Go.Op.binOp Go.BinOp.rem 3 (Go.Operand.tmp 34) (Go.Operand.const (Go.Value.int Go.IntKind.i64 2)) 3, type := 3, pos := "ref.go:210", after := #[{ on := 7, ground := Go.Ground.data }, { on := 6, ground := Go.Ground.guard }], guard := some (6, false) }) (v := ?_) rfl (by kernel_rfl) (by kernel_rfl) (by kernel_rfl) (fun _ _ _ h => h) (Or.inl ⟨by rfl, ?_⟩) (by assumption) ?_
  rotate_left
  · (intro w hSw; (try dsimp only at hSw); go_simp <;> with_reducible rfl)
  try simp only [Act.put, List.setIfInBounds_toArray, List.set_cons_zero, List.set_cons_succ]
  refine wpAnyH_take (i := 9) (oi := { dst := some 36, op := Go.Op.binOp Go.BinOp.neq 3 (Go.Operand.tmp 35) (Go.Operand.const (Go.Value.int Go.IntKind.i64 0)) 3, type := 4, pos := "ref.go:210", after := #[{ on := 8, ground := Go.Ground.data }, { on := 6, ground := Go.Ground.guard }], guard := some (6, false) }) (v := ?_) rfl (by kernel_rfl) (by kernel_rfl) (by kernel_rfl) (fun _ _ _ h => h) (Or.inl ⟨by rfl, ?_⟩) (by assumption) ?_
  rotate_left
  · (intro w hSw; (try dsimp only at hSw); go_simp <;> with_reducible rfl)
  try simp only [Act.put, List.setIfInBounds_toArray, List.set_cons_zero, List.set_cons_succ]
  refine wpAnyH_take (i := 10) (oi := { dst := some 37, op := Go.Op.pick (Go.Operand.tmp 33) (Go.Operand.const (Go.Value.bool true)) (Go.Operand.tmp 36), type := 4, pos := "ref.go:210", after := #[{ on := 6, ground := Go.Ground.data }, { on := 9, ground := Go.Ground.data }], guard := none }) (v := ?_) rfl (by kernel_rfl) (by kernel_rfl) (by kernel_rfl) (fun _ _ _ h => h) (Or.inl ⟨by rfl, ?_⟩) (by assumption) ?_
  rotate_left
  · (intro w hSw; (try dsimp only at hSw); go_simp <;> with_reducible rfl)
  try simp only [Act.put, List.setIfInBounds_toArray, List.set_cons_zero, List.set_cons_succ]
  refine wpAnyH_take (i := 11) (oi := { dst := some 38, op := Go.Op.move (Go.Operand.tmp 37), type := 4, pos := "ref.go:210", after := #[{ on := 10, ground := Go.Ground.data }, { on := 6, ground := Go.Ground.chain }], guard := none }) (v := ?_) rfl (by kernel_rfl) (by kernel_rfl) (by kernel_rfl) (fun _ _ _ h => h) (Or.inl ⟨by rfl, ?_⟩) (by assumption) ?_
  rotate_left
  · (intro w hSw; (try dsimp only at hSw); go_simp <;> with_reducible rfl)
  try simp only [Act.put, List.setIfInBounds_toArray, List.set_cons_zero, List.set_cons_succ]
  refine wpAnyH_take (i := 12) (oi := { dst := some 39, op := Go.Op.load 33 (Go.Operand.tmp 1), type := 33, pos := "ref.go:210", after := #[{ on := 11, ground := Go.Ground.guard }], guard := some (11, false) }) (v := ?_) rfl (by kernel_rfl) (by kernel_rfl) (by kernel_rfl) (fun _ _ _ h => h) (Or.inl ⟨by rfl, ?_⟩) (by assumption) ?_
  rotate_left
  · (intro w hSw; (try dsimp only at hSw); go_simp <;> with_reducible rfl)
  try simp only [Act.put, List.setIfInBounds_toArray, List.set_cons_zero, List.set_cons_succ]
  refine wpAnyH_ready (rs := [13]) (by kernel_rfl) (by simp) ?_
  refine AllReadyH.cons (o := { dst := some 40, op := Go.Op.call { callee := Go.Callee.value (Go.Operand.func 36), args := #[Go.Operand.tmp 39], argTypes := #[33] }, type := 4, pos := "ref.go:210", after := #[{ on := 12, ground := Go.Ground.data }, { on := 11, ground := Go.Ground.chain }, { on := 11, ground := Go.Ground.guard }], guard := some (11, false) }) rfl (fun K hK => ?_) AllReadyH.nil
  go_simp
  refine (HLF.out _ ?_).mono ?_
  · exact (CkS.last (P := P) (f := f) (v := .slice (some ⟨b, off, none⟩) n c) (b := b) (off := off) (by assumption))
  rintro e w2 ⟨rfl, hbw⟩
  go_wp2_with fail
  refine hK.out _ _ ?_ (fun hHeld => ?_)
  · exact CkS.of hPV hbV HS1.out ((CkS.last (P := P) (f := f) (v := .slice (some ⟨b, off, none⟩) n c) (b := b) (off := off) (by assumption)).trans (hbw.mono (CkS.last (P := P) (f := f) (v := .slice (some ⟨b, off, none⟩) n c) (b := b) (off := off) (by assumption)).size))
  clear hK K hbw
  try simp only [Act.put, List.setIfInBounds_toArray, List.set_cons_zero, List.set_cons_succ]
  refine wpAnyH_take (i := 14) (oi := { dst := some 41, op := Go.Op.unOp Go.UnOp.not 4 (Go.Operand.tmp 40), type := 4, pos := "ref.go:210", after := #[{ on := 13, ground := Go.Ground.data }, { on := 11, ground := Go.Ground.guard }], guard := some (11, false) }) (v := ?_) rfl (by kernel_rfl) (by kernel_rfl) (by kernel_rfl) (fun _ _ _ h => h) (Or.inl ⟨by rfl, ?_⟩) (by assumption) ?_
  rotate_left
  · (intro w hSw; (try dsimp only at hSw); go_simp <;> with_reducible rfl)
  try simp only [Act.put, List.setIfInBounds_toArray, List.set_cons_zero, List.set_cons_succ]
  refine wpAnyH_take (i := 15) (oi := { dst := some 42, op := Go.Op.pick (Go.Operand.tmp 38) (Go.Operand.const (Go.Value.bool true)) (Go.Operand.tmp 41), type := 4, pos := "ref.go:210", after := #[{ on := 11, ground := Go.Ground.data }, { on := 14, ground := Go.Ground.data }], guard := none }) (v := ?_) rfl (by kernel_rfl) (by kernel_rfl) (by kernel_rfl) (fun _ _ _ h => h) (Or.inl ⟨by rfl, ?_⟩) (by assumption) ?_
  rotate_left
  · (intro w hSw; (try dsimp only at hSw); go_simp <;> with_reducible rfl)
  try simp only [Act.put, List.setIfInBounds_toArray, List.set_cons_zero, List.set_cons_succ]
  refine wpAnyH_take (i := 16) (oi := { dst := some 43, op := Go.Op.move (Go.Operand.tmp 42), type := 4, pos := "ref.go:210", after := #[{ on := 15, ground := Go.Ground.data }, { on := 13, ground := Go.Ground.chain }], guard := none }) (v := ?_) rfl (by kernel_rfl) (by kernel_rfl) (by kernel_rfl) (fun _ _ _ h => h) (Or.inl ⟨by rfl, ?_⟩) (by assumption) ?_
  rotate_left
  · (intro w hSw; (try dsimp only at hSw); go_simp <;> with_reducible rfl)
  try simp only [Act.put, List.setIfInBounds_toArray, List.set_cons_zero, List.set_cons_succ]
  refine wpAnyH_take (i := 17) (oi := { dst := some 44, op := Go.Op.load 33 (Go.Operand.tmp 1), type := 33, pos := "ref.go:210", after := #[{ on := 16, ground := Go.Ground.guard }], guard := some (16, false) }) (v := undef) rfl (by kernel_rfl) (by kernel_rfl) (by kernel_rfl) (fun _ _ _ h => h) (Or.inr ⟨by rfl, rfl⟩) (by assumption) ?_
  try simp only [Act.put, List.setIfInBounds_toArray, List.set_cons_zero, List.set_cons_succ]
  refine wpAnyH_take (i := 18) (oi := { dst := some 45, op := Go.Op.call { callee := Go.Callee.value (Go.Operand.func 37), args := #[Go.Operand.tmp 44], argTypes := #[33] }, type := 26, pos := "ref.go:210", after := #[{ on := 17, ground := Go.Ground.data }, { on := 16, ground := Go.Ground.chain }, { on := 16, ground := Go.Ground.guard }], guard := some (16, false) }) (v := undef) rfl (by kernel_rfl) (by kernel_rfl) (by kernel_rfl) (fun _ _ _ h => h) (Or.inr ⟨by rfl, rfl⟩) (by assumption) ?_
  try simp only [Act.put, List.setIfInBounds_toArray, List.set_cons_zero, List.set_cons_succ]
  refine wpAnyH_take (i := 19) (oi := { dst := some 46, op := Go.Op.call { callee := Go.Callee.builtin Go.Builtin.len, args := #[Go.Operand.tmp 45], argTypes := #[26] }, type := 3, pos := "ref.go:210", after := #[{ on := 18, ground := Go.Ground.data }, { on := 16, ground := Go.Ground.guard }], guard := some (16, false) }) (v := undef) rfl (by kernel_rfl) (by kernel_rfl) (by kernel_rfl) (fun _ _ _ h => h) (Or.inr ⟨by rfl, rfl⟩) (by assumption) ?_
  try simp only [Act.put, List.setIfInBounds_toArray, List.set_cons_zero, List.set_cons_succ]
  refine wpAnyH_take (i := 20) (oi := { dst := some 47, op := Go.Op.move (Go.Operand.tmp 3), type := 3, pos := "ref.go:210", after := #[{ on := 16, ground := Go.Ground.guard }], guard := some (16, false) }) (v := undef) rfl (by kernel_rfl) (by kernel_rfl) (by kernel_rfl) (fun _ _ _ h => h) (Or.inr ⟨by rfl, rfl⟩) (by assumption) ?_
  try simp only [Act.put, List.setIfInBounds_toArray, List.set_cons_zero, List.set_cons_succ]
  refine wpAnyH_take (i := 21) (oi := { dst := some 48, op := Go.Op.load 33 (Go.Operand.tmp 1), type := 33, pos := "ref.go:210", after := #[{ on := 16, ground := Go.Ground.guard }], guard := some (16, false) }) (v := undef) rfl (by kernel_rfl) (by kernel_rfl) (by kernel_rfl) (fun _ _ _ h => h) (Or.inr ⟨by rfl, rfl⟩) (by assumption) ?_
  try simp only [Act.put, List.setIfInBounds_toArray, List.set_cons_zero, List.set_cons_succ]
  refine wpAnyH_take (i := 22) (oi := { dst := some 49, op := Go.Op.call { callee := Go.Callee.value (Go.Operand.func 38), args := #[Go.Operand.tmp 48], argTypes := #[33] }, type := 3, pos := "ref.go:210", after := #[{ on := 21, ground := Go.Ground.data }, { on := 18, ground := Go.Ground.chain }, { on := 16, ground := Go.Ground.guard }], guard := some (16, false) }) (v := undef) rfl (by kernel_rfl) (by kernel_rfl) (by kernel_rfl) (fun _ _ _ h => h) (Or.inr ⟨by rfl, rfl⟩) (by assumption) ?_
  try simp only [Act.put, List.setIfInBounds_toArray, List.set_cons_zero, List.set_cons_succ]
  refine wpAnyH_take (i := 23) (oi := { dst := some 50, op := Go.Op.binOp Go.BinOp.add 3 (Go.Operand.tmp 47) (Go.Operand.tmp 49) 3, type := 3, pos := "ref.go:210", after := #[{ on := 20, ground := Go.Ground.data }, { on := 22, ground := Go.Ground.data }, { on := 16, ground := Go.Ground.guard }], guard := some (16, false) }) (v := undef) rfl (by kernel_rfl) (by kernel_rfl) (by kernel_rfl) (fun _ _ _ h => h) (Or.inr ⟨by rfl, rfl⟩) (by assumption) ?_
  try simp only [Act.put, List.setIfInBounds_toArray, List.set_cons_zero, List.set_cons_succ]
  refine wpAnyH_take (i := 24) (oi := { dst := some 51, op := Go.Op.binOp Go.BinOp.add 3 (Go.Operand.tmp 50) (Go.Operand.const (Go.Value.int Go.IntKind.i64 2)) 3, type := 3, pos := "ref.go:210", after := #[{ on := 23, ground := Go.Ground.data }, { on := 16, ground := Go.Ground.guard }], guard := some (16, false) }) (v := undef) rfl (by kernel_rfl) (by kernel_rfl) (by kernel_rfl) (fun _ _ _ h => h) (Or.inr ⟨by rfl, rfl⟩) (by assumption) ?_
  try simp only [Act.put, List.setIfInBounds_toArray, List.set_cons_zero, List.set_cons_succ]
  refine wpAnyH_take (i := 25) (oi := { dst := some 52, op := Go.Op.binOp Go.BinOp.neq 3 (Go.Operand.tmp 46) (Go.Operand.tmp 51) 3, type := 4, pos := "ref.go:210", after := #[{ on := 19, ground := Go.Ground.data }, { on := 24, ground := Go.Ground.data }, { on := 16, ground := Go.Ground.guard }], guard := some (16, false) }) (v := undef) rfl (by kernel_rfl) (by kernel_rfl) (by kernel_rfl) (fun _ _ _ h => h) (Or.inr ⟨by rfl, rfl⟩) (by assumption) ?_
  try simp only [Act.put, List.setIfInBounds_toArray, List.set_cons_zero, List.set_cons_succ]
  refine wpAnyH_take (i := 26) (oi := { dst := some 53, op := Go.Op.pick (Go.Operand.tmp 43) (Go.Operand.const (Go.Value.bool true)) (Go.Operand.tmp 52), type := 4, pos := "ref.go:210", after := #[{ on := 16, ground := Go.Ground.data }, { on := 25, ground := Go.Ground.data }], guard := none }) (v := ?_) rfl (by kernel_rfl) (by kernel_rfl) (by kernel_rfl) (fun _ _ _ h => h) (Or.inl ⟨by rfl, ?_⟩) (by assumption) ?_
  rotate_left
  · (intro w hSw; (try dsimp only at hSw); go_simp <;> with_reducible rfl)
  try simp only [Act.put, List.setIfInBounds_toArray, List.set_cons_zero, List.set_cons_succ]
  refine wpAnyH_done (by kernel_rfl) ?_ _
  have hS : CkS P f (.slice (some ⟨b, off, none⟩) n c) b off V w2 := by assumption
  have HSS := Lib.hid hS.last
  clear hS
  go_wp2_with fail
  go_ret
  exact ⟨rfl, HB2.out.trans (HSS.out.mono HB2.out.size)⟩

set_option maxHeartbeats 8000000 in
set_option maxRecDepth 100000 in
/-- The last test, with a code whose letters are fine. -/
theorem refCheck_lastyes (f : Int) (b off n c : Nat) (ls : List Lt) (w : World) (hL : LS w (some ⟨b, off, none⟩) n ls) (hn : n ≤ 400) (hn0 : 0 < n) (hx : cntK 2 ls ≤ 200) (hf : 0 ≤ f ∧ f ≤ 40) (l : Lt) (hl : ls[0]? = some l) (hk : l.kind = 1) (hev : cntB isPass ls % 2 = 0) (N : Nat) (_hN : N ≤ 10000)
    (hLF : ∀ W, Below w.heap.size w W → Calls Tryd.prog 36 #[.agg #[.int .i64 f, .slice (some ⟨b, off, none⟩) n c]] W fun e w' => e = .returned (.bool true) ∧ Below W.heap.size W w')
    (hWK : ∀ W, Below w.heap.size w W → Calls Tryd.prog 37 #[.agg #[.int .i64 f, .slice (some ⟨b, off, none⟩) n c]] W fun e w' => (∃ A' c', e = .returned (.slice A' N c')) ∧ Below W.heap.size W w') :
    Calls Tryd.prog 12 #[.agg #[.int .i64 f, .slice (some ⟨b, off, none⟩) n c]] w fun e w' => e = .returned (.int .i64 (if (N : Int) = cntB isPass ls + cntK 2 ls / 2 + 2 then 0 else 3)) ∧ Below w.heap.size w w' := by
  have HLS := Lib.hid hL
  have HLF0 := Lib.hid hLF
  have HWK0 := Lib.hid hWK
  have HCR : Hid (∀ W, Below w.heap.size w W → Calls Tryd.prog 38 #[.agg #[.int .i64 f, .slice (some ⟨b, off, none⟩) n c]] W fun e w' => e = .returned (.int .i64 (cntK 2 ls / 2)) ∧ Below W.heap.size W w') :=
    fun W hW => refCrossings_calls f _ n c ls W (hL.below hW) (by omega)
  have v0 := cntK_nonneg 2 ls
  have HV : Hid (∀ W, Below w.heap.size w W → Calls Tryd.prog 35 #[.agg #[.int .i64 f, .slice (some ⟨b, off, none⟩) n c]] W fun e w' => e = .returned (.int .i64 (cntK 2 ls)) ∧ Below W.heap.size W w') :=
    fun W hW => visits_calls f _ n c ls W (hL.below hW) (by omega)
  have HPA : Hid (∀ W, Below w.heap.size w W → Calls Tryd.prog 20 #[.agg #[.int .i64 f, .slice (some ⟨b, off, none⟩) n c]] W fun e w' => e = .returned (.int .i64 (cntB isPass ls)) ∧ Below W.heap.size W w') :=
    fun W hW => passes_calls f _ n c ls W (hL.below hW) (by omega)
  have HX := Lib.hid (Box.made w f (some ⟨b, off, none⟩) n c 33)
  have HB0 : Hid (Below w.heap.size w (w.alloc (.cells #[.int .i64 f, .slice (some ⟨b, off, none⟩) n c] 33))) := (Below.refl _ _).alloc (Nat.le_refl _) _
  have p0 := cntB_nonneg isPass ls
  have p1 : cntB isPass ls ≤ n := by
    have h1 := cntB_take_le isPass ls n
    rw [List.take_of_length_le (by rw [hL.1]; omega)] at h1
    exact h1
  obtain ⟨vi, hvi⟩ : ∃ vi, cntK 2 ls = vi := ⟨_, rfl⟩
  obtain ⟨m, hm⟩ : ∃ m, cntB isPass ls = m := ⟨_, rfl⟩
  rw [hvi] at HV hx HCR v0 ⊢
  rw [hm] at HPA hev p0 p1 ⊢
  obtain ⟨xc, hxc⟩ : ∃ xc, vi / 2 = xc := ⟨_, rfl⟩
  have xc0 : 0 ≤ xc ∧ xc ≤ 100 := by omega
  rw [hxc] at HCR ⊢
  obtain ⟨xc0, xc1⟩ := xc0
  have t1 : decide ((400 : Int) < (n : Int)) = false := by rw [decide_eq_false_iff_not]; omega
  have t2 : decide ((200 : Int) < vi) = false := by rw [decide_eq_false_iff_not]; omega
  have t3 : decide (f < 0) = false := by rw [decide_eq_false_iff_not]; omega
  have t4 : decide ((40 : Int) < f) = false := by rw [decide_eq_false_iff_not]; omega
  have t5 : ((n : Int) == 0) = false := by rw [beq_eq_false_iff_ne]; omega
  have hn0i : (0 : Int) < (n : Int) := by omega
  have HKC : Hid (∀ W, Below w.heap.size w W → W.cell? ⟨b, off, none⟩ = some (.int .i64 1)) := by
    intro W hW
    obtain ⟨b', off', l', hA, _, hl', c0, _⟩ := (HLS.out.below hW).at_ (k := 0) hn0
    injection hA with hA
    injection hA with e1 e2
    subst e1; subst e2
    rw [hl] at hl'
    injection hl' with hl'
    subst hl'
    rw [hk] at c0
    simpa using c0
  have hbw : b < w.heap.size := by
    obtain ⟨b', off', l', hA, hlt, _⟩ := hL.at_ (k := 0) hn0
    injection hA with hA
    injection hA with e1 e2
    subst e1
    exact hlt
  have hs1 : IntKind.i64.wrap (m + xc) = m + xc := wrapI (by omega) (by omega)
  have hs2 : IntKind.i64.wrap (m + xc + 2) = m + xc + 2 := wrapI (by omega) (by omega)
  obtain ⟨r, hr⟩ : ∃ r : Int, (if (N : Int) = m + xc + 2 then 0 else 3) = r := ⟨_, rfl⟩
  rw [hr]
  have HR := Lib.hid hr
  clear hL hLF hWK hl hk hvi hm hf hn hxc hr
  have t6 : m % 2 = 0 := hev
  have t7 : m.tmod 2 = 0 := by rw [Int.tmod_eq_emod_of_nonneg p0]; exact hev
  go_enter Tryd.func12, Tryd.ntmps12
  go_wp2_with fail
  refine (HV.out _ HB0.out).mono ?_
  rintro e w1 ⟨rfl, hb1⟩
  have HB1 : Hid (Below w.heap.size w w1) := HB0.out.trans (hb1.mono HB0.out.size)
  have HX1 := Lib.hid (HX.out.below hb1)
  obtain ⟨_, a0, a1⟩ := HX1.out
  clear hb1
  go_wp2_with fail
  refine (HPA.out _ HB1.out).mono ?_
  rintro e V ⟨rfl, hb2⟩
  have HB2 : Hid (Below w.heap.size w V) := HB1.out.trans (hb2.mono HB1.out.size)
  clear a0 a1
  obtain ⟨hPV, a0, a1⟩ := HX1.out.below hb2
  have a2 := HKC.out V HB2.out
  have hbV : b < V.heap.size := Nat.lt_of_lt_of_le hbw HB2.out.size
  have HLF : Hid (∀ W, Below V.heap.size V W → Calls Tryd.prog 36 #[.agg #[.int .i64 f, .slice (some ⟨b, off, none⟩) n c]] W fun e w' => e = .returned (.bool true) ∧ Below W.heap.size W w') :=
    fun W hW => HLF0.out W (HB2.out.trans (hW.mono HB2.out.size))
  have HWK : Hid (∀ W, Below V.heap.size V W → Calls Tryd.prog 37 #[.agg #[.int .i64 f, .slice (some ⟨b, off, none⟩) n c]] W fun e w' => (∃ A' c', e = .returned (.slice A' N c')) ∧ Below W.heap.size W w') :=
    fun W hW => HWK0.out W (HB2.out.trans (hW.mono HB2.out.size))
  have HCRV : Hid (∀ W, Below V.heap.size V W → Calls Tryd.prog 38 #[.agg #[.int .i64 f, .slice (some ⟨b, off, none⟩) n c]] W fun e w' => e = .returned (.int .i64 xc) ∧ Below W.heap.size W w') :=
    fun W hW => HCR.out W (HB2.out.trans (hW.mono HB2.out.size))
  clear hb2
  obtain ⟨P, hP⟩ : ∃ P, P = w.heap.size := ⟨_, rfl⟩
  rw [← hP] at a0 a1 hPV ⊢
  have HS1 : Hid (CkS P f (.slice (some ⟨b, off, none⟩) n c) b off V V) := ⟨a0, a1, a2, Below.refl _ _⟩
  clear hP
  have hcase : (N : Int) = m + xc + 2 ∨ ¬ (N : Int) = m + xc + 2 := by omega
  rcases hcase with hq | hq
  · have t8 : ((N : Int) != m + xc + 2) = false := by rw [bne_eq_false_iff_eq]; exact hq
    have HQ : Hid (0 = r) := by unfold Hid; rw [← HR.out, if_pos hq]
    clear hq
    go_wp2_with fail
    go_region_held3 (fun w' => w'.cell? ⟨P, 0, none⟩ = some (.int .i64 f) ∧ w'.cell? ⟨P, 1, none⟩ = some (.slice (some ⟨b, off, none⟩) n c) ∧ w'.cell? ⟨b, off, none⟩ = some (.int .i64 1) ∧ Below V.heap.size V w')
      (first
        | exact CkS.of hPV hbV HS1.out (Below.refl _ _).drew
        | exact CkS.of hPV hbV HS1.out ((CkS.last (P := P) (f := f) (v := .slice (some ⟨b, off, none⟩) n c) (b := b) (off := off) (by assumption)).trans (hbw.mono (CkS.last (P := P) (f := f) (v := .slice (some ⟨b, off, none⟩) n c) (b := b) (off := off) (by assumption)).size)))
      (first
        | (go_at_call 36; refine (HLF.out _ ?hbx).mono ?_; (case hbx => exact (CkS.last (P := P) (f := f) (v := .slice (some ⟨b, off, none⟩) n c) (b := b) (off := off) (by assumption))); rintro e w2 ⟨rfl, hbw⟩)
        | (go_at_call 37; refine (HWK.out _ ?hbx).mono ?_; (case hbx => exact (CkS.last (P := P) (f := f) (v := .slice (some ⟨b, off, none⟩) n c) (b := b) (off := off) (by assumption))); rintro e w2 ⟨⟨A', c', rfl⟩, hbw⟩)
        | (go_at_call 38; refine (HCRV.out _ ?hbx).mono ?_; (case hbx => exact (CkS.last (P := P) (f := f) (v := .slice (some ⟨b, off, none⟩) n c) (b := b) (off := off) (by assumption))); rintro e w2 ⟨rfl, hbw⟩))
    have hS : CkS P f (.slice (some ⟨b, off, none⟩) n c) b off V w2 := by assumption
    have HSS := Lib.hid hS.last
    clear hS
    go_wp2_with fail
    go_ret
    exact ⟨ret_i64 HQ.out, HB2.out.trans (HSS.out.mono HB2.out.size)⟩
  · have t8 : ((N : Int) != m + xc + 2) = true := by rw [bne_iff_ne]; exact hq
    have HQ : Hid (3 = r) := by unfold Hid; rw [← HR.out, if_neg hq]
    clear hq
    go_wp2_with fail
    go_region_held3 (fun w' => w'.cell? ⟨P, 0, none⟩ = some (.int .i64 f) ∧ w'.cell? ⟨P, 1, none⟩ = some (.slice (some ⟨b, off, none⟩) n c) ∧ w'.cell? ⟨b, off, none⟩ = some (.int .i64 1) ∧ Below V.heap.size V w')
      (first
        | exact CkS.of hPV hbV HS1.out (Below.refl _ _).drew
        | exact CkS.of hPV hbV HS1.out ((CkS.last (P := P) (f := f) (v := .slice (some ⟨b, off, none⟩) n c) (b := b) (off := off) (by assumption)).trans (hbw.mono (CkS.last (P := P) (f := f) (v := .slice (some ⟨b, off, none⟩) n c) (b := b) (off := off) (by assumption)).size)))
      (first
        | (go_at_call 36; refine (HLF.out _ ?hbx).mono ?_; (case hbx => exact (CkS.last (P := P) (f := f) (v := .slice (some ⟨b, off, none⟩) n c) (b := b) (off := off) (by assumption))); rintro e w2 ⟨rfl, hbw⟩)
        | (go_at_call 37; refine (HWK.out _ ?hbx).mono ?_; (case hbx => exact (CkS.last (P := P) (f := f) (v := .slice (some ⟨b, off, none⟩) n c) (b := b) (off := off) (by assumption))); rintro e w2 ⟨⟨A', c', rfl⟩, hbw⟩)
        | (go_at_call 38; refine (HCRV.out _ ?hbx).mono ?_; (case hbx => exact (CkS.last (P := P) (f := f) (v := .slice (some ⟨b, off, none⟩) n c) (b := b) (off := off) (by assumption))); rintro e w2 ⟨rfl, hbw⟩))
    have hS : CkS P f (.slice (some ⟨b, off, none⟩) n c) b off V w2 := by assumption
    have HSS := Lib.hid hS.last
    clear hS
    go_wp2_with fail
    go_ret
    exact ⟨ret_i64 HQ.out, HB2.out.trans (HSS.out.mono HB2.out.size)⟩

end Go.Proofs.YtbbpockkafbfmaaDoor

/-
  The walk of the reference's Check, given that of its Axis: it answers as the program's Check.
-/
namespace Go.Proofs.YtbbpockkafbfmaaDoor
open Go.RowKit

theorem closed_head {ls : List Lt} (h0 : 0 < ls.length) : closedB ls = true ↔ ∃ l, ls[0]? = some l ∧ l.kind = 1 ∧ cntB isPass ls % 2 = 0 := by
  cases ls with
  | nil => simp at h0
  | cons a r =>
    unfold closedB
    simp only [List.length_cons, List.head?_cons, Option.any_some, List.getElem?_cons_zero]
    simp [isPass]

set_option maxHeartbeats 8000000 in
set_option maxRecDepth 100000 in
/-- The answers before the last test. -/
theorem refCheck_early (f : Int) (A : Option Addr) (n c : Nat) (ls : List Lt) (w : World) (hL : LS w A n ls) (E : Int)
    (hE : (400 < n ∧ E = 7) ∨ (n ≤ 400 ∧ 200 < cntK 2 ls ∧ E = 7) ∨ (n ≤ 400 ∧ cntK 2 ls ≤ 200 ∧ f < 0 ∧ E = 2) ∨ (n ≤ 400 ∧ cntK 2 ls ≤ 200 ∧ 0 ≤ f ∧ 40 < f ∧ E = 2) ∨ (n = 0 ∧ cntK 2 ls ≤ 200 ∧ 0 ≤ f ∧ f ≤ 40 ∧ E = 0)) :
    Calls Tryd.prog 12 #[.agg #[.int .i64 f, .slice A n c]] w fun e w' => e = .returned (.int .i64 E) ∧ Below w.heap.size w w' := by
  have HX := Lib.hid (Box.made w f A n c 33)
  have HB0 : Hid (Below w.heap.size w (w.alloc (.cells #[.int .i64 f, .slice A n c] 33))) := (Below.refl _ _).alloc (Nat.le_refl _) _
  have HV : Hid (n ≤ 400 → ∀ W, Below w.heap.size w W → Calls Tryd.prog 35 #[.agg #[.int .i64 f, .slice A n c]] W fun e w' => e = .returned (.int .i64 (cntK 2 ls)) ∧ Below W.heap.size W w') :=
    fun h W hW => visits_calls f A n c ls W (hL.below hW) (by omega)
  obtain ⟨vi, hvi⟩ : ∃ vi, cntK 2 ls = vi := ⟨_, rfl⟩
  rw [hvi] at HV hE
  clear hvi hL
  rcases hE with ⟨h1, rfl⟩ | ⟨h1, h2, rfl⟩ | ⟨h1, h2, h3, rfl⟩ | ⟨h1, h2, h3, h4, rfl⟩ | ⟨h1, h2, h3, h4, rfl⟩
  · have t1 : decide ((400 : Int) < (n : Int)) = true := by rw [decide_eq_true_iff]; omega
    go_enter Tryd.func12, Tryd.ntmps12
    go_wp2_with fail
    go_ret
    exact ⟨rfl, HB0.out⟩
  · have t1 : decide ((400 : Int) < (n : Int)) = false := by rw [decide_eq_false_iff_not]; omega
    have t2 : decide ((200 : Int) < vi) = true := by rw [decide_eq_true_iff]; omega
    have HVV := Lib.hid (HV.out h1)
    clear h1 h2 HV
    go_enter Tryd.func12, Tryd.ntmps12
    go_wp2_with fail
    refine (HVV.out _ HB0.out).mono ?_
    rintro e w1 ⟨rfl, hb1⟩
    have HB1 : Hid (Below w.heap.size w w1) := HB0.out.trans (hb1.mono HB0.out.size)
    obtain ⟨_, a0, a1⟩ := HX.out.below hb1
    clear hb1
    go_wp2_with fail
    go_ret
    exact ⟨rfl, HB1.out⟩
  · have t1 : decide ((400 : Int) < (n : Int)) = false := by rw [decide_eq_false_iff_not]; omega
    have t2 : decide ((200 : Int) < vi) = false := by rw [decide_eq_false_iff_not]; omega
    have t3 : decide (f < 0) = true := by rw [decide_eq_true_iff]; omega
    have HVV := Lib.hid (HV.out h1)
    clear h1 h2 h3 HV
    go_enter Tryd.func12, Tryd.ntmps12
    go_wp2_with fail
    refine (HVV.out _ HB0.out).mono ?_
    rintro e w1 ⟨rfl, hb1⟩
    have HB1 : Hid (Below w.heap.size w w1) := HB0.out.trans (hb1.mono HB0.out.size)
    obtain ⟨_, a0, a1⟩ := HX.out.below hb1
    clear hb1
    go_wp2_with fail
    go_ret
    exact ⟨rfl, HB1.out⟩
  · have t1 : decide ((400 : Int) < (n : Int)) = false := by rw [decide_eq_false_iff_not]; omega
    have t2 : decide ((200 : Int) < vi) = false := by rw [decide_eq_false_iff_not]; omega
    have t3 : decide (f < 0) = false := by rw [decide_eq_false_iff_not]; omega
    have t4 : decide ((40 : Int) < f) = true := by rw [decide_eq_true_iff]; omega
    have HVV := Lib.hid (HV.out h1)
    clear h1 h2 h3 h4 HV
    go_enter Tryd.func12, Tryd.ntmps12
    go_wp2_with fail
    refine (HVV.out _ HB0.out).mono ?_
    rintro e w1 ⟨rfl, hb1⟩
    have HB1 : Hid (Below w.heap.size w w1) := HB0.out.trans (hb1.mono HB0.out.size)
    obtain ⟨_, a0, a1⟩ := HX.out.below hb1
    clear hb1
    go_wp2_with fail
    go_ret
    exact ⟨rfl, HB1.out⟩
  · subst h1
    have t2 : decide ((200 : Int) < vi) = false := by rw [decide_eq_false_iff_not]; omega
    have t3 : decide (f < 0) = false := by rw [decide_eq_false_iff_not]; omega
    have t4 : decide ((40 : Int) < f) = false := by rw [decide_eq_false_iff_not]; omega
    have HVV := Lib.hid (HV.out (by omega))
    clear h2 h3 h4 HV
    go_enter Tryd.func12, Tryd.ntmps12
    go_wp2_with fail
    refine (HVV.out _ HB0.out).mono ?_
    rintro e w1 ⟨rfl, hb1⟩
    have HB1 : Hid (Below w.heap.size w w1) := HB0.out.trans (hb1.mono HB0.out.size)
    obtain ⟨_, a0, a1⟩ := HX.out.below hb1
    clear hb1
    go_wp2_with fail
    go_ret
    exact ⟨rfl, HB1.out⟩

set_option maxHeartbeats 8000000 in
set_option maxRecDepth 100000 in
/-- The last test where the code does not begin with a pass, or has an odd number of passes. -/
theorem refCheck_open (f : Int) (b off n c : Nat) (ls : List Lt) (w : World) (hL : LS w (some ⟨b, off, none⟩) n ls) (hn : n ≤ 400) (hn0 : 0 < n) (hx : cntK 2 ls ≤ 200) (hf : 0 ≤ f ∧ f ≤ 40) (l : Lt) (hl : ls[0]? = some l) (hk : l.kind ≠ 1 ∨ (l.kind = 1 ∧ cntB isPass ls % 2 ≠ 0)) :
    Calls Tryd.prog 12 #[.agg #[.int .i64 f, .slice (some ⟨b, off, none⟩) n c]] w fun e w' => e = .returned (.int .i64 3) ∧ Below w.heap.size w w' := by
  have HLS := Lib.hid hL
  have HV : Hid (∀ W, Below w.heap.size w W → Calls Tryd.prog 35 #[.agg #[.int .i64 f, .slice (some ⟨b, off, none⟩) n c]] W fun e w' => e = .returned (.int .i64 (cntK 2 ls)) ∧ Below W.heap.size W w') :=
    fun W hW => visits_calls f _ n c ls W (hL.below hW) (by omega)
  have HPA : Hid (∀ W, Below w.heap.size w W → Calls Tryd.prog 20 #[.agg #[.int .i64 f, .slice (some ⟨b, off, none⟩) n c]] W fun e w' => e = .returned (.int .i64 (cntB isPass ls)) ∧ Below W.heap.size W w') :=
    fun W hW => passes_calls f _ n c ls W (hL.below hW) (by omega)
  have HX := Lib.hid (Box.made w f (some ⟨b, off, none⟩) n c 33)
  have HB0 : Hid (Below w.heap.size w (w.alloc (.cells #[.int .i64 f, .slice (some ⟨b, off, none⟩) n c] 33))) := (Below.refl _ _).alloc (Nat.le_refl _) _
  have p0 := cntB_nonneg isPass ls
  obtain ⟨vi, hvi⟩ : ∃ vi, cntK 2 ls = vi := ⟨_, rfl⟩
  obtain ⟨m, hm⟩ : ∃ m, cntB isPass ls = m := ⟨_, rfl⟩
  rw [hvi] at HV hx
  rw [hm] at HPA hk p0
  have t1 : decide ((400 : Int) < (n : Int)) = false := by rw [decide_eq_false_iff_not]; omega
  have t2 : decide ((200 : Int) < vi) = false := by rw [decide_eq_false_iff_not]; omega
  have t3 : decide (f < 0) = false := by rw [decide_eq_false_iff_not]; omega
  have t4 : decide ((40 : Int) < f) = false := by rw [decide_eq_false_iff_not]; omega
  have t5 : ((n : Int) == 0) = false := by rw [beq_eq_false_iff_ne]; omega
  have hn0i : (0 : Int) < (n : Int) := by omega
  have HKC : Hid (∀ W, Below w.heap.size w W → W.cell? ⟨b, off, none⟩ = some (.int .i64 l.kind)) := by
    intro W hW
    obtain ⟨b', off', l', hA, _, hl', c0, _⟩ := (HLS.out.below hW).at_ (k := 0) hn0
    injection hA with hA
    injection hA with e1 e2
    subst e1; subst e2
    rw [hl] at hl'
    injection hl' with hl'
    subst hl'
    simpa using c0
  clear hL hl hvi hm hf hn
  rcases hk with hk | ⟨hk, hm⟩
  · have t6 : (l.kind != 1) = true := by rw [bne_iff_ne]; exact hk
    clear hk
    go_enter Tryd.func12, Tryd.ntmps12
    go_wp2_with fail
    refine (HV.out _ HB0.out).mono ?_
    rintro e w1 ⟨rfl, hb1⟩
    have HB1 : Hid (Below w.heap.size w w1) := HB0.out.trans (hb1.mono HB0.out.size)
    have HX1 := Lib.hid (HX.out.below hb1)
    obtain ⟨_, a0, a1⟩ := HX1.out
    clear hb1
    go_wp2_with fail
    refine (HPA.out _ HB1.out).mono ?_
    rintro e V ⟨rfl, hb2⟩
    have HB2 : Hid (Below w.heap.size w V) := HB1.out.trans (hb2.mono HB1.out.size)
    clear a0 a1
    obtain ⟨hPV, a0, a1⟩ := HX1.out.below hb2
    have a2 := HKC.out V HB2.out
    clear hb2
    go_wp2_with fail
    go_quiet (fail)
    go_wp2_with fail
    go_ret
    exact ⟨rfl, Go.below_drewN HB2.out _⟩
  · have t6 : (l.kind != 1) = false := by rw [bne_eq_false_iff_eq]; exact hk
    have t7 : m.tmod 2 = 1 := by rw [Int.tmod_eq_emod_of_nonneg p0]; omega
    have t8 : m % 2 = 1 := by omega
    clear hk hm
    go_enter Tryd.func12, Tryd.ntmps12
    go_wp2_with fail
    refine (HV.out _ HB0.out).mono ?_
    rintro e w1 ⟨rfl, hb1⟩
    have HB1 : Hid (Below w.heap.size w w1) := HB0.out.trans (hb1.mono HB0.out.size)
    have HX1 := Lib.hid (HX.out.below hb1)
    obtain ⟨_, a0, a1⟩ := HX1.out
    clear hb1
    go_wp2_with fail
    refine (HPA.out _ HB1.out).mono ?_
    rintro e V ⟨rfl, hb2⟩
    have HB2 : Hid (Below w.heap.size w V) := HB1.out.trans (hb2.mono HB1.out.size)
    clear a0 a1
    obtain ⟨hPV, a0, a1⟩ := HX1.out.below hb2
    have a2 := HKC.out V HB2.out
    clear hb2
    go_wp2_with fail
    go_quiet (fail)
    go_wp2_with fail
    go_ret
    exact ⟨rfl, Go.below_drewN HB2.out _⟩

theorem refCheck_calls (f : Int) (A : Option Addr) (n c : Nat) (ls : List Lt) (w : World) (hL : LS w A n ls)
    (hAX : ∀ st pt, (dmOf f ls st pt).good → ∀ W, Below w.heap.size w W → Calls Tryd.prog 46 #[.agg #[.int .i64 f, .slice A (dmOf f ls st pt).n c]] W fun e w' => ∃ Ax cx, e = .returned (.slice Ax (dmOf f ls st pt).m cx) ∧ SL w' Ax (dmOf f ls st pt).m ((dmOf f ls st pt).ax.map Int.ofNat) ∧ Below W.heap.size W w') :
    Calls Tryd.prog 12 #[.agg #[.int .i64 f, .slice A n c]] w fun e w' => e = .returned (.int .i64 (checkE f ls)) ∧ Below w.heap.size w w' := by
  have hlen := hL.1
  by_cases h1 : shortB ls = true
  · have h1' := h1
    unfold shortB at h1'
    simp at h1'
    by_cases h2 : 0 ≤ f ∧ f ≤ 40
    · by_cases h0 : 0 < n
      · obtain ⟨b, off, l, rfl, _, hl, _⟩ := hL.at_ (k := 0) h0
        by_cases h3 : closedB ls = true
        · obtain ⟨l', hl', hk, hev⟩ := (closed_head (by omega)).1 h3
          rw [hl] at hl'
          injection hl' with hl'
          subst hl'
          by_cases h4 : ∀ l, l ∈ ls → refL f ls l
          · obtain ⟨hp, ⟨st, ho⟩, pt, hq⟩ := valid_iff.1 h4
            have hg := dmOf_good h1 h2 h3 hp (by omega) ho hq
            have hwk : ∀ W, Below w.heap.size w W → Calls Tryd.prog 37 #[.agg #[.int .i64 f, .slice (some ⟨b, off, none⟩) n c]] W fun e w' => (∃ A' c', e = .returned (.slice A' ((dmOf f ls st pt).outer (2 * (dmOf f ls st pt).n)).all.length c')) ∧ Below W.heap.size W w' := by
              intro W hW
              have hL' : LS W (some ⟨b, off, none⟩) (dmOf f ls st pt).n (dmOf f ls st pt).ls := by
                show LS W _ ls.length ls
                rw [hlen]; exact hL.below hW
              have := refWalks_calls hg f _ c W hL' (fun V hV => hAX st pt hg V (hW.trans (hV.mono hW.size)))
              rw [walks_ref hg, List.length_map] at this
              rw [← hlen]
              exact this
            have hNb : ((dmOf f ls st pt).outer (2 * (dmOf f ls st pt).n)).all.length ≤ 10000 := by
              have := (DM.outer_facts hg.ok (2 * (dmOf f ls st pt).n) (Nat.le_refl _)).2.2
              have := hg.ok.n1
              omega
            have hr := refCheck_lastyes f b off n c ls w hL (by omega) h0 h1'.2 h2 l hl hk hev _ hNb (fun W hW => by
              refine (letters_calls f _ n c ls W (hL.below hW) (by omega)).mono ?_
              rintro e w' ⟨bb, rfl, hb, hw⟩
              rw [hb.2 h4]
              exact ⟨rfl, hw⟩) hwk
            refine hr.mono ?_
            rintro e w' ⟨rfl, hb⟩
            refine ⟨?_, hb⟩
            have hm : (numP f ls : Int) = cntB isPass ls := numP_pass hp
            have hE : checkE f ls = if flatB (dmOf f ls st pt) = true then 0 else 3 := by
              unfold checkE
              rw [if_neg (by simp [h1]), if_neg (by simp [h2]), if_neg (by simp [h3]), if_neg (fun c => c hp), ho]
              dsimp only
              rw [hq]
            have hF : flatB (dmOf f ls st pt) = decide ((((dmOf f ls st pt).outer (2 * (dmOf f ls st pt).n)).all.length : Int) = cntB isPass ls + cntK 2 ls / 2 + 2) := by
              unfold flatB
              have hz : decide ((dmOf f ls st pt).n = 0) = false := by rw [decide_eq_false_iff_not]; show ¬ ls.length = 0; omega
              rw [hz, Bool.false_or, ← hm]
              rfl
            rw [hE, hF]
            simp only [decide_eq_true_eq]
          · have hr := refCheck_lastno f b off n c ls w hL (by omega) h0 h1'.2 h2 l hl hk hev (fun W hW => by
              refine (letters_calls f _ n c ls W (hL.below hW) (by omega)).mono ?_
              rintro e w' ⟨bb, rfl, hb, hw⟩
              cases bb with
              | true => exact absurd (hb.1 rfl) h4
              | false => exact ⟨rfl, hw⟩)
            refine hr.mono ?_
            rintro e w' ⟨rfl, hb⟩
            refine ⟨?_, hb⟩
            have hno : checkE f ls = 3 := by
              unfold checkE
              rw [if_neg (by simp [h1]), if_neg (by simp [h2]), if_neg (by simp [h3])]
              split
              · rfl
              · rename_i hp
                have hp := Decidable.of_not_not hp
                split
                · rfl
                · rename_i st ho
                  split
                  · rfl
                  · rename_i pt hq
                    exact absurd (valid_iff.2 ⟨hp, ⟨st, ho⟩, pt, hq⟩) h4
            rw [hno]
        · have hr := refCheck_open f b off n c ls w hL (by omega) h0 h1'.2 h2 l hl (by
            by_cases hk : l.kind = 1
            · exact .inr ⟨hk, fun hev => h3 ((closed_head (by omega)).2 ⟨l, hl, hk, hev⟩)⟩
            · exact .inl hk)
          refine hr.mono ?_
          rintro e w' ⟨rfl, hb⟩
          refine ⟨?_, hb⟩
          unfold checkE
          rw [if_neg (by simp [h1]), if_neg (by simp [h2]), if_pos (by simpa using h3)]
      · have hn : n = 0 := by omega
        have hls : ls = [] := List.eq_nil_of_length_eq_zero (by omega)
        subst hls
        have hr := refCheck_early f A n c [] w hL 0 (.inr (.inr (.inr (.inr ⟨hn, h1'.2, h2.1, h2.2, rfl⟩))))
        refine hr.mono ?_
        rintro e w' ⟨rfl, hb⟩
        refine ⟨?_, hb⟩
        have h := none_ok ⟨f.toNat, by omega⟩
        rw [show (((⟨f.toNat, by omega⟩ : Fin 41).val : Nat) : Int) = f by show ((f.toNat : Nat) : Int) = f; omega] at h
        rw [h]
    · have hE : checkE f ls = 2 := by
        unfold checkE
        rw [if_neg (by simp [h1]), if_pos h2]
      rw [hE]
      by_cases h3 : f < 0
      · exact refCheck_early f A n c ls w hL 2 (.inr (.inr (.inl ⟨by omega, h1'.2, h3, rfl⟩)))
      · exact refCheck_early f A n c ls w hL 2 (.inr (.inr (.inr (.inl ⟨by omega, h1'.2, by omega, by omega, rfl⟩))))
  · have hE : checkE f ls = 7 := by
      unfold checkE
      rw [if_pos (by simpa using h1)]
    rw [hE]
    unfold shortB at h1
    by_cases h2 : n ≤ 400
    · exact refCheck_early f A n c ls w hL 7 (.inr (.inl ⟨h2, by
        simp at h1
        have := h1 (by omega)
        omega, rfl⟩))
    · exact refCheck_early f A n c ls w hL 7 (.inl ⟨by omega, rfl⟩)

end Go.Proofs.YtbbpockkafbfmaaDoor
