/-
  The early returns of the functions of codes: the error of Check, with zero values.
-/
import Derived.Test.YtjdabkniojmacaaDoorForget2
namespace Go.Proofs.YtjdabkniojmacaaDoor
open Go.RowKit

theorem two_mem (w : World) (a b : Obj) (W : World) (h : W = (w.alloc a).alloc b) :
    W.heap[w.heap.size]? = some a ∧ W.heap[w.heap.size + 1]? = some b ∧ w.heap.size + 1 < W.heap.size ∧ Below w.heap.size w W := by
  have s1 : (w.alloc a).heap.size = w.heap.size + 1 := by simp
  have h2 := heap_alloc_new (w.alloc a) b
  have h1 := heap_alloc_new w a
  rw [s1] at h2
  have k : ∀ (x : World) (o : Obj) q, q < x.heap.size → (x.alloc o).heap[q]? = x.heap[q]? := fun x o q hq => ((Below.refl x.heap.size x).alloc (Nat.le_refl _) o).block q hq
  subst h
  refine ⟨?_, h2, by simp, (((Below.refl _ _).alloc (Nat.le_refl _) _).alloc (by simp) _)⟩
  rw [k _ b _ (by omega)]; exact h1
theorem two_next {w W W' : World} {a b : Obj} (h : W.heap[w.heap.size]? = some a ∧ W.heap[w.heap.size + 1]? = some b ∧ w.heap.size + 1 < W.heap.size ∧ Below w.heap.size w W) (hb : Below W.heap.size W W') :
    W'.heap[w.heap.size]? = some a ∧ W'.heap[w.heap.size + 1]? = some b ∧ w.heap.size + 1 < W'.heap.size ∧ Below w.heap.size w W' := by
  obtain ⟨h1, h2, h4, h5⟩ := h
  exact ⟨(hb.block _ (by omega)).trans h1, (hb.block _ (by omega)).trans h2, Nat.lt_of_lt_of_le h4 hb.size, h5.trans (hb.mono h5.size)⟩
/-- A code that is stored into the result's variable. -/
theorem res_end {w w1 : World} {r : Nat} (h : w1.heap[r]? = some (.cells #[.int .i64 0, .slice none 0 0] 24 (0, 0))) (hr : w.heap.size ≤ r) (hb : Below w.heap.size w w1) (v0 v1 : Value)
    {X : World} (hX : X = (w1.setCell ⟨r, 0, none⟩ v0).setCell ⟨r, 1, none⟩ v1) :
    X.cell? ⟨r, 0, none⟩ = some v0 ∧ X.cell? ⟨r, 1, none⟩ = some v1 ∧ Below w.heap.size w X ∧ X.heap.size = w1.heap.size ∧ (∀ q, q ≠ r → X.heap[q]? = w1.heap[q]?) := by
  have hXF : X.heap[r]? = some (.cells #[v0, v1] 24 (0, 0)) := by
    rw [hX]
    simp [World.setCell, Array.getElem?_modify, h]
  refine ⟨Lib.cell_of_heap hXF 0, Lib.cell_of_heap hXF 1, ?_, by rw [hX]; simp, fun q hq => by rw [hX]; exact (Below.heap_setCell _ _ _ q hq).trans (Below.heap_setCell _ _ _ q hq)⟩
  rw [hX]
  exact (hb.setCell (p := ⟨r, 0, none⟩) hr _).setCell (p := ⟨r, 1, none⟩) hr _

/-- What a function answers with an error. -/
def ErrZ (ce : Int) (w : World) (e : Ending) (w' : World) : Prop := e = .returned (.tuple #[.agg #[.int .i64 0, .slice none 0 0], .int .i64 ce]) ∧ Below w.heap.size w w'
/-- Check answers this, whatever has happened since. -/
def ChkAt (f : Int) (A : Option Addr) (n c : Nat) (ce : Int) (w : World) : Prop :=
  ∀ W, Below w.heap.size w W → Calls Tryd.prog 39 #[.agg #[.int .i64 f, .slice A n c]] W fun e w' => e = .returned (.int .i64 ce) ∧ Below W.heap.size W w'

set_option maxHeartbeats 4000000 in
theorem rename_early (f : Int) (A : Option Addr) (n c : Nat) (ce : Int) (w : World) (hz : ce ≠ 0) (hC : ChkAt f A n c ce w) :
    Calls Tryd.prog 23 #[.agg #[.int .i64 f, .slice A n c]] w (ErrZ ce w) := by
  have HCK := Lib.hid hC
  have hzb : (ce != 0) = true := by rw [bne_iff_ne]; exact hz
  clear hC hz
  go_enter Tryd.func23, Tryd.ntmps23
  go_wp2_with fail
  obtain ⟨W0, hW0⟩ : ∃ W0, W0 = (w.alloc (.cells #[.int .i64 f, .slice A n c] 24)).alloc (.cells #[.int .i64 0, .slice none 0 0] 24) := ⟨_, rfl⟩
  have HF0 := Lib.hid (two_mem w (.cells #[.int .i64 f, .slice A n c] 24) (.cells #[.int .i64 0, .slice none 0 0] 24) W0 hW0)
  rw [← hW0]
  clear hW0
  go_wp2_with (first
    | (go_at_call 39; refine (HCK.out _ HF0.out.2.2.2).mono ?_; rintro e w1 ⟨rfl, hb1⟩; have HM1 := Lib.hid (two_next HF0.out hb1); have r0 := Lib.cell_of_heap HM1.out.2.1 0; have r1 := Lib.cell_of_heap HM1.out.2.1 1; have rf : ∀ x, w1.frozen? ⟨w.heap.size + 1, x, none⟩ = false := (by intro x; have h1 := HM1.out.2.1; simp [World.frozen?, h1]); clear hb1))
  obtain ⟨X, hX⟩ : ∃ X, X = (w1.setCell ⟨w.heap.size + 1, 0, none⟩ (.int .i64 0)).setCell ⟨w.heap.size + 1, 1, none⟩ (.slice none 0 0) := ⟨_, rfl⟩
  obtain ⟨k0, k1, hXB, _, _⟩ := res_end HM1.out.2.1 (by omega) HM1.out.2.2.2 _ _ hX
  rw [← hX]
  exact bodyPost_ret (v := .tuple #[.agg #[.int .i64 0, .slice none 0 0], .int .i64 ce]) (by simp [results, Tryd.results23, go_sem, k0, k1]) rfl ⟨rfl, hXB⟩

set_option maxHeartbeats 4000000 in
theorem back_early (f : Int) (A : Option Addr) (n c : Nat) (ce : Int) (w : World) (hz : ce ≠ 0) (hC : ChkAt f A n c ce w) :
    Calls Tryd.prog 31 #[.agg #[.int .i64 f, .slice A n c]] w (ErrZ ce w) := by
  have HCK := Lib.hid hC
  have hzb : (ce != 0) = true := by rw [bne_iff_ne]; exact hz
  clear hC hz
  go_enter Tryd.func31, Tryd.ntmps31
  go_wp2_with fail
  obtain ⟨W0, hW0⟩ : ∃ W0, W0 = (w.alloc (.cells #[.int .i64 f, .slice A n c] 24)).alloc (.cells #[.int .i64 0, .slice none 0 0] 24) := ⟨_, rfl⟩
  have HF0 := Lib.hid (two_mem w (.cells #[.int .i64 f, .slice A n c] 24) (.cells #[.int .i64 0, .slice none 0 0] 24) W0 hW0)
  rw [← hW0]
  clear hW0
  go_wp2_with (first
    | (go_at_call 39; refine (HCK.out _ HF0.out.2.2.2).mono ?_; rintro e w1 ⟨rfl, hb1⟩; have HM1 := Lib.hid (two_next HF0.out hb1); have r0 := Lib.cell_of_heap HM1.out.2.1 0; have r1 := Lib.cell_of_heap HM1.out.2.1 1; have rf : ∀ x, w1.frozen? ⟨w.heap.size + 1, x, none⟩ = false := (by intro x; have h1 := HM1.out.2.1; simp [World.frozen?, h1]); clear hb1))
  obtain ⟨X, hX⟩ : ∃ X, X = (w1.setCell ⟨w.heap.size + 1, 0, none⟩ (.int .i64 0)).setCell ⟨w.heap.size + 1, 1, none⟩ (.slice none 0 0) := ⟨_, rfl⟩
  obtain ⟨k0, k1, hXB, _, _⟩ := res_end HM1.out.2.1 (by omega) HM1.out.2.2.2 _ _ hX
  rw [← hX]
  exact bodyPost_ret (v := .tuple #[.agg #[.int .i64 0, .slice none 0 0], .int .i64 ce]) (by simp [results, Tryd.results31, go_sem, k0, k1]) rfl ⟨rfl, hXB⟩

set_option maxHeartbeats 4000000 in
theorem swap_early (f : Int) (A : Option Addr) (n c : Nat) (ce : Int) (w : World) (hz : ce ≠ 0) (hC : ChkAt f A n c ce w) :
    Calls Tryd.prog 36 #[.agg #[.int .i64 f, .slice A n c]] w (ErrZ ce w) := by
  have HCK := Lib.hid hC
  have hzb : (ce != 0) = true := by rw [bne_iff_ne]; exact hz
  clear hC hz
  go_enter Tryd.func36, Tryd.ntmps36
  go_wp2_with fail
  obtain ⟨W0, hW0⟩ : ∃ W0, W0 = (w.alloc (.cells #[.int .i64 f, .slice A n c] 24)).alloc (.cells #[.int .i64 0, .slice none 0 0] 24) := ⟨_, rfl⟩
  have HF0 := Lib.hid (two_mem w (.cells #[.int .i64 f, .slice A n c] 24) (.cells #[.int .i64 0, .slice none 0 0] 24) W0 hW0)
  rw [← hW0]
  clear hW0
  go_wp2_with (first
    | (go_at_call 39; refine (HCK.out _ HF0.out.2.2.2).mono ?_; rintro e w1 ⟨rfl, hb1⟩; have HM1 := Lib.hid (two_next HF0.out hb1); have r0 := Lib.cell_of_heap HM1.out.2.1 0; have r1 := Lib.cell_of_heap HM1.out.2.1 1; have rf : ∀ x, w1.frozen? ⟨w.heap.size + 1, x, none⟩ = false := (by intro x; have h1 := HM1.out.2.1; simp [World.frozen?, h1]); clear hb1))
  obtain ⟨X, hX⟩ : ∃ X, X = (w1.setCell ⟨w.heap.size + 1, 0, none⟩ (.int .i64 0)).setCell ⟨w.heap.size + 1, 1, none⟩ (.slice none 0 0) := ⟨_, rfl⟩
  obtain ⟨k0, k1, hXB, _, _⟩ := res_end HM1.out.2.1 (by omega) HM1.out.2.2.2 _ _ hX
  rw [← hX]
  exact bodyPost_ret (v := .tuple #[.agg #[.int .i64 0, .slice none 0 0], .int .i64 ce]) (by simp [results, Tryd.results36, go_sem, k0, k1]) rfl ⟨rfl, hXB⟩

set_option maxHeartbeats 4000000 in
theorem mirror_early (f : Int) (A : Option Addr) (n c : Nat) (ce : Int) (w : World) (hz : ce ≠ 0) (hC : ChkAt f A n c ce w) :
    Calls Tryd.prog 37 #[.agg #[.int .i64 f, .slice A n c]] w (ErrZ ce w) := by
  have HCK := Lib.hid hC
  have hzb : (ce != 0) = true := by rw [bne_iff_ne]; exact hz
  clear hC hz
  go_enter Tryd.func37, Tryd.ntmps37
  go_wp2_with fail
  obtain ⟨W0, hW0⟩ : ∃ W0, W0 = (w.alloc (.cells #[.int .i64 f, .slice A n c] 24)).alloc (.cells #[.int .i64 0, .slice none 0 0] 24) := ⟨_, rfl⟩
  have HF0 := Lib.hid (two_mem w (.cells #[.int .i64 f, .slice A n c] 24) (.cells #[.int .i64 0, .slice none 0 0] 24) W0 hW0)
  rw [← hW0]
  clear hW0
  go_wp2_with (first
    | (go_at_call 39; refine (HCK.out _ HF0.out.2.2.2).mono ?_; rintro e w1 ⟨rfl, hb1⟩; have HM1 := Lib.hid (two_next HF0.out hb1); have r0 := Lib.cell_of_heap HM1.out.2.1 0; have r1 := Lib.cell_of_heap HM1.out.2.1 1; have rf : ∀ x, w1.frozen? ⟨w.heap.size + 1, x, none⟩ = false := (by intro x; have h1 := HM1.out.2.1; simp [World.frozen?, h1]); clear hb1))
  obtain ⟨X, hX⟩ : ∃ X, X = (w1.setCell ⟨w.heap.size + 1, 0, none⟩ (.int .i64 0)).setCell ⟨w.heap.size + 1, 1, none⟩ (.slice none 0 0) := ⟨_, rfl⟩
  obtain ⟨k0, k1, hXB, _, _⟩ := res_end HM1.out.2.1 (by omega) HM1.out.2.2.2 _ _ hX
  rw [← hX]
  exact bodyPost_ret (v := .tuple #[.agg #[.int .i64 0, .slice none 0 0], .int .i64 ce]) (by simp [results, Tryd.results37, go_sem, k0, k1]) rfl ⟨rfl, hXB⟩

set_option maxHeartbeats 4000000 in
theorem turn_early (f : Int) (A : Option Addr) (n c : Nat) (ce : Int) (w : World) (hz : ce ≠ 0) (hC : ChkAt f A n c ce w) :
    Calls Tryd.prog 38 #[.agg #[.int .i64 f, .slice A n c]] w (ErrZ ce w) := by
  have HCK := Lib.hid hC
  have hzb : (ce != 0) = true := by rw [bne_iff_ne]; exact hz
  clear hC hz
  go_enter Tryd.func38, Tryd.ntmps38
  go_wp2_with fail
  obtain ⟨W0, hW0⟩ : ∃ W0, W0 = (w.alloc (.cells #[.int .i64 f, .slice A n c] 24)).alloc (.cells #[.int .i64 0, .slice none 0 0] 24) := ⟨_, rfl⟩
  have HF0 := Lib.hid (two_mem w (.cells #[.int .i64 f, .slice A n c] 24) (.cells #[.int .i64 0, .slice none 0 0] 24) W0 hW0)
  rw [← hW0]
  clear hW0
  go_wp2_with (first
    | (go_at_call 39; refine (HCK.out _ HF0.out.2.2.2).mono ?_; rintro e w1 ⟨rfl, hb1⟩; have HM1 := Lib.hid (two_next HF0.out hb1); have r0 := Lib.cell_of_heap HM1.out.2.1 0; have r1 := Lib.cell_of_heap HM1.out.2.1 1; have rf : ∀ x, w1.frozen? ⟨w.heap.size + 1, x, none⟩ = false := (by intro x; have h1 := HM1.out.2.1; simp [World.frozen?, h1]); clear hb1))
  obtain ⟨X, hX⟩ : ∃ X, X = (w1.setCell ⟨w.heap.size + 1, 0, none⟩ (.int .i64 0)).setCell ⟨w.heap.size + 1, 1, none⟩ (.slice none 0 0) := ⟨_, rfl⟩
  obtain ⟨k0, k1, hXB, _, _⟩ := res_end HM1.out.2.1 (by omega) HM1.out.2.2.2 _ _ hX
  rw [← hX]
  exact bodyPost_ret (v := .tuple #[.agg #[.int .i64 0, .slice none 0 0], .int .i64 ce]) (by simp [results, Tryd.results38, go_sem, k0, k1]) rfl ⟨rfl, hXB⟩

set_option maxHeartbeats 4000000 in
theorem word_early (f : Int) (A : Option Addr) (n c : Nat) (ce : Int) (w : World) (hz : ce ≠ 0) (hC : ChkAt f A n c ce w) :
    Calls Tryd.prog 43 #[.agg #[.int .i64 f, .slice A n c]] w fun e w' => e = .returned (.tuple #[.slice none 0 0, .int .i64 ce]) ∧ Below w.heap.size w w' := by
  have HCK := Lib.hid hC
  have hzb : (ce != 0) = true := by rw [bne_iff_ne]; exact hz
  have HB0 : Hid (Below w.heap.size w (w.alloc (.cells #[.int .i64 f, .slice A n c] 24))) := (Below.refl _ _).alloc (Nat.le_refl _) _
  clear hC hz
  go_enter Tryd.func43, Tryd.ntmps43
  go_wp2_with fail
  refine (HCK.out _ HB0.out).mono ?_
  rintro e w1 ⟨rfl, hb1⟩
  have HB1 : Hid (Below w.heap.size w w1) := HB0.out.trans (hb1.mono HB0.out.size)
  clear hb1
  go_wp2_with fail
  go_ret2
  exact ⟨rfl, HB1.out⟩

/-- What draw answers with an error. -/
theorem draw_early (f : Int) (A : Option Addr) (n c : Nat) (ls : List Lt) (w : World) (hz : checkE f ls ≠ 0) (hL : LS w A n ls) (hA : ∀ b off, A = some ⟨b, off, none⟩ → b < w.heap.size) (hI : ∀ l, l ∈ ls → I64 l.id) :
    Calls Tryd.prog 58 #[.agg #[.int .i64 f, .slice A n c]] w fun e w' => e = .returned (.tuple #[.pointer none, .int .i64 (checkE f ls)]) ∧ Below w.heap.size w w' := by
  refine (draw_calls f A n c ls w hL hA hI).mono ?_
  rintro e w' ⟨hb, ⟨_, rfl⟩ | ⟨P, _, _, h0, _⟩⟩
  · exact ⟨rfl, hb⟩
  · exact absurd h0 hz
def DrawAt (f : Int) (A : Option Addr) (n c : Nat) (ce : Int) (w : World) : Prop :=
  ∀ W, Below w.heap.size w W → Calls Tryd.prog 58 #[.agg #[.int .i64 f, .slice A n c]] W fun e w' => e = .returned (.tuple #[.pointer none, .int .i64 ce]) ∧ Below W.heap.size W w'

set_option maxHeartbeats 4000000 in
theorem faces_early (f : Int) (A : Option Addr) (n c : Nat) (ce : Int) (w : World) (hz : ce ≠ 0) (hC : DrawAt f A n c ce w) :
    Calls Tryd.prog 15 #[.agg #[.int .i64 f, .slice A n c]] w fun e w' => e = .returned (.tuple #[.slice none 0 0, .int .i64 ce]) ∧ Below w.heap.size w w' := by
  have HCK := Lib.hid hC
  have hzb : (ce != 0) = true := by rw [bne_iff_ne]; exact hz
  have HB0 : Hid (Below w.heap.size w (w.alloc (.cells #[.int .i64 f, .slice A n c] 24))) := (Below.refl _ _).alloc (Nat.le_refl _) _
  clear hC hz
  go_enter Tryd.func15, Tryd.ntmps15
  go_wp2_with fail
  refine (HCK.out _ HB0.out).mono ?_
  rintro e w1 ⟨rfl, hb1⟩
  have HB1 : Hid (Below w.heap.size w w1) := HB0.out.trans (hb1.mono HB0.out.size)
  clear hb1
  go_wp2_with fail
  go_ret2
  exact ⟨rfl, HB1.out⟩

set_option maxHeartbeats 4000000 in
theorem normal_early (f : Int) (A : Option Addr) (n c : Nat) (ce : Int) (w : World) (hz : ce ≠ 0) (hC : DrawAt f A n c ce w) :
    Calls Tryd.prog 22 #[.agg #[.int .i64 f, .slice A n c]] w (ErrZ ce w) := by
  have HCK := Lib.hid hC
  have hzb : (ce != 0) = true := by rw [bne_iff_ne]; exact hz
  clear hC hz
  go_enter Tryd.func22, Tryd.ntmps22
  go_wp2_with fail
  obtain ⟨W0, hW0⟩ : ∃ W0, W0 = (w.alloc (.cells #[.int .i64 f, .slice A n c] 24)).alloc (.cells #[.int .i64 0, .slice none 0 0] 24) := ⟨_, rfl⟩
  have HF0 := Lib.hid (two_mem w (.cells #[.int .i64 f, .slice A n c] 24) (.cells #[.int .i64 0, .slice none 0 0] 24) W0 hW0)
  rw [← hW0]
  clear hW0
  go_wp2_with (first
    | (go_at_call 58; refine (HCK.out _ HF0.out.2.2.2).mono ?_; rintro e w1 ⟨rfl, hb1⟩; have HM1 := Lib.hid (two_next HF0.out hb1); have r0 := Lib.cell_of_heap HM1.out.2.1 0; have r1 := Lib.cell_of_heap HM1.out.2.1 1; have rf : ∀ x, w1.frozen? ⟨w.heap.size + 1, x, none⟩ = false := (by intro x; have h1 := HM1.out.2.1; simp [World.frozen?, h1]); clear hb1))
  obtain ⟨X, hX⟩ : ∃ X, X = (w1.setCell ⟨w.heap.size + 1, 0, none⟩ (.int .i64 0)).setCell ⟨w.heap.size + 1, 1, none⟩ (.slice none 0 0) := ⟨_, rfl⟩
  obtain ⟨k0, k1, hXB, _, _⟩ := res_end HM1.out.2.1 (by omega) HM1.out.2.2.2 _ _ hX
  rw [← hX]
  exact bodyPost_ret (v := .tuple #[.agg #[.int .i64 0, .slice none 0 0], .int .i64 ce]) (by simp [results, Tryd.results22, go_sem, k0, k1]) rfl ⟨rfl, hXB⟩

set_option maxHeartbeats 4000000 in
theorem start_early (f : Int) (A : Option Addr) (n c : Nat) (i ce : Int) (w : World) (hz : ce ≠ 0) (hC : DrawAt f A n c ce w) :
    Calls Tryd.prog 33 #[.agg #[.int .i64 f, .slice A n c], .int .i64 i] w (ErrZ ce w) := by
  have HCK := Lib.hid hC
  have hzb : (ce != 0) = true := by rw [bne_iff_ne]; exact hz
  clear hC hz
  go_enter Tryd.func33, Tryd.ntmps33
  go_wp2_with fail
  obtain ⟨W0, hW0⟩ : ∃ W0, W0 = (w.alloc (.cells #[.int .i64 f, .slice A n c] 24)).alloc (.cells #[.int .i64 0, .slice none 0 0] 24) := ⟨_, rfl⟩
  have HF0 := Lib.hid (two_mem w (.cells #[.int .i64 f, .slice A n c] 24) (.cells #[.int .i64 0, .slice none 0 0] 24) W0 hW0)
  rw [← hW0]
  clear hW0
  go_wp2_with (first
    | (go_at_call 58; refine (HCK.out _ HF0.out.2.2.2).mono ?_; rintro e w1 ⟨rfl, hb1⟩; have HM1 := Lib.hid (two_next HF0.out hb1); have r0 := Lib.cell_of_heap HM1.out.2.1 0; have r1 := Lib.cell_of_heap HM1.out.2.1 1; have rf : ∀ x, w1.frozen? ⟨w.heap.size + 1, x, none⟩ = false := (by intro x; have h1 := HM1.out.2.1; simp [World.frozen?, h1]); clear hb1))
  obtain ⟨X, hX⟩ : ∃ X, X = (w1.setCell ⟨w.heap.size + 1, 0, none⟩ (.int .i64 0)).setCell ⟨w.heap.size + 1, 1, none⟩ (.slice none 0 0) := ⟨_, rfl⟩
  obtain ⟨k0, k1, hXB, _, _⟩ := res_end HM1.out.2.1 (by omega) HM1.out.2.2.2 _ _ hX
  rw [← hX]
  exact bodyPost_ret (v := .tuple #[.agg #[.int .i64 0, .slice none 0 0], .int .i64 ce]) (by simp [results, Tryd.results33, go_sem, k0, k1]) rfl ⟨rfl, hXB⟩

set_option maxHeartbeats 4000000 in
theorem forget_early (f : Int) (A : Option Addr) (n c : Nat) (k : Int) (ce : Int) (w : World) (hz : ce ≠ 0) (hC : ChkAt f A n c ce w) :
    Calls Tryd.prog 42 #[.agg #[.int .i64 f, .slice A n c], .int .i64 k] w (ErrZ ce w) := by
  have HCK := Lib.hid hC
  have hzb : (ce != 0) = true := by rw [bne_iff_ne]; exact hz
  clear hC hz
  go_enter Tryd.func42, Tryd.ntmps42
  go_wp2_with fail
  obtain ⟨W0, hW0⟩ : ∃ W0, W0 = ((w.alloc (.cells #[.int .i64 f, .slice A n c] 24)).alloc (.cells #[.int .i64 k] 3)).alloc (.cells #[.int .i64 0, .slice none 0 0] 24) := ⟨_, rfl⟩
  have HF0 := Lib.hid (forget_mem w (.cells #[.int .i64 f, .slice A n c] 24) (.cells #[.int .i64 k] 3) (.cells #[.int .i64 0, .slice none 0 0] 24) W0 hW0)
  rw [← hW0]
  clear hW0
  go_wp2_with (first
    | (go_at_call 39; refine (HCK.out _ HF0.out.2.2.2.2).mono ?_; rintro e w1 ⟨rfl, hb1⟩; have HM1 := Lib.hid (forget_next HF0.out hb1); have r0 := Lib.cell_of_heap HM1.out.2.2.1 0; have r1 := Lib.cell_of_heap HM1.out.2.2.1 1; have rf : ∀ x, w1.frozen? ⟨w.heap.size + 1 + 1, x, none⟩ = false := (by intro x; have h1 := HM1.out.2.2.1; simp [World.frozen?, h1]); clear hb1))
  obtain ⟨X, hX⟩ : ∃ X, X = (w1.setCell ⟨w.heap.size + 1 + 1, 0, none⟩ (.int .i64 0)).setCell ⟨w.heap.size + 1 + 1, 1, none⟩ (.slice none 0 0) := ⟨_, rfl⟩
  obtain ⟨k0, k1, hXB⟩ := forget_end HM1.out hX
  rw [← hX]
  exact bodyPost_ret (v := .tuple #[.agg #[.int .i64 0, .slice none 0 0], .int .i64 ce]) (by simp [results, Tryd.results42, go_sem, k0, k1]) rfl ⟨rfl, hXB⟩

set_option maxHeartbeats 4000000 in
theorem insert_early (f : Int) (A : Option Addr) (n c : Nat) (g l : Int) (ce : Int) (w : World) (hz : ce ≠ 0) (hC : ChkAt f A n c ce w) :
    Calls Tryd.prog 41 #[.agg #[.int .i64 f, .slice A n c], .agg #[.int .i64 g, .int .i64 l]] w (ErrZ ce w) := by
  have HCK := Lib.hid hC
  have hzb : (ce != 0) = true := by rw [bne_iff_ne]; exact hz
  clear hC hz
  go_enter Tryd.func41, Tryd.ntmps41
  go_wp2_with fail
  obtain ⟨W0, hW0⟩ : ∃ W0, W0 = ((w.alloc (.cells #[.int .i64 f, .slice A n c] 24)).alloc (.cells #[.int .i64 g, .int .i64 l] 53)).alloc (.cells #[.int .i64 0, .slice none 0 0] 24) := ⟨_, rfl⟩
  have HF0 := Lib.hid (forget_mem w (.cells #[.int .i64 f, .slice A n c] 24) (.cells #[.int .i64 g, .int .i64 l] 53) (.cells #[.int .i64 0, .slice none 0 0] 24) W0 hW0)
  rw [← hW0]
  clear hW0
  go_wp2_with (first
    | (go_at_call 39; refine (HCK.out _ HF0.out.2.2.2.2).mono ?_; rintro e w1 ⟨rfl, hb1⟩; have HM1 := Lib.hid (forget_next HF0.out hb1); have r0 := Lib.cell_of_heap HM1.out.2.2.1 0; have r1 := Lib.cell_of_heap HM1.out.2.2.1 1; have rf : ∀ x, w1.frozen? ⟨w.heap.size + 1 + 1, x, none⟩ = false := (by intro x; have h1 := HM1.out.2.2.1; simp [World.frozen?, h1]); clear hb1))
  obtain ⟨X, hX⟩ : ∃ X, X = (w1.setCell ⟨w.heap.size + 1 + 1, 0, none⟩ (.int .i64 0)).setCell ⟨w.heap.size + 1 + 1, 1, none⟩ (.slice none 0 0) := ⟨_, rfl⟩
  obtain ⟨k0, k1, hXB⟩ := forget_end HM1.out hX
  rw [← hX]
  exact bodyPost_ret (v := .tuple #[.agg #[.int .i64 0, .slice none 0 0], .int .i64 ce]) (by simp [results, Tryd.results41, go_sem, k0, k1]) rfl ⟨rfl, hXB⟩

end Go.Proofs.YtjdabkniojmacaaDoor
