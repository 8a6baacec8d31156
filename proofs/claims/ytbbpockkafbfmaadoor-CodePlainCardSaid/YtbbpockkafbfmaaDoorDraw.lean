/-
  The walk of draw: the conditions of a code one after the other; Check.
-/
import Derived.Test.YtbbpockkafbfmaaDoorStage
namespace Go.Proofs.YtbbpockkafbfmaaDoor
open Go.RowKit

theorem store_func_new (wr : World) (fn : Fn) (xs ys : Array Value) (a b : Value) (T : TypeId) : (store ⟨wr.heap.size, 0, none⟩ (.func fn xs ys)).run Tryd.prog (wr.alloc (.cells #[a, b] T)) = .ok () (wr.alloc (.cells #[.func fn xs ys, b] T)) := by
  have h0 := Lib.cell_of_heap (heap_alloc_new wr (.cells #[a, b] T)) 0
  have h1 : (wr.alloc (.cells #[a, b] T)).frozen? ⟨wr.heap.size, 0, none⟩ = false := by
    unfold World.frozen?
    rw [heap_alloc_new]
    rfl
  simp only [store, Sem.run]
  rw [h0]
  simp only [h1]
  have h2 := World.setCell_alloc_new (w := wr) #[a, b] T 0 (.func fn xs ys)
  rw [h2]
  rfl
/-- The table of the conditions. -/
def tableC (P : Nat) : Array Value := #[
  .func (Fn.func 76) #[.pointer (some ⟨P, 0, none⟩)] #[], .int .i64 7,
  .func (Fn.func 77) #[.pointer (some ⟨P, 0, none⟩)] #[], .int .i64 2,
  .func (Fn.func 78) #[.pointer (some ⟨P, 0, none⟩)] #[], .int .i64 3,
  .func (Fn.func 79) #[.pointer (some ⟨P, 0, none⟩)] #[], .int .i64 3,
  .func (Fn.func 80) #[.pointer (some ⟨P, 0, none⟩)] #[], .int .i64 3,
  .func (Fn.func 81) #[.pointer (some ⟨P, 0, none⟩)] #[], .int .i64 3,
  .func (Fn.func 82) #[.pointer (some ⟨P, 0, none⟩)] #[], .int .i64 3]
/-- What draw leaves. -/
def DrawPost (f : Int) (A : Option Addr) (n c : Nat) (ls : List Lt) (w : World) (e : Ending) (w' : World) : Prop :=
  Below w.heap.size w w' ∧ ((checkE f ls ≠ 0 ∧ e = .returned (.tuple #[.pointer none, .int .i64 (checkE f ls)])) ∨
    ∃ P, w.heap.size ≤ P ∧ P < w'.heap.size ∧ checkE f ls = 0 ∧ e = .returned (.tuple #[.pointer (some ⟨P, 0, none⟩), .int .i64 0]) ∧ Stage f A n c ls P w' 7)
def DrRel (f : Int) (A : Option Addr) (n c : Nat) (ls : List Lt) (w W0 : World) (P : Nat) (iv : Value) (wr : World) : Prop :=
  ∃ j : Nat, j ≤ 7 ∧ iv = .int .i64 (j : Int) ∧ Stage f A n c ls P wr j ∧ Below w.heap.size w wr ∧ wr.heap[P + 1]? = W0.heap[P + 1]? ∧ P + 1 < wr.heap.size
theorem Stage.zero {f : Int} {A : Option Addr} {n c : Nat} {ls : List Lt} {P : Nat} {wr : World} (h : Stage f A n c ls P wr 7) : checkE f ls = 0 ∨ ls.length ≠ n := by
  obtain ⟨h1, h2, h3, h4, ga, x, s, o, st, pt, g1, g2, g3, g4, e1, e2, e3, h, o1, o2, o3, o4⟩ := h
  by_cases e : ls.length = n
  · left
    subst e
    unfold checkE
    rw [if_neg (by simp [h1]), if_neg (by simp [h2]), if_neg (by simp [h3]), if_neg (fun c => c h4), e1, e2]
    dsimp only
    rw [if_pos e3]
  · exact .inr e

set_option maxHeartbeats 4000000 in
set_option maxRecDepth 100000 in
theorem draw_calls (f : Int) (A : Option Addr) (n c : Nat) (ls : List Lt) (w : World) (hL : LS w A n ls) (hA : ∀ b off, A = some ⟨b, off, none⟩ → b < w.heap.size) (hI : ∀ l, l ∈ ls → I64 l.id) :
    Calls Tryd.prog 43 #[.agg #[.int .i64 f, .slice A n c]] w (DrawPost f A n c ls w) := by
  have HL := Lib.hid hL
  have HA := Lib.hid hA
  have HI := Lib.hid hI
  clear hL hA hI
  go_enter Tryd.func43, Tryd.ntmps43
  go_wp2_with fail
  obtain ⟨W0, hW0⟩ : ∃ W0, W0 = ((w.alloc (.cells #[.int .i64 f, .slice A n c] 33)).alloc (.cells #[.int .i64 f, .slice A n c, .slice none 0 0, .slice none 0 0, .slice none 0 0, .slice none 0 0] 108)).alloc (.cells (tableC (w.heap.size + 1)) 110) := ⟨_, rfl⟩
  have HB0 : Hid (Below w.heap.size w W0) := by
    rw [hW0]
    exact (((Below.refl _ _).alloc (Nat.le_refl _) _).alloc (by simp) _).alloc (by simp; omega) _
  have hsz : W0.heap.size = w.heap.size + 3 := by rw [hW0]; simp
  have HD0 : Hid (Stage f A n c ls (w.heap.size + 1) W0 0) := by
    rw [hW0]
    refine ⟨108, ?_⟩
    have h1 := heap_alloc_new (w.alloc (.cells #[.int .i64 f, .slice A n c] 33)) (.cells #[.int .i64 f, .slice A n c, .slice none 0 0, .slice none 0 0, .slice none 0 0, .slice none 0 0] 108)
    have e1 : (w.alloc (.cells #[.int .i64 f, .slice A n c] 33)).heap.size = w.heap.size + 1 := by simp
    rw [e1] at h1
    exact (((Below.refl _ _).alloc (Nat.le_refl _) _).block (w.heap.size + 1) (by simp)).trans h1
  have HC0 : Hid (W0.heap[w.heap.size + 1 + 1]? = some (.cells (tableC (w.heap.size + 1)) 110 (0, 0))) := by
    rw [hW0]
    have h1 := heap_alloc_new ((w.alloc (.cells #[.int .i64 f, .slice A n c] 33)).alloc (.cells #[.int .i64 f, .slice A n c, .slice none 0 0, .slice none 0 0, .slice none 0 0, .slice none 0 0] 108)) (.cells (tableC (w.heap.size + 1)) 110)
    have e1 : ((w.alloc (.cells #[.int .i64 f, .slice A n c] 33)).alloc (.cells #[.int .i64 f, .slice A n c, .slice none 0 0, .slice none 0 0, .slice none 0 0, .slice none 0 0] 108)).heap.size = w.heap.size + 1 + 1 := by simp
    rw [e1] at h1
    exact h1
  simp only [tableC] at hW0
  rw [← hW0]
  obtain ⟨P, hP⟩ : ∃ P, P = w.heap.size + 1 := ⟨_, rfl⟩
  have HPW : Hid (w.heap.size < P ∧ P + 1 < W0.heap.size) := ⟨by omega, by omega⟩
  have HAP : Hid (∀ b off, A = some ⟨b, off, none⟩ → b ≠ P) := fun b off e => by have := HA.out b off e; omega
  rw [← hP] at HD0 HC0 ⊢
  clear hW0 hsz hP
  go_loopw [33] (fun iv wr => DrRel f A n c ls w W0 P iv wr) (fun iv _ => 7 - (intOf iv).toNat)
  case atStart => exact ⟨0, by omega, rfl, HD0.out, HB0.out, rfl, HPW.out.2⟩
  case round =>
    obtain ⟨j, hj, rfl, hst, hb, hc, hs⟩ := hrel
    have HST := Lib.hid hst
    have HB := Lib.hid hb
    have hcb := hc.trans HC0.out
    have HCB := Lib.hid hcb
    have HLW : Hid (∀ ob, LS (wr.alloc ob) A n ls) := fun ob => (HL.out.below hb).below ((Below.refl _ _).alloc (Nat.le_refl _) ob)
    have hcell := Lib.cell_of_heap hcb
    have HCC := Lib.hid hc
    clear hst hb hcb hc
    have h8 : j = 0 ∨ j = 1 ∨ j = 2 ∨ j = 3 ∨ j = 4 ∨ j = 5 ∨ j = 6 ∨ j = 7 := by omega
    rcases h8 with rfl | rfl | rfl | rfl | rfl | rfl | rfl | rfl
    · have m0 : wr.cell? ⟨P + 1, 0, none⟩ = some (.func (Fn.func 76) #[.pointer (some ⟨P, 0, none⟩)] #[]) := hcell 0
      have m1 : wr.cell? ⟨P + 1, 1, none⟩ = some (.int .i64 7) := hcell 1
      have HK : Hid (∀ ob, Calls Tryd.prog 76 #[.pointer (some ⟨P, 0, none⟩)] (wr.alloc ob) (CondPost f A n c ls P (wr.alloc ob) 0 7)) := fun ob =>
        stage0 (by simp; omega) (HLW.out _) (Stage.below (by omega) ((Below.refl _ _).alloc (Nat.le_refl _) ob) 0 HST.out)
      have hsf := fun (fn : Fn) (xs ys : Array Value) (a b : Value) (T : TypeId) => store_func_new wr fn xs ys a b T
      clear hcell hj
      go_wp2_with fail
      refine (HK.out _).mono ?_
      rintro e w1 ⟨b, rfl, hkeep, hyes, hno⟩
      have hnew := hkeep.2 wr.heap.size (by simp) (by omega)
      have HKE := Lib.hid hkeep
      have HYES := Lib.hid hyes
      have HNO := Lib.hid hno
      rw [heap_alloc_new] at hnew
      have n0 := Lib.cell_of_heap hnew 0
      have n1 := Lib.cell_of_heap hnew 1
      have HSZ : Hid (wr.heap.size ≤ w1.heap.size) := by
        have h1 := hkeep.1.size
        unfold Hid
        simp at h1
        omega
      have HBW : Hid (Below w.heap.size w w1) := by
        have h0 := HPW.out
        exact (HB.out.alloc HB.out.size _).trans (hkeep.1.mono (by omega))
      clear hkeep hyes hno hnew
      cases b with
      | false =>
        go_wp2_with fail
        go_quiet (fail)
        go_wp2_with fail
        go_ret2
        have hno := HNO.out (by first | rfl | trivial)
        exact ⟨by first | exact below_drewN HBW.out _ | exact HBW.out, .inl ⟨by rw [hno]; decide, by rw [hno]; rfl⟩⟩
      | true =>
        go_wp2_with fail
        go_roundw
        case rel => exact ⟨1, by omega, rfl, HYES.out (by first | rfl | trivial), HBW.out, (HKE.out.2 (P + 1) (by simp; omega) (by omega)).trans ((((Below.refl wr.heap.size wr).alloc (Nat.le_refl _) _).block (P + 1) hs).trans HCC.out), Nat.lt_of_lt_of_le hs HSZ.out⟩
        case measure => simp [intOf]
    · have m0 : wr.cell? ⟨P + 1, 2, none⟩ = some (.func (Fn.func 77) #[.pointer (some ⟨P, 0, none⟩)] #[]) := hcell 2
      have m1 : wr.cell? ⟨P + 1, 3, none⟩ = some (.int .i64 2) := hcell 3
      have HK : Hid (∀ ob, Calls Tryd.prog 77 #[.pointer (some ⟨P, 0, none⟩)] (wr.alloc ob) (CondPost f A n c ls P (wr.alloc ob) 1 2)) := fun ob =>
        stage1 (by simp; omega) (HLW.out _) (Stage.below (by omega) ((Below.refl _ _).alloc (Nat.le_refl _) ob) 1 HST.out)
      have hsf := fun (fn : Fn) (xs ys : Array Value) (a b : Value) (T : TypeId) => store_func_new wr fn xs ys a b T
      clear hcell hj
      go_wp2_with fail
      refine (HK.out _).mono ?_
      rintro e w1 ⟨b, rfl, hkeep, hyes, hno⟩
      have hnew := hkeep.2 wr.heap.size (by simp) (by omega)
      have HKE := Lib.hid hkeep
      have HYES := Lib.hid hyes
      have HNO := Lib.hid hno
      rw [heap_alloc_new] at hnew
      have n0 := Lib.cell_of_heap hnew 0
      have n1 := Lib.cell_of_heap hnew 1
      have HSZ : Hid (wr.heap.size ≤ w1.heap.size) := by
        have h1 := hkeep.1.size
        unfold Hid
        simp at h1
        omega
      have HBW : Hid (Below w.heap.size w w1) := by
        have h0 := HPW.out
        exact (HB.out.alloc HB.out.size _).trans (hkeep.1.mono (by omega))
      clear hkeep hyes hno hnew
      cases b with
      | false =>
        go_wp2_with fail
        go_quiet (fail)
        go_wp2_with fail
        go_ret2
        have hno := HNO.out (by first | rfl | trivial)
        exact ⟨by first | exact below_drewN HBW.out _ | exact HBW.out, .inl ⟨by rw [hno]; decide, by rw [hno]; rfl⟩⟩
      | true =>
        go_wp2_with fail
        go_roundw
        case rel => exact ⟨2, by omega, rfl, HYES.out (by first | rfl | trivial), HBW.out, (HKE.out.2 (P + 1) (by simp; omega) (by omega)).trans ((((Below.refl wr.heap.size wr).alloc (Nat.le_refl _) _).block (P + 1) hs).trans HCC.out), Nat.lt_of_lt_of_le hs HSZ.out⟩
        case measure => simp [intOf]
    · have m0 : wr.cell? ⟨P + 1, 4, none⟩ = some (.func (Fn.func 78) #[.pointer (some ⟨P, 0, none⟩)] #[]) := hcell 4
      have m1 : wr.cell? ⟨P + 1, 5, none⟩ = some (.int .i64 3) := hcell 5
      have HK : Hid (∀ ob, Calls Tryd.prog 78 #[.pointer (some ⟨P, 0, none⟩)] (wr.alloc ob) (CondPost f A n c ls P (wr.alloc ob) 2 3)) := fun ob =>
        stage2 (by simp; omega) (HLW.out _) HAP.out (Stage.below (by omega) ((Below.refl _ _).alloc (Nat.le_refl _) ob) 2 HST.out)
      have hsf := fun (fn : Fn) (xs ys : Array Value) (a b : Value) (T : TypeId) => store_func_new wr fn xs ys a b T
      clear hcell hj
      go_wp2_with fail
      refine (HK.out _).mono ?_
      rintro e w1 ⟨b, rfl, hkeep, hyes, hno⟩
      have hnew := hkeep.2 wr.heap.size (by simp) (by omega)
      have HKE := Lib.hid hkeep
      have HYES := Lib.hid hyes
      have HNO := Lib.hid hno
      rw [heap_alloc_new] at hnew
      have n0 := Lib.cell_of_heap hnew 0
      have n1 := Lib.cell_of_heap hnew 1
      have HSZ : Hid (wr.heap.size ≤ w1.heap.size) := by
        have h1 := hkeep.1.size
        unfold Hid
        simp at h1
        omega
      have HBW : Hid (Below w.heap.size w w1) := by
        have h0 := HPW.out
        exact (HB.out.alloc HB.out.size _).trans (hkeep.1.mono (by omega))
      clear hkeep hyes hno hnew
      cases b with
      | false =>
        go_wp2_with fail
        go_quiet (fail)
        go_wp2_with fail
        go_ret2
        have hno := HNO.out (by first | rfl | trivial)
        exact ⟨by first | exact below_drewN HBW.out _ | exact HBW.out, .inl ⟨by rw [hno]; decide, by rw [hno]; rfl⟩⟩
      | true =>
        go_wp2_with fail
        go_roundw
        case rel => exact ⟨3, by omega, rfl, HYES.out (by first | rfl | trivial), HBW.out, (HKE.out.2 (P + 1) (by simp; omega) (by omega)).trans ((((Below.refl wr.heap.size wr).alloc (Nat.le_refl _) _).block (P + 1) hs).trans HCC.out), Nat.lt_of_lt_of_le hs HSZ.out⟩
        case measure => simp [intOf]
    · have m0 : wr.cell? ⟨P + 1, 6, none⟩ = some (.func (Fn.func 79) #[.pointer (some ⟨P, 0, none⟩)] #[]) := hcell 6
      have m1 : wr.cell? ⟨P + 1, 7, none⟩ = some (.int .i64 3) := hcell 7
      have HK : Hid (∀ ob, Calls Tryd.prog 79 #[.pointer (some ⟨P, 0, none⟩)] (wr.alloc ob) (CondPost f A n c ls P (wr.alloc ob) 3 3)) := fun ob =>
        stage3 (by simp; omega) (HLW.out _) (Stage.below (by omega) ((Below.refl _ _).alloc (Nat.le_refl _) ob) 3 HST.out)
      have hsf := fun (fn : Fn) (xs ys : Array Value) (a b : Value) (T : TypeId) => store_func_new wr fn xs ys a b T
      clear hcell hj
      go_wp2_with fail
      refine (HK.out _).mono ?_
      rintro e w1 ⟨b, rfl, hkeep, hyes, hno⟩
      have hnew := hkeep.2 wr.heap.size (by simp) (by omega)
      have HKE := Lib.hid hkeep
      have HYES := Lib.hid hyes
      have HNO := Lib.hid hno
      rw [heap_alloc_new] at hnew
      have n0 := Lib.cell_of_heap hnew 0
      have n1 := Lib.cell_of_heap hnew 1
      have HSZ : Hid (wr.heap.size ≤ w1.heap.size) := by
        have h1 := hkeep.1.size
        unfold Hid
        simp at h1
        omega
      have HBW : Hid (Below w.heap.size w w1) := by
        have h0 := HPW.out
        exact (HB.out.alloc HB.out.size _).trans (hkeep.1.mono (by omega))
      clear hkeep hyes hno hnew
      cases b with
      | false =>
        go_wp2_with fail
        go_quiet (fail)
        go_wp2_with fail
        go_ret2
        have hno := HNO.out (by first | rfl | trivial)
        exact ⟨by first | exact below_drewN HBW.out _ | exact HBW.out, .inl ⟨by rw [hno]; decide, by rw [hno]; rfl⟩⟩
      | true =>
        go_wp2_with fail
        go_roundw
        case rel => exact ⟨4, by omega, rfl, HYES.out (by first | rfl | trivial), HBW.out, (HKE.out.2 (P + 1) (by simp; omega) (by omega)).trans ((((Below.refl wr.heap.size wr).alloc (Nat.le_refl _) _).block (P + 1) hs).trans HCC.out), Nat.lt_of_lt_of_le hs HSZ.out⟩
        case measure => simp [intOf]
    · have m0 : wr.cell? ⟨P + 1, 8, none⟩ = some (.func (Fn.func 80) #[.pointer (some ⟨P, 0, none⟩)] #[]) := hcell 8
      have m1 : wr.cell? ⟨P + 1, 9, none⟩ = some (.int .i64 3) := hcell 9
      have HK : Hid (∀ ob, Calls Tryd.prog 80 #[.pointer (some ⟨P, 0, none⟩)] (wr.alloc ob) (CondPost f A n c ls P (wr.alloc ob) 4 3)) := fun ob =>
        stage4 (by simp; omega) (HLW.out _) HAP.out (Stage.below (by omega) ((Below.refl _ _).alloc (Nat.le_refl _) ob) 4 HST.out)
      have hsf := fun (fn : Fn) (xs ys : Array Value) (a b : Value) (T : TypeId) => store_func_new wr fn xs ys a b T
      clear hcell hj
      go_wp2_with fail
      refine (HK.out _).mono ?_
      rintro e w1 ⟨b, rfl, hkeep, hyes, hno⟩
      have hnew := hkeep.2 wr.heap.size (by simp) (by omega)
      have HKE := Lib.hid hkeep
      have HYES := Lib.hid hyes
      have HNO := Lib.hid hno
      rw [heap_alloc_new] at hnew
      have n0 := Lib.cell_of_heap hnew 0
      have n1 := Lib.cell_of_heap hnew 1
      have HSZ : Hid (wr.heap.size ≤ w1.heap.size) := by
        have h1 := hkeep.1.size
        unfold Hid
        simp at h1
        omega
      have HBW : Hid (Below w.heap.size w w1) := by
        have h0 := HPW.out
        exact (HB.out.alloc HB.out.size _).trans (hkeep.1.mono (by omega))
      clear hkeep hyes hno hnew
      cases b with
      | false =>
        go_wp2_with fail
        go_quiet (fail)
        go_wp2_with fail
        go_ret2
        have hno := HNO.out (by first | rfl | trivial)
        exact ⟨by first | exact below_drewN HBW.out _ | exact HBW.out, .inl ⟨by rw [hno]; decide, by rw [hno]; rfl⟩⟩
      | true =>
        go_wp2_with fail
        go_roundw
        case rel => exact ⟨5, by omega, rfl, HYES.out (by first | rfl | trivial), HBW.out, (HKE.out.2 (P + 1) (by simp; omega) (by omega)).trans ((((Below.refl wr.heap.size wr).alloc (Nat.le_refl _) _).block (P + 1) hs).trans HCC.out), Nat.lt_of_lt_of_le hs HSZ.out⟩
        case measure => simp [intOf]
    · have m0 : wr.cell? ⟨P + 1, 10, none⟩ = some (.func (Fn.func 81) #[.pointer (some ⟨P, 0, none⟩)] #[]) := hcell 10
      have m1 : wr.cell? ⟨P + 1, 11, none⟩ = some (.int .i64 3) := hcell 11
      have HK : Hid (∀ ob, Calls Tryd.prog 81 #[.pointer (some ⟨P, 0, none⟩)] (wr.alloc ob) (CondPost f A n c ls P (wr.alloc ob) 5 3)) := fun ob =>
        stage5 (by simp; omega) (HLW.out _) HAP.out HI.out (Stage.below (by omega) ((Below.refl _ _).alloc (Nat.le_refl _) ob) 5 HST.out)
      have hsf := fun (fn : Fn) (xs ys : Array Value) (a b : Value) (T : TypeId) => store_func_new wr fn xs ys a b T
      clear hcell hj
      go_wp2_with fail
      refine (HK.out _).mono ?_
      rintro e w1 ⟨b, rfl, hkeep, hyes, hno⟩
      have hnew := hkeep.2 wr.heap.size (by simp) (by omega)
      have HKE := Lib.hid hkeep
      have HYES := Lib.hid hyes
      have HNO := Lib.hid hno
      rw [heap_alloc_new] at hnew
      have n0 := Lib.cell_of_heap hnew 0
      have n1 := Lib.cell_of_heap hnew 1
      have HSZ : Hid (wr.heap.size ≤ w1.heap.size) := by
        have h1 := hkeep.1.size
        unfold Hid
        simp at h1
        omega
      have HBW : Hid (Below w.heap.size w w1) := by
        have h0 := HPW.out
        exact (HB.out.alloc HB.out.size _).trans (hkeep.1.mono (by omega))
      clear hkeep hyes hno hnew
      cases b with
      | false =>
        go_wp2_with fail
        go_quiet (fail)
        go_wp2_with fail
        go_ret2
        have hno := HNO.out (by first | rfl | trivial)
        exact ⟨by first | exact below_drewN HBW.out _ | exact HBW.out, .inl ⟨by rw [hno]; decide, by rw [hno]; rfl⟩⟩
      | true =>
        go_wp2_with fail
        go_roundw
        case rel => exact ⟨6, by omega, rfl, HYES.out (by first | rfl | trivial), HBW.out, (HKE.out.2 (P + 1) (by simp; omega) (by omega)).trans ((((Below.refl wr.heap.size wr).alloc (Nat.le_refl _) _).block (P + 1) hs).trans HCC.out), Nat.lt_of_lt_of_le hs HSZ.out⟩
        case measure => simp [intOf]
    · have m0 : wr.cell? ⟨P + 1, 12, none⟩ = some (.func (Fn.func 82) #[.pointer (some ⟨P, 0, none⟩)] #[]) := hcell 12
      have m1 : wr.cell? ⟨P + 1, 13, none⟩ = some (.int .i64 3) := hcell 13
      have HK : Hid (∀ ob, Calls Tryd.prog 82 #[.pointer (some ⟨P, 0, none⟩)] (wr.alloc ob) (CondPost f A n c ls P (wr.alloc ob) 6 3)) := fun ob =>
        stage6 (by simp; omega) (HLW.out _) (Stage.below (by omega) ((Below.refl _ _).alloc (Nat.le_refl _) ob) 6 HST.out)
      have hsf := fun (fn : Fn) (xs ys : Array Value) (a b : Value) (T : TypeId) => store_func_new wr fn xs ys a b T
      clear hcell hj
      go_wp2_with fail
      refine (HK.out _).mono ?_
      rintro e w1 ⟨b, rfl, hkeep, hyes, hno⟩
      have hnew := hkeep.2 wr.heap.size (by simp) (by omega)
      have HKE := Lib.hid hkeep
      have HYES := Lib.hid hyes
      have HNO := Lib.hid hno
      rw [heap_alloc_new] at hnew
      have n0 := Lib.cell_of_heap hnew 0
      have n1 := Lib.cell_of_heap hnew 1
      have HSZ : Hid (wr.heap.size ≤ w1.heap.size) := by
        have h1 := hkeep.1.size
        unfold Hid
        simp at h1
        omega
      have HBW : Hid (Below w.heap.size w w1) := by
        have h0 := HPW.out
        exact (HB.out.alloc HB.out.size _).trans (hkeep.1.mono (by omega))
      clear hkeep hyes hno hnew
      cases b with
      | false =>
        go_wp2_with fail
        go_quiet (fail)
        go_wp2_with fail
        go_ret2
        have hno := HNO.out (by first | rfl | trivial)
        exact ⟨by first | exact below_drewN HBW.out _ | exact HBW.out, .inl ⟨by rw [hno]; decide, by rw [hno]; rfl⟩⟩
      | true =>
        go_wp2_with fail
        go_roundw
        case rel => exact ⟨7, by omega, rfl, HYES.out (by first | rfl | trivial), HBW.out, (HKE.out.2 (P + 1) (by simp; omega) (by omega)).trans ((((Below.refl wr.heap.size wr).alloc (Nat.le_refl _) _).block (P + 1) hs).trans HCC.out), Nat.lt_of_lt_of_le hs HSZ.out⟩
        case measure => simp [intOf]
    · clear hcell hj
      go_wp2_with fail
      go_ret2
      have hz := (Stage.zero HST.out).resolve_right (fun c => c HL.out.1)
      have h0 := HPW.out
      exact ⟨HB.out, .inr ⟨P, by omega, by omega, hz, rfl, HST.out⟩⟩

/-- Check. -/
theorem check_calls (f : Int) (A : Option Addr) (n c : Nat) (ls : List Lt) (w : World) (hL : LS w A n ls) (hA : ∀ b off, A = some ⟨b, off, none⟩ → b < w.heap.size) (hI : ∀ l, l ∈ ls → I64 l.id) :
    Calls Tryd.prog 23 #[.agg #[.int .i64 f, .slice A n c]] w fun e w' => e = .returned (.int .i64 (checkE f ls)) ∧ Below w.heap.size w w' := by
  have HK : Hid (∀ W, Below w.heap.size w W → Calls Tryd.prog 43 #[.agg #[.int .i64 f, .slice A n c]] W fun e w' => (∃ p, e = .returned (.tuple #[.pointer p, .int .i64 (checkE f ls)])) ∧ Below W.heap.size W w') := by
    intro W hW
    refine (draw_calls f A n c ls W (hL.below hW) (fun b off e => Nat.lt_of_lt_of_le (hA b off e) hW.size) hI).mono ?_
    rintro e w' ⟨hb, ⟨_, rfl⟩ | ⟨P, _, _, hz, rfl, _⟩⟩
    · exact ⟨⟨none, rfl⟩, hb⟩
    · exact ⟨⟨some ⟨P, 0, none⟩, by rw [hz]⟩, hb⟩
  clear hL hA hI
  go_enter Tryd.func23, Tryd.ntmps23
  go_wp2_with fail
  refine (HK.out _ ((Below.refl _ _).alloc (Nat.le_refl _) _)).mono ?_
  rintro e w1 ⟨⟨p, rfl⟩, hb⟩
  go_wp2_with fail
  go_ret
  exact ⟨rfl, ((Below.refl w.heap.size w).alloc (Nat.le_refl _) _).trans (hb.mono (by simp))⟩

end Go.Proofs.YtbbpockkafbfmaaDoor
