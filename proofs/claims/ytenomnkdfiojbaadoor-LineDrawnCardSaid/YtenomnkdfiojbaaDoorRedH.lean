/-
  What both walks of the law LineReduces want: contracts without errors, and words with a letter inserted twice.
-/
import Derived.Test.YtenomnkdfiojbaaDoorHeld
import Derived.Deep.RegionLaw
import Derived.Deep.DeepCutAuto
namespace Go.Proofs.YtenomnkdfiojbaaDoor
open Go.RowKit

theorem lineNormal_ok {W : World} {A : Option Addr} {n : Nat} {xs : List Int} (cap : Nat) (h : SL W A n xs) (hn : n ≤ maxLen) (hv : validB 40 xs = true) :
    Calls Tryd.prog 15 #[.slice A n cap] W (OkPost W (Ln.normal xs) (Ln.normal xs).length) :=
  (normal_calls A n cap xs W h hn).mono fun _ _ hp => OkPost.of (errB_of_valid' hv) rfl hp
theorem same_yes {W : World} {A1 A2 : Option Addr} {n m : Nat} {xs ys : List Int} (c1 c2 : Nat) (h1 : SL W A1 n xs) (h2 : SL W A2 m ys) (hn : n ≤ maxLen) (hm : m ≤ maxLen) (v1 : validB 40 xs = true) (v2 : validB 40 ys = true) (e : Ln.normal ys = Ln.normal xs) :
    Calls Tryd.prog 20 #[.slice A1 n c1, .slice A2 m c2] W fun e w' => e = .returned (.tuple #[.bool true, .int .i64 0]) ∧ Below W.heap.size W w' := by
  have h := same_calls A1 A2 n c1 m c2 xs ys W h1 h2 hn hm
  have e1 := errB_of_valid' v1
  have e2 := errB_of_valid' v2
  have hb : sameB xs ys = true := by unfold sameB; rw [if_pos ⟨e1, e2⟩]; exact decide_eq_true e.symm
  have he : sameErr xs ys = 0 := by unfold sameErr; rw [if_pos e1]; exact e2
  rwa [hb, he] at h
theorem reducedB_normal {xs : List Int} (hv : validB 40 xs = true) : reducedB (Ln.normal xs) = true := by
  have he := (validB_iff.1 hv).2.2.2.1
  unfold reducedB
  rw [validB_normal hv, Bool.true_and, cycB_true]
  intro i hi heq
  obtain ⟨hnd, hends⟩ := Ln.cyc_iff.1 (Ln.cyc_normal xs he)
  have g1 : ∀ j, j < (Ln.normal xs).length → (Ln.normal xs).getD j 0 = (Ln.normal xs)[j]! := fun j hj => by simp [hj]
  by_cases hl : i + 1 < (Ln.normal xs).length
  · rw [Nat.mod_eq_of_lt hl] at heq
    have := (Ln.nd_getElem? _).1 hnd i hl
    apply this
    rw [List.getElem?_eq_getElem hi, List.getElem?_eq_getElem hl]
    rw [List.getD_eq_getElem?_getD, List.getD_eq_getElem?_getD, List.getElem?_eq_getElem hi, List.getElem?_eq_getElem hl] at heq
    exact congrArg some heq
  · have hil : i + 1 = (Ln.normal xs).length := by omega
    rw [hil, Nat.mod_self] at heq
    rcases hends with h0 | hne
    · omega
    · apply hne
      have hp : 0 < (Ln.normal xs).length := by omega
      have hi2 : (Ln.normal xs).length - 1 = i := by omega
      rw [hi2, List.getElem?_eq_getElem hi, List.getElem?_eq_getElem hp]
      rw [List.getD_eq_getElem?_getD, List.getD_eq_getElem?_getD, List.getElem?_eq_getElem hi, List.getElem?_eq_getElem hp] at heq
      exact congrArg some heq
theorem validB_insert {xs : List Int} {g : Int} (m : Nat) (hv : validB 40 xs = true) (hn : xs.length ≤ 398) (g0 : 0 ≤ g) (g1 : g ≤ 40) : validB 40 (xs.take m ++ g :: g :: xs.drop m) = true := by
  rw [validB_iff] at hv ⊢
  have hl : (xs.take m ++ g :: g :: xs.drop m).length = xs.length + 2 := by
    rw [List.length_append, List.length_cons, List.length_cons, List.length_take, List.length_drop]
    omega
  refine ⟨hv.1, hv.2.1, by omega, by have := hv.2.2.2.1; omega, fun x hx => ?_⟩
  rcases List.mem_append.1 hx with hx | hx
  · exact hv.2.2.2.2 x (List.mem_of_mem_take hx)
  · rcases List.mem_cons.1 hx with rfl | hx
    · exact ⟨g0, g1⟩
    · rcases List.mem_cons.1 hx with rfl | hx
      · exact ⟨g0, g1⟩
      · exact hv.2.2.2.2 x (List.mem_of_mem_drop hx)

theorem lenV {k : Int} {ys : List Int} (h : validB k ys = true) : ys.length ≤ maxLen := by
  have := (validB_iff.1 h).2.2.1
  unfold maxLen
  omega
theorem sl_two (w : World) (a b : Int) : SL (w.alloc (.cells #[.int .i64 a, .int .i64 b] 3)) (some ⟨w.heap.size, 0, none⟩) 2 [a, b] := SL.made w 3 [a, b]


end Go.Proofs.YtenomnkdfiojbaaDoor
