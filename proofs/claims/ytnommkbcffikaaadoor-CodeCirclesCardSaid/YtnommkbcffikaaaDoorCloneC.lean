/-
  slices.Clone of integers, over what the call owns.
-/
import Derived.Test.YtnommkbcffikaaaDoorMeet
import Derived.Test.YtnommkbcffikaaaDoorShelf
namespace Go.Proofs.YtnommkbcffikaaaDoor
open Go.RowKit

theorem cloneZ_calls (b off n c : Nat) (xs : List Int) (w : World) (h : SL w (some ⟨b, off, none⟩) n xs) (hp : 0 < n) (hn : n ≤ 100000) :
    Calls Tryd.prog 106 #[.slice (some ⟨b, off, none⟩) n c] w fun e w' => ∃ v, e = .returned v ∧ OwnZ w' w.heap.size v xs ∧ Below w.heap.size w w' := by
  have hl := h.1
  obtain ⟨b', off', hA, hb, hc⟩ := h.2 hp
  obtain ⟨rfl, rfl⟩ : b = b' ∧ off = off' := by injection hA with hA; injection hA with e1 e2; exact ⟨e1, e2⟩
  refine (Tryd.slices_Clone_int b off n c xs w (by omega) (by omega) (fun j hj => by rw [List.getD_eq_getElem?_getD]; exact hc j (by omega))).mono ?_
  rintro e w' ⟨v, rfl, ho, _, hb⟩
  refine ⟨v, rfl, ?_, hb⟩
  rw [List.take_of_length_le (by omega)] at ho
  unfold OwnZ
  rw [hl]
  exact ho

end Go.Proofs.YtnommkbcffikaaaDoor
