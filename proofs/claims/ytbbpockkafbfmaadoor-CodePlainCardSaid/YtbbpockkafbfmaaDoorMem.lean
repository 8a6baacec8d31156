/-
  Words for memory: a slice of integers that reads as a list.
-/
import Derived.Test.YtbbpockkafbfmaaDoorRows
import Derived.WalkKit
import Derived.Lib.Hide
import Derived.WalkSpells
import Derived.WalkLawsBesides
import Derived.Deep.AppendLies
import Derived.Deep.Draws
import Derived.Maps.AppendAt
namespace Go.Proofs.YtbbpockkafbfmaaDoor
open Go.RowKit

/-- The slice at A of n integers reads as the list xs. -/
def SL (w : World) (A : Option Addr) (n : Nat) (xs : List Int) : Prop :=
  xs.length = n ∧ (0 < n → ∃ b off, A = some ⟨b, off, none⟩ ∧ b < w.heap.size ∧ ∀ k, k < n → w.cell? ⟨b, off + k, none⟩ = some (.int .i64 (xs[k]?.getD 0)))

section
variable {w w' : World} {A : Option Addr} {n : Nat} {xs : List Int}
theorem SL.nil (w : World) (A : Option Addr) : SL w A 0 [] := ⟨rfl, fun h => absurd h (by omega)⟩
theorem SL.len (h : SL w A n xs) : xs.length = n := h.1
theorem SL.at_ (h : SL w A n xs) {k : Nat} (hk : k < n) : ∃ b off x, A = some ⟨b, off, none⟩ ∧ b < w.heap.size ∧ xs[k]? = some x ∧ w.cell? ⟨b, off + k, none⟩ = some (.int .i64 x) := by
  obtain ⟨b, off, hA, hb, hc⟩ := h.2 (by omega)
  have hl : k < xs.length := by have := h.1; omega
  refine ⟨b, off, xs[k], hA, hb, List.getElem?_eq_getElem hl, ?_⟩
  have := hc k hk
  rwa [List.getElem?_eq_getElem hl] at this
theorem SL.keep (h : SL w A n xs) (hs : w.heap.size ≤ w'.heap.size) (hk : ∀ b o, b < w.heap.size → w'.cell? ⟨b, o, none⟩ = w.cell? ⟨b, o, none⟩) : SL w' A n xs :=
  ⟨h.1, fun hn => by
    obtain ⟨b, off, hA, hb, hc⟩ := h.2 hn
    exact ⟨b, off, hA, by omega, fun k hkn => (hk b _ hb).trans (hc k hkn)⟩⟩
theorem SL.below (h : SL w A n xs) (hb : Below w.heap.size w w') : SL w' A n xs := h.keep hb.size fun b o hlt => hb.cell (p := ⟨b, o, none⟩) hlt
theorem SL.alloc (h : SL w A n xs) (o : Obj) : SL (w.alloc o) A n xs := h.below ((Below.refl _ _).alloc (Nat.le_refl _) o)
theorem SL.drew (h : SL w A n xs) : SL w.drew A n xs := h
theorem SL.drewN (h : SL w A n xs) (k : Nat) : SL (w.drewN k) A n xs := h
/-- A slice of what is read. -/
theorem SL.drop_ (h : SL w A n xs) {k cap : Nat} (hk : k ≤ n) (hc : n ≤ cap) : SL w (if cap = k then A else A.map (·.add k)) (n - k) (xs.drop k) := by
  refine ⟨by rw [List.length_drop, h.1], fun hn => ?_⟩
  obtain ⟨b, off, rfl, hb, hcell⟩ := h.2 (by omega)
  rw [if_neg (by omega)]
  refine ⟨b, off + k, ?_, hb, fun j hj => ?_⟩
  · simp only [Option.map_some, Addr.add]
    split
    · rename_i e; subst e; rfl
    · rfl
  · rw [List.getElem?_drop, Nat.add_assoc]
    exact hcell (k + j) (by omega)
theorem SL.take_ (h : SL w A n xs) {k : Nat} (hk : k ≤ n) : SL w A k (xs.take k) := by
  refine ⟨by rw [List.length_take, h.1]; omega, fun hn => ?_⟩
  obtain ⟨b, off, rfl, hb, hcell⟩ := h.2 (by omega)
  refine ⟨b, off, rfl, hb, fun j hj => ?_⟩
  rw [List.getElem?_take, if_pos hj]
  exact hcell j (by omega)
theorem SL.of_own {base : Nat} {e : TypeId} {c : Nat} (h : w.ownsRow base e 1 (.slice A n c) n (xs.map (Value.int .i64))) : SL w A n xs := by
  have hl : xs.length = n := by have := h.1; simpa using this
  refine ⟨hl, fun hn => ?_⟩
  obtain ⟨g, cap, hv, _, hlt⟩ := h.form hn
  have hA : A = some ⟨g, 0, none⟩ := by injection hv
  subst hA
  refine ⟨g, 0, rfl, hlt, fun k hk => ?_⟩
  have hx : xs[k]? = some xs[k] := List.getElem?_eq_getElem (by omega)
  have := h.cells (g := g) rfl k (.int .i64 xs[k]) (by rw [List.getElem?_map, hx]; rfl)
  rw [hx]
  show _ = some (Value.int IntKind.i64 xs[k])
  rw [← this]
  simp only [Addr.add, Nat.zero_add]
  split
  · rename_i e; subst e; rfl
  · rfl
end

/-- What is owned stays owned where only new memory has turned. -/
theorem ownsRow_below {w w' : World} {base : Nat} {e : TypeId} {size : Nat} {v : Value} {n : Nat} {xs : List Value} (h : w.ownsRow base e size v n xs) (hb : Below w.heap.size w w') : w'.ownsRow base e size v n xs := by
  refine ⟨h.1, ?_⟩
  rcases h.2 with hn | ⟨g, cap, cur, hv, hg, hh, r⟩
  · exact .inl hn
  · refine .inr ⟨g, cap, cur, hv, hg, ?_, r⟩
    have hlt : g < w.heap.size := by
      rcases Nat.lt_or_ge g w.heap.size with q | q
      · exact q
      · rw [Array.getElem?_eq_none q] at hh; cases hh
    rw [hb.block g hlt]; exact hh

/-- A number of 64 bits. -/
def I64 (x : Int) : Prop := -9223372036854775808 ≤ x ∧ x ≤ 9223372036854775807

theorem bcell {W w1 : World} (hb : Below W.heap.size W w1) : (∀ b o, b < W.heap.size → w1.cell? ⟨b, o, none⟩ = W.cell? ⟨b, o, none⟩) ∧ (∀ b o, b < W.heap.size → w1.frozen? ⟨b, o, none⟩ = W.frozen? ⟨b, o, none⟩) :=
  ⟨fun b o h => hb.cell (p := ⟨b, o, none⟩) h, fun b o h => hb.frozen (p := ⟨b, o, none⟩) h⟩

end Go.Proofs.YtbbpockkafbfmaaDoor
