/-
  What onlyRanks computes, said by the order of strands.
-/
import Derived.Test.YtenomnkdfiojbaaDoorOnly
import Derived.Test.YtenomnkdfiojbaaDoorRk
namespace Go.Proofs.YtenomnkdfiojbaaDoor
open Go.RowKit

/-- The gates. -/
def gt (xs : List Int) (i : Nat) : Int := xs.getD i 0

theorem along_st {xs : List Int} {n p i : Nat} (hl : xs.length = n) (hp : p < n) (hi : i ≤ n) : Ln.along xs p i = gt xs (Rk.st n p i) := by
  unfold Ln.along gt Rk.st Ln.alongI
  rw [hl]
  by_cases h : p % 2 = 0
  · rw [if_pos h, show Rk.dir p = true by simp [Rk.dir, h], Rk.it_true hp]
  · rw [if_neg h, show Rk.dir p = false by simp [Rk.dir]; omega, Rk.it_false hp i hi]

theorem ahead_inj {f x y : Int} (_hf : 0 ≤ f ∧ f ≤ 40) (hx : 0 ≤ x ∧ x ≤ 40) (hy : 0 ≤ y ∧ y ≤ 40) (h : Rk.ahead f x = Rk.ahead f y) : x = y := by
  unfold Rk.ahead at h
  omega

theorem ord_spec {xs : List Int} {n p q : Nat} (hl : xs.length = n) (hp : p < n) (hq : q < n) (hr : ∀ x, x ∈ xs → 0 ≤ x ∧ x ≤ 40) : ∀ (r i : Nat) (side : Int), 1 ≤ i → i + r = n →
    (∀ j, j < i → gt xs (Rk.st n p j) = gt xs (Rk.st n q j)) → side = (if i % 2 = 1 then 1 else -1) →
    (ordM xs p q i r side = 0 ∧ ∀ j, j < n → gt xs (Rk.st n p j) = gt xs (Rk.st n q j)) ∨ (ordM xs p q i r side = -1 ∧ Rk.Lt n (gt xs) p q) ∨ (ordM xs p q i r side = 1 ∧ Rk.Lt n (gt xs) q p)
  | 0, i, side, h1, hn, he, _ => by
    refine .inl ⟨rfl, fun j hj => he j (by omega)⟩
  | r + 1, i, side, h1, hn, he, hs => by
    have ep := along_st hl hp (i := i) (by omega)
    have eq := along_st hl hq (i := i) (by omega)
    have ef := along_st hl hp (i := i - 1) (by omega)
    have hn0 : 0 < n := by omega
    rw [ordM]
    split
    · rename_i h
      rw [ep, eq] at h
      refine ord_spec hl hp hq hr r (i + 1) (-side) (by omega) (by omega) (fun j hj => ?_) ?_
      · rcases Nat.lt_or_ge j i with hj2 | hj2
        · exact he j hj2
        · obtain rfl : j = i := by omega
          exact h
      · rw [hs]; split <;> split <;> omega
    · rename_i h
      rw [ep, eq] at h
      have rp := hr _ (along_mem (xs := xs) (s := p) (i := i) hl hn0)
      have rq := hr _ (along_mem (xs := xs) (s := q) (i := i) hl hn0)
      have rf := hr _ (along_mem (xs := xs) (s := p) (i := i - 1) hl hn0)
      rw [ep] at rp ⊢
      rw [eq] at rq ⊢
      rw [ef] at rf ⊢
      have hff := he (i - 1) (by omega)
      have hne : aheadM (gt xs (Rk.st n p (i - 1))) (gt xs (Rk.st n q i)) ≠ aheadM (gt xs (Rk.st n p (i - 1))) (gt xs (Rk.st n p i)) := fun e => h (ahead_inj rf rq rp e).symm
      have hlt := fun c => (⟨i, h1, by omega, he, c⟩ : Rk.Lt n (gt xs) p q)
      have hgt := fun c => (⟨i, h1, by omega, fun j hj => (he j hj).symm, c⟩ : Rk.Lt n (gt xs) q p)
      rw [← hff] at hgt
      have ea : ∀ a b, aheadM a b = Rk.ahead a b := fun _ _ => rfl
      rw [ea, ea] at hne ⊢
      generalize Rk.ahead (gt xs (Rk.st n p (i - 1))) (gt xs (Rk.st n q i)) = aq at hne hlt hgt ⊢
      generalize Rk.ahead (gt xs (Rk.st n p (i - 1))) (gt xs (Rk.st n p i)) = ap at hne hlt hgt ⊢
      subst hs
      refine .inr ?_
      rcases Int.lt_or_gt_of_ne hne with hc | hc
      · have ec : Lib.compareInt aq ap = -1 := by unfold Lib.compareInt; rw [if_pos hc]
        rw [ec]
        split
        · rename_i hi; exact .inl ⟨by omega, hlt (.inl ⟨hi, hc⟩)⟩
        · rename_i hi; exact .inr ⟨by omega, hgt (.inr ⟨by omega, hc⟩)⟩
      · have ec : Lib.compareInt aq ap = 1 := by unfold Lib.compareInt; rw [if_neg (by omega), if_pos hc]
        rw [ec]
        split
        · rename_i hi; exact .inr ⟨by omega, hgt (.inl ⟨hi, hc⟩)⟩
        · rename_i hi; exact .inl ⟨by omega, hlt (.inr ⟨by omega, hc⟩)⟩

theorem order_spec {xs : List Int} {n p q : Nat} (hl : xs.length = n) (hp : p < n) (hq : q < n) (hr : ∀ x, x ∈ xs → 0 ≤ x ∧ x ≤ 40) (hg : gt xs p = gt xs q) :
    (orderM xs p q = 0 ∧ ∀ j, j < n → gt xs (Rk.st n p j) = gt xs (Rk.st n q j)) ∨ (orderM xs p q = -1 ∧ Rk.Lt n (gt xs) p q) ∨ (orderM xs p q = 1 ∧ Rk.Lt n (gt xs) q p) := by
  unfold orderM
  rw [hl]
  refine ord_spec hl hp hq hr (n - 1) 1 1 (Nat.le_refl _) (by omega) (fun j hj => ?_) rfl
  obtain rfl : j = 0 := by omega
  exact hg

end Go.Proofs.YtenomnkdfiojbaaDoor
