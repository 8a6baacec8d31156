/-
  The ranks that onlyRanks computes count the letters before; if a word is drawn by some ranks, they are these.
-/
import Derived.Test.YtenomnkdfiojbaaDoorRkO
namespace Go.Proofs.YtenomnkdfiojbaaDoor
open Go.RowKit

/-- How many of the first m numbers have a property. -/
def cnt (f : Nat → Bool) : Nat → Int
  | 0 => 0
  | m + 1 => cnt f m + if f m then 1 else 0
theorem cnt_nonneg (f : Nat → Bool) : ∀ m, 0 ≤ cnt f m
  | 0 => Int.le_refl _
  | m + 1 => by have := cnt_nonneg f m; rw [cnt]; split <;> omega
theorem cnt_mono {f h : Nat → Bool} : ∀ {m : Nat}, (∀ i, i < m → f i = true → h i = true) → cnt f m ≤ cnt h m
  | 0, _ => Int.le_refl _
  | m + 1, H => by
    have h1 := cnt_mono (f := f) (h := h) (m := m) (fun i hi => H i (by omega))
    have h2 := H m (by omega)
    rw [cnt, cnt]
    by_cases hf : f m = true
    · rw [if_pos hf, if_pos (h2 hf)]; omega
    · rw [if_neg hf]; split <;> omega
theorem cnt_congr {f h : Nat → Bool} {m : Nat} (H : ∀ i, i < m → f i = h i) : cnt f m = cnt h m := by
  have h1 := cnt_mono (f := f) (h := h) (m := m) (fun i hi e => by rw [← H i hi]; exact e)
  have h2 := cnt_mono (f := h) (h := f) (m := m) (fun i hi e => by rw [H i hi]; exact e)
  omega
theorem cnt_strict {f h : Nat → Bool} : ∀ {m : Nat}, (∀ i, i < m → f i = true → h i = true) → (∃ i, i < m ∧ f i = false ∧ h i = true) → cnt f m < cnt h m
  | 0, _, ⟨i, hi, _⟩ => by omega
  | m + 1, H, ⟨i, hi, hf, hh⟩ => by
    rw [cnt, cnt]
    by_cases e : i = m
    · subst e
      have h1 := cnt_mono (f := f) (h := h) (m := i) (fun j hj => H j (by omega))
      rw [hf, hh]
      simp only [Bool.false_eq_true, if_false, if_true]
      omega
    · have h1 := cnt_strict (f := f) (h := h) (m := m) (fun j hj => H j (by omega)) ⟨i, by omega, hf, hh⟩
      have h2 := H m (by omega)
      by_cases hm : f m = true
      · rw [if_pos hm, if_pos (h2 hm)]; omega
      · rw [if_neg hm]; split <;> omega

/-- The letter y comes before the letter x of its gate. -/
def bef (xs : List Int) (x y : Nat) : Bool :=
  decide (gt xs x = gt xs y) && (if y < x then decide (orderM xs x y = 1) else if x < y then decide (orderM xs y x = -1) else false)
theorem bef_self (xs : List Int) (x : Nat) : bef xs x x = false := by simp [bef]

theorem getD_set_self {r : List Int} {i : Nat} (hi : i < r.length) (v : Int) : (r.set i v).getD i 0 = v := by
  rw [List.getD_eq_getElem?_getD, List.getElem?_set_self hi]; rfl
theorem getD_set_ne {r : List Int} {i j : Nat} (h : i ≠ j) (v : Int) : (r.set i v).getD j 0 = r.getD j 0 := by
  rw [List.getD_eq_getElem?_getD, List.getElem?_set_ne h, ← List.getD_eq_getElem?_getD]

theorem innerM_spec {xs : List Int} {p n : Nat} {r0 : List Int} (hp : p < n) (h0 : r0.length = n) : ∀ (q : Nat) (r : List Int), q ≤ p → innerM xs p q r0 = some r →
    r.length = n ∧ (∀ b, b < q → gt xs p = gt xs b → orderM xs p b ≠ 0) ∧ ∀ x, x < n → r.getD x 0 = r0.getD x 0 + (if x = p then cnt (bef xs p) q else if x < q ∧ bef xs x p = true then 1 else 0)
  | 0, r, _, h => by
    injection h with h
    subst h
    refine ⟨h0, fun b hb => by omega, fun x _ => ?_⟩
    split
    · simp [cnt]
    · rw [if_neg (by omega)]; omega
  | q + 1, r, hq, h => by
    rw [innerM] at h
    cases hi : innerM xs p q r0 with
    | none => rw [hi] at h; cases h
    | some r' =>
      rw [hi, Option.bind_some] at h
      obtain ⟨l1, l2, l3⟩ := innerM_spec hp h0 q r' (by omega) hi
      have hbq : bef xs p q = (decide (gt xs p = gt xs q) && decide (orderM xs p q = 1)) := by unfold bef; rw [if_pos (by omega)]
      have hbp : bef xs q p = (decide (gt xs q = gt xs p) && decide (orderM xs p q = -1)) := by unfold bef; rw [if_neg (by omega), if_pos (by omega)]
      by_cases hg : xs.getD p 0 = xs.getD q 0
      · rw [if_pos hg] at h
        have hg1 : gt xs p = gt xs q := hg
        by_cases o1 : orderM xs p q = -1
        · rw [if_pos o1] at h
          injection h with h
          subst h
          refine ⟨by rw [List.length_set]; exact l1, fun b hb hgb => ?_, fun x hx => ?_⟩
          · by_cases e : b = q
            · subst e; omega
            · exact l2 b (by omega) hgb
          · have hbq2 : bef xs p q = false := by rw [hbq, o1]; simp
            have hbp2 : bef xs q p = true := by rw [hbp, o1]; simp [hg1]
            by_cases e : x = q
            · subst e
              rw [getD_set_self (by omega), l3 x hx, if_neg (by omega), if_neg (by omega), if_neg (by omega), if_pos ⟨by omega, hbp2⟩]
              omega
            · rw [getD_set_ne (fun c => e c.symm), l3 x hx]
              by_cases e2 : x = p
              · rw [if_pos e2, if_pos e2, cnt, hbq2]; simp
              · rw [if_neg e2, if_neg e2]
                by_cases e3 : x < q ∧ bef xs x p = true
                · rw [if_pos e3, if_pos ⟨by omega, e3.2⟩]
                · rw [if_neg e3, if_neg (fun c => e3 ⟨by omega, c.2⟩)]
        · rw [if_neg o1] at h
          by_cases o2 : orderM xs p q = 1
          · rw [if_pos o2] at h
            injection h with h
            subst h
            have hbq2 : bef xs p q = true := by rw [hbq, o2]; simp [hg1]
            have hbp2 : bef xs q p = false := by rw [hbp, o2]; simp
            refine ⟨by rw [List.length_set]; exact l1, fun b hb hgb => ?_, fun x hx => ?_⟩
            · by_cases e : b = q
              · subst e; omega
              · exact l2 b (by omega) hgb
            · by_cases e2 : x = p
              · subst e2
                rw [getD_set_self (by omega), l3 x hx, if_pos rfl, if_pos rfl, cnt, hbq2]
                simp only [if_true]
                omega
              · rw [getD_set_ne (fun c => e2 c.symm), l3 x hx, if_neg e2, if_neg e2]
                by_cases e3 : x < q ∧ bef xs x p = true
                · rw [if_pos e3, if_pos ⟨by omega, e3.2⟩]
                · rw [if_neg e3, if_neg (fun c => by
                    by_cases e : x = q
                    · subst e; rw [hbp2] at c; exact absurd c.2 (by simp)
                    · exact e3 ⟨by omega, c.2⟩)]
          · rw [if_neg o2] at h
            cases h
      · rw [if_neg hg] at h
        injection h with h
        subst h
        have hg1 : ¬ gt xs p = gt xs q := hg
        have hbq2 : bef xs p q = false := by rw [hbq]; simp [hg1]
        have hbp2 : bef xs q p = false := by
          have hc : ¬ gt xs q = gt xs p := fun c => hg1 c.symm
          rw [hbp]; simp [hc]
        refine ⟨l1, fun b hb hgb => ?_, fun x hx => ?_⟩
        · by_cases e : b = q
          · subst e; exact absurd hgb hg1
          · exact l2 b (by omega) hgb
        · rw [l3 x hx]
          by_cases e2 : x = p
          · rw [if_pos e2, if_pos e2, cnt, hbq2]; simp
          · rw [if_neg e2, if_neg e2]
            by_cases e3 : x < q ∧ bef xs x p = true
            · rw [if_pos e3, if_pos ⟨by omega, e3.2⟩]
            · rw [if_neg e3, if_neg (fun c => by
                by_cases e : x = q
                · subst e; rw [hbp2] at c; exact absurd c.2 (by simp)
                · exact e3 ⟨by omega, c.2⟩)]

theorem outerM_spec {xs : List Int} {n : Nat} (hl : xs.length = n) : ∀ (p : Nat) (r : List Int), p ≤ n → outerM xs p = some r →
    r.length = n ∧ (∀ a b, b < a → a < p → gt xs a = gt xs b → orderM xs a b ≠ 0) ∧ ∀ x, x < n → r.getD x 0 = if x < p then 1 + cnt (bef xs x) p else 0
  | 0, r, _, h => by
    injection h with h
    subst h
    refine ⟨by rw [List.length_replicate, hl], fun a b _ ha => by omega, fun x hx => ?_⟩
    rw [if_neg (by omega), List.getD_eq_getElem?_getD, List.getElem?_replicate, if_pos (by omega)]
    rfl
  | p + 1, r, hp, h => by
    rw [outerM] at h
    cases hi : outerM xs p with
    | none => rw [hi] at h; cases h
    | some r1 =>
      rw [hi, Option.bind_some] at h
      obtain ⟨l1, l2, l3⟩ := outerM_spec hl p r1 (by omega) hi
      obtain ⟨k1, k2, k3⟩ := innerM_spec (n := n) (by omega) (by rw [List.length_set]; exact l1) p r (Nat.le_refl _) h
      refine ⟨k1, fun a b hb ha hg => ?_, fun x hx => ?_⟩
      · by_cases e : a = p
        · subst e; exact k2 b hb hg
        · exact l2 a b hb (by omega) hg
      · rw [k3 x hx]
        by_cases e : x = p
        · subst e
          rw [if_pos rfl, if_pos (by omega), getD_set_self (by omega), l3 x hx, if_neg (by omega), cnt, bef_self]
          simp
        · rw [if_neg e, getD_set_ne (fun c => e c.symm), l3 x hx, cnt]
          by_cases e2 : x < p
          · rw [if_pos e2, if_pos (show x < p + 1 by omega)]
            by_cases e3 : bef xs x p = true
            · rw [if_pos ⟨e2, e3⟩, if_pos e3]; omega
            · rw [if_neg (fun c => e3 c.2), if_neg e3]; omega
          · rw [if_neg e2, if_neg (show ¬ (x < p ∧ bef xs x p = true) from fun c => e2 c.1), if_neg (show ¬ x < p + 1 by omega)]
            rfl

theorem innerM_some {xs : List Int} {p : Nat} {r0 : List Int} : ∀ (q : Nat), (∀ b, b < q → gt xs p = gt xs b → orderM xs p b = -1 ∨ orderM xs p b = 1) → ∃ r, innerM xs p q r0 = some r
  | 0, _ => ⟨r0, rfl⟩
  | q + 1, h => by
    obtain ⟨r, hr⟩ := innerM_some (xs := xs) (p := p) (r0 := r0) q (fun b hb => h b (by omega))
    rw [innerM, hr, Option.bind_some]
    by_cases hg : xs.getD p 0 = xs.getD q 0
    · rw [if_pos hg]
      rcases h q (by omega) hg with o | o
      · rw [if_pos o]; exact ⟨_, rfl⟩
      · rw [if_neg (by omega), if_pos o]; exact ⟨_, rfl⟩
    · rw [if_neg hg]; exact ⟨_, rfl⟩
theorem outerM_some {xs : List Int} : ∀ (p : Nat), (∀ a b, b < a → a < p → gt xs a = gt xs b → orderM xs a b = -1 ∨ orderM xs a b = 1) → ∃ r, outerM xs p = some r
  | 0, _ => ⟨_, rfl⟩
  | p + 1, h => by
    obtain ⟨r, hr⟩ := outerM_some (xs := xs) p (fun a b hb ha => h a b hb (by omega))
    rw [outerM, hr, Option.bind_some]
    exact innerM_some p (fun b hb => h p b hb (by omega))

end Go.Proofs.YtenomnkdfiojbaaDoor
