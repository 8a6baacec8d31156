/-
  The only ranks: what onlyRanks computes are ranks, and the only ones that can draw the word.
-/
import Derived.Test.YtenomnkdfiojbaaDoorRkC
namespace Go.Proofs.YtenomnkdfiojbaaDoor
open Go.RowKit

/-- These are the numbers from 1 on for each gate, each once. -/
def Rks (xs R : List Int) (n : Nat) : Prop :=
  R.length = n ∧ ∀ i, i < n → 1 ≤ gt R i ∧ gt R i ≤ cnt (fun j => decide (gt xs j = gt xs i)) n ∧ ∀ j, j < n → gt xs j = gt xs i → gt R j = gt R i → j = i

theorem cnt_false {f : Nat → Bool} : ∀ {m : Nat}, (∀ i, i < m → f i = false) → cnt f m = 0
  | 0, _ => rfl
  | m + 1, H => by
    rw [cnt, cnt_false (fun i hi => H i (by omega)), H m (by omega)]
    simp
theorem cnt_one {f h : Nat → Bool} : ∀ {m : Nat}, (∀ i j, i < m → j < m → f i = true → h i = false → f j = true → h j = false → i = j) → cnt f m ≤ cnt h m + 1
  | 0, _ => by simp [cnt]
  | m + 1, H => by
    rw [cnt, cnt]
    have h1 := cnt_one (f := f) (h := h) (m := m) (fun i j hi hj => H i j (by omega) (by omega))
    by_cases hf : f m = true
    · by_cases hh : h m = true
      · rw [if_pos hf, if_pos hh]; omega
      · have hh2 : h m = false := by simpa using hh
        have h2 : cnt f m ≤ cnt h m := cnt_mono (fun i hi hfi => by
          cases hhi : h i with
          | true => rfl
          | false =>
            have := H i m (by omega) (by omega) hfi hhi hf hh2
            omega)
        rw [if_pos hf, if_neg hh]
        omega
    · rw [if_neg hf]
      split <;> omega

theorem rank_count {xs R : List Int} {n : Nat} (h : Rks xs R n) {x : Nat} (hx : x < n) : gt R x = 1 + cnt (fun y => decide (gt xs y = gt xs x) && decide (gt R y < gt R x)) n := by
  obtain ⟨_, h⟩ := h
  have c0 : ∀ k : Nat, cnt (fun y => decide (gt xs y = gt xs x) && decide (gt R y < 1 + ((k + 1 : Nat) : Int))) n ≤ cnt (fun y => decide (gt xs y = gt xs x) && decide (gt R y < 1 + (k : Int))) n + 1 := by
    intro k
    refine cnt_one ?_
    intro i j hi hj fi hhi fj hhj
    simp only [Bool.and_eq_true, decide_eq_true_eq, Bool.and_eq_false_iff, decide_eq_false_iff_not] at fi fj hhi hhj
    obtain ⟨gi, ri⟩ := fi
    obtain ⟨gj, rj⟩ := fj
    have e1 : ¬ gt R i < 1 + (k : Int) := by rcases hhi with q | q; exact absurd gi q; exact q
    have e2 : ¬ gt R j < 1 + (k : Int) := by rcases hhj with q | q; exact absurd gj q; exact q
    exact (h j hj).2.2 i hi (gi.trans gj.symm) (by omega)
  obtain ⟨r1, r2, _⟩ := h x hx
  obtain ⟨m, hm⟩ : ∃ m : Nat, cnt (fun j => decide (gt xs j = gt xs x)) n = m := ⟨_, (Int.toNat_of_nonneg (cnt_nonneg _ _)).symm⟩
  rw [hm] at r2
  have cz : cnt (fun y => decide (gt xs y = gt xs x) && decide (gt R y < 1 + ((0 : Nat) : Int))) n = 0 := by
    refine cnt_false ?_
    intro i hi
    have := (h i hi).1
    simp only [Bool.and_eq_false_iff, decide_eq_false_iff_not]
    exact .inr (by omega)
  have cm : cnt (fun y => decide (gt xs y = gt xs x) && decide (gt R y < 1 + (m : Int))) n = m := by
    rw [← hm]
    refine cnt_congr ?_
    intro i hi
    by_cases e : gt xs i = gt xs x
    · have h1 := (h i hi).2.1
      have h2 : cnt (fun j => decide (gt xs j = gt xs i)) n = cnt (fun j => decide (gt xs j = gt xs x)) n := by rw [e]
      simp only [e, decide_true, Bool.true_and, decide_eq_true_eq]
      rw [h2] at h1
      omega
    · simp [e]
  have up : ∀ k : Nat, cnt (fun y => decide (gt xs y = gt xs x) && decide (gt R y < 1 + (k : Int))) n ≤ k := by
    intro k
    induction k with
    | zero => rw [cz]; exact Int.le_refl _
    | succ k ih => have := c0 k; omega
  have dn : ∀ j k : Nat, cnt (fun y => decide (gt xs y = gt xs x) && decide (gt R y < 1 + ((k + j : Nat) : Int))) n ≤ cnt (fun y => decide (gt xs y = gt xs x) && decide (gt R y < 1 + (k : Int))) n + j := by
    intro j k
    induction j with
    | zero => rw [Nat.add_zero]; omega
    | succ j ih => have := c0 (k + j); rw [← Nat.add_assoc]; omega
  obtain ⟨k, hk⟩ : ∃ k : Nat, gt R x = 1 + (k : Int) := ⟨(gt R x - 1).toNat, by omega⟩
  have h1 := up k
  have h2 := dn (m - k) k
  rw [show k + (m - k) = m by omega, cm] at h2
  rw [hk]
  omega

theorem gate_lt {xs : List Int} {n x y : Nat} (hl : xs.length = n) (hx : x < n) (hy : y < n) (hr : ∀ x, x ∈ xs → 0 ≤ x ∧ x ≤ 40) (hg : gt xs x = gt xs y) (h0 : orderM xs x y ≠ 0) :
    (orderM xs x y = -1 ∧ Rk.Lt n (gt xs) x y) ∨ (orderM xs x y = 1 ∧ Rk.Lt n (gt xs) y x) := by
  rcases order_spec hl hx hy hr hg with ⟨e, _⟩ | h | h
  · exact absurd e h0
  · exact .inl h
  · exact .inr h

/-- All strands part. -/
def Parted (xs : List Int) (n : Nat) : Prop := ∀ a b, b < a → a < n → gt xs a = gt xs b → orderM xs a b ≠ 0

theorem bef_iff {xs : List Int} {n x y : Nat} (hl : xs.length = n) (hP : Parted xs n) (hx : x < n) (hy : y < n) (hr : ∀ x, x ∈ xs → 0 ≤ x ∧ x ≤ 40) :
    bef xs x y = true ↔ gt xs x = gt xs y ∧ y ≠ x ∧ Rk.Lt n (gt xs) y x := by
  unfold bef
  rw [Bool.and_eq_true, decide_eq_true_eq]
  constructor
  · rintro ⟨hg, h⟩
    refine ⟨hg, ?_⟩
    by_cases e : y < x
    · rw [if_pos e, decide_eq_true_eq] at h
      refine ⟨by omega, ?_⟩
      rcases gate_lt hl hx hy hr hg (hP x y e hx hg) with ⟨o, _⟩ | ⟨_, q⟩
      · omega
      · exact q
    · rw [if_neg e] at h
      by_cases e2 : x < y
      · rw [if_pos e2, decide_eq_true_eq] at h
        refine ⟨by omega, ?_⟩
        rcases gate_lt hl hy hx hr hg.symm (hP y x e2 hy hg.symm) with ⟨_, q⟩ | ⟨o, _⟩
        · exact q
        · omega
      · rw [if_neg e2] at h
        cases h
  · rintro ⟨hg, hne, hlt⟩
    refine ⟨hg, ?_⟩
    by_cases e : y < x
    · rw [if_pos e, decide_eq_true_eq]
      rcases gate_lt hl hx hy hr hg (hP x y e hx hg) with ⟨_, q⟩ | ⟨o, _⟩
      · exact absurd (q.trans hlt) Rk.Lt.irrefl
      · exact o
    · rw [if_neg e, if_pos (by omega), decide_eq_true_eq]
      rcases gate_lt hl hy hx hr hg.symm (hP y x (by omega) hy hg.symm) with ⟨o, _⟩ | ⟨_, q⟩
      · exact o
      · exact absurd (q.trans hlt) Rk.Lt.irrefl

theorem gt_getD (r : List Int) (i : Nat) : gt r i = r.getD i 0 := rfl

/-- What onlyRanks computes are ranks. -/
theorem outer_ranks {xs r : List Int} {n : Nat} (hl : xs.length = n) (hr : ∀ x, x ∈ xs → 0 ≤ x ∧ x ≤ 40) (h : outerM xs n = some r) : Rks xs r n := by
  obtain ⟨h1, hP, h3⟩ := outerM_spec hl n r (Nat.le_refl _) h
  have hval : ∀ x, x < n → gt r x = 1 + cnt (bef xs x) n := fun x hx => by rw [gt_getD, h3 x hx, if_pos hx]
  have hstrict : ∀ a b, a < n → b < n → Rk.Lt n (gt xs) a b → a ≠ b → gt r a < gt r b := by
    intro a b ha hb hlt hne
    rw [hval a ha, hval b hb]
    have hg := hlt.gate
    have := cnt_strict (f := bef xs a) (h := bef xs b) (m := n) (fun y hy hf => by
      obtain ⟨g1, n1, l1⟩ := (bef_iff hl hP ha hy hr).1 hf
      refine (bef_iff hl hP hb hy hr).2 ⟨hg.symm.trans g1, ?_, l1.trans hlt⟩
      intro e
      subst e
      exact Rk.Lt.irrefl (l1.trans hlt)) ⟨a, ha, bef_self xs a, (bef_iff hl hP hb ha hr).2 ⟨hg.symm, hne, hlt⟩⟩
    omega
  refine ⟨h1, fun i hi => ⟨?_, ?_, fun j hj hg he => ?_⟩⟩
  · rw [hval i hi]
    have := cnt_nonneg (bef xs i) n
    omega
  · rw [hval i hi]
    have := cnt_strict (f := bef xs i) (h := fun j => decide (gt xs j = gt xs i)) (m := n) (fun y hy hf => by
      rw [decide_eq_true_eq]
      exact ((bef_iff hl hP hi hy hr).1 hf).1.symm) ⟨i, hi, bef_self xs i, by simp⟩
    omega
  · rcases Nat.lt_trichotomy j i with hc | hc | hc
    · rcases gate_lt hl hi hj hr hg.symm (hP i j hc hi hg.symm) with ⟨_, q⟩ | ⟨_, q⟩
      · have := hstrict i j hi hj q (by omega); omega
      · have := hstrict j i hj hi q (by omega); omega
    · exact hc
    · rcases gate_lt hl hj hi hr hg (hP j i hc hj hg) with ⟨_, q⟩ | ⟨_, q⟩
      · have := hstrict j i hj hi q (by omega); omega
      · have := hstrict i j hi hj q (by omega); omega

/-- The positions that ranks give. -/
def posOf (xs R : List Int) (i : Nat) : Int := gt xs i * 401 + gt R i

/-- If a word is drawn by some ranks, its strands part, and onlyRanks finds these ranks. -/
theorem drawn_only {xs R : List Int} {n : Nat} (hl : xs.length = n) (hr : ∀ x, x ∈ xs → 0 ≤ x ∧ x ≤ 40) (hR : Rks xs R n) (D : Rk.Dr n (gt xs) (posOf xs R)) : outerM xs n = some R := by
  have hP : ∀ a b, b < a → a < n → gt xs a = gt xs b → orderM xs a b = -1 ∨ orderM xs a b = 1 := by
    intro a b hb ha hg
    rcases order_spec hl ha (Nat.lt_trans hb ha) hr hg with ⟨_, h⟩ | h | h
    · exact absurd h (D.parts ha (Nat.lt_trans hb ha) (by omega))
    · exact .inl h.1
    · exact .inr h.1
  obtain ⟨r, h⟩ := outerM_some (xs := xs) n hP
  obtain ⟨h1, hP2, h3⟩ := outerM_spec hl n r (Nat.le_refl _) h
  have e : r = R := by
    apply List.ext_getElem?
    intro x
    rcases Nat.lt_or_ge x n with hx | hx
    · have hv : gt r x = gt R x := by
        rw [gt_getD, h3 x hx, if_pos hx, rank_count hR hx]
        congr 1
        refine cnt_congr ?_
        intro y hy
        rw [Bool.eq_iff_iff, bef_iff hl hP2 hx hy hr, Bool.and_eq_true, decide_eq_true_eq, decide_eq_true_eq]
        constructor
        · rintro ⟨hg, hne, hlt⟩
          have := D.lt_pos hy hx hne hlt
          unfold posOf at this
          rw [hg] at this
          exact ⟨hg.symm, by omega⟩
        · rintro ⟨hg, hlt⟩
          have hne : y ≠ x := fun e => by subst e; omega
          refine ⟨hg.symm, hne, ?_⟩
          rcases order_spec hl hy hx hr hg with ⟨_, q⟩ | ⟨_, q⟩ | ⟨_, q⟩
          · exact absurd q (D.parts hy hx hne)
          · exact q
          · have := D.lt_pos hx hy (fun e => hne e.symm) q
            unfold posOf at this
            rw [hg] at this
            omega
      unfold gt at hv
      rw [List.getD_eq_getElem?_getD, List.getD_eq_getElem?_getD, List.getElem?_eq_getElem (by omega), List.getElem?_eq_getElem (by rw [hR.1]; exact hx)] at hv
      rw [List.getElem?_eq_getElem (by omega), List.getElem?_eq_getElem (by rw [hR.1]; exact hx)]
      simpa using hv
    · rw [List.getElem?_eq_none (by omega), List.getElem?_eq_none (by rw [hR.1]; exact hx)]
  rw [h, e]

end Go.Proofs.YtenomnkdfiojbaaDoor
