/-
  Valid codes' parts, and which way a followed code's passes go (pure; out of NormP).
-/
import Derived.Test.YtjdabkniojmacaaDoorPureN

namespace Go.Proofs.YtjdabkniojmacaaDoor
open Go.RowKit

theorem downB_zero (ls : List Lt) : downB ls 0 = true := by simp [downB, cntB]
theorem downB_succ {ls : List Lt} {j : Nat} {l : Lt} (h : ls[j]? = some l) : downB ls (j + 1) = (downB ls j != isPass l) := by
  have h1 := cntB_succ (p := isPass) h
  have h2 := cntB_nonneg isPass (ls.take j)
  unfold downB
  rw [h1]
  cases hp : isPass l
  · simp
  · by_cases e : cntB isPass (ls.take j) % 2 = 0
    · have : ¬ (cntB isPass (ls.take j) + 1) % 2 = 0 := by omega
      simp [e, this]
    · have : (cntB isPass (ls.take j) + 1) % 2 = 0 := by omega
      simp [e, this]
theorem downB_len {ls : List Lt} (hev : cntB isPass ls % 2 = 0) : downB ls ls.length = true := by
  unfold downB
  rw [List.take_length, hev]
  rfl
/-- Where one begins at a pass that goes down, the directions stay. -/
theorem downB_follow {ls : List Lt} {R : Nat} (hev : cntB isPass ls % 2 = 0) (hR : R < ls.length) (hd : downB ls R = true) : ∀ i, i < ls.length → downB (followL ls (R : Int) 1) i = downB ls (stepM ls.length (R : Int) 1 i)
  | 0, _ => by rw [downB_zero, stepM_pos hR (by omega), if_pos (by omega), Nat.add_zero, hd]
  | i + 1, hi => by
    have ih := downB_follow hev hR hd i (by omega)
    have hq := stepM_lt (n := ls.length) (by omega) (R : Int) 1 i
    obtain ⟨l, hl⟩ : ∃ l, ls[stepM ls.length (R : Int) 1 i]? = some l := ⟨_, List.getElem?_eq_getElem hq⟩
    have hx := followL_at (first := (R : Int)) (step := 1) (show i < ls.length by omega) hl
    rw [downB_succ hx, ih, ← downB_succ hl]
    by_cases hw : stepM ls.length (R : Int) 1 i + 1 < ls.length
    · congr 1
      rw [stepM_pos hR (by omega)] at hw ⊢
      rw [stepM_pos hR hi]
      split at hw <;> split <;> split <;> omega
    · have e1 : stepM ls.length (R : Int) 1 i + 1 = ls.length := by omega
      have e2 : stepM ls.length (R : Int) 1 (i + 1) = 0 := by
        rw [stepM_pos hR (by omega)] at e1
        rw [stepM_pos hR hi]
        split at e1 <;> split <;> omega
      rw [e1, e2, downB_len hev, downB_zero]
/-- .. at a pass that goes up, backwards: the direction is that behind the letter. -/
theorem downB_back {ls : List Lt} {R : Nat} (hev : cntB isPass ls % 2 = 0) (hR : R < ls.length) (hd : downB ls (R + 1) = true) : ∀ i, i < ls.length → downB (followL ls (R : Int) (-1)) i = downB ls (stepM ls.length (R : Int) (-1) i + 1)
  | 0, _ => by rw [downB_zero, stepM_neg hR (by omega), if_pos (by omega), Nat.sub_zero, hd]
  | i + 1, hi => by
    have ih := downB_back hev hR hd i (by omega)
    have hq := stepM_lt (n := ls.length) (by omega) (R : Int) (-1) i
    obtain ⟨l, hl⟩ : ∃ l, ls[stepM ls.length (R : Int) (-1) i]? = some l := ⟨_, List.getElem?_eq_getElem hq⟩
    have hx := followL_at (first := (R : Int)) (step := -1) (show i < ls.length by omega) hl
    have hb : ∀ a b : Bool, ((a != b) != b) = a := by decide
    rw [downB_succ hx, ih, downB_succ hl, hb]
    by_cases hw : 0 < stepM ls.length (R : Int) (-1) i
    · congr 1
      rw [stepM_neg hR (by omega)] at hw ⊢
      rw [stepM_neg hR hi]
      split at hw <;> split <;> (try split) <;> omega
    · have e1 : stepM ls.length (R : Int) (-1) i = 0 := by omega
      have e2 : stepM ls.length (R : Int) (-1) (i + 1) + 1 = ls.length := by
        rw [stepM_neg hR (by omega)] at e1
        rw [stepM_neg hR hi]
        split at e1 <;> split <;> omega
      rw [e1, e2, downB_len hev, downB_zero]
theorem follow_back {ls : List Lt} {R i : Nat} (hR : R < ls.length) (hi : i < ls.length) : followL (followL ls (R : Int) (-1)) (i : Int) 1 = followL ls ((stepM ls.length (R : Int) (-1) i : Nat) : Int) (-1) := by
  have hq := stepM_lt (n := ls.length) (by omega) (R : Int) (-1) i
  apply List.ext_getElem?
  intro j
  by_cases hj : j < ls.length
  · have hs := stepM_lt (n := ls.length) (by omega) (i : Int) 1 j
    rw [followL_get (by rw [followL_len]; exact hj), followL_len, followL_get hs, followL_get hj]
    congr 1
    rw [stepM_neg hR hs, stepM_neg hq hj, stepM_neg hR hi, stepM_pos hi hj]
    split <;> split <;> split <;> (try split) <;> omega
  · rw [List.getElem?_eq_none (by simp only [followL_len]; omega), List.getElem?_eq_none (by rw [followL_len]; omega)]
theorem followL_zero (ls : List Lt) : followL ls ((0 : Nat) : Int) 1 = ls := by
  by_cases h0 : 0 < ls.length
  · apply List.ext_getElem?
    intro j
    by_cases hj : j < ls.length
    · rw [followL_get hj, stepM_pos h0 hj, if_pos (by omega), Nat.zero_add]
    · rw [List.getElem?_eq_none (by rw [followL_len]; omega), List.getElem?_eq_none (by omega)]
  · have e : ls = [] := List.eq_nil_of_length_eq_zero (by omega)
    subst e
    rfl
theorem closed_first' {ls : List Lt} (h : closedB ls = true) (h0 : 0 < ls.length) : ∃ l, ls[0]? = some l ∧ l.kind = 1 ∧ cntB isPass ls % 2 = 0 := by
  cases ls with
  | nil => simp at h0
  | cons a r =>
    unfold closedB at h
    simp [isPass] at h
    exact ⟨a, rfl, h.1, by simpa [isPass] using h.2⟩
/-- What a valid code keeps to, as one. -/
structure ValidC (f : Int) (ls : List Lt) (st : OrdS) (pt : PairS) : Prop where
  len : ls.length ≤ 400
  fin : 0 ≤ f ∧ f ≤ 40
  closed : closedB ls = true
  plain : ∀ l, l ∈ ls → plainL f l
  ord : ordM ls (numP f ls) ls.length ls.length = some st
  pair : pairM ls (cntK 2 ls / 2) ls.length ls.length = some pt
theorem valid_parts {f : Int} {ls : List Lt} (h : checkE f ls = 0) : ∃ st pt, ValidC f ls st pt := by
  obtain ⟨h1, h2, h3, h4, st, pt, ho, hq, _⟩ := checkE_all h
  exact ⟨st, pt, (checkE_zero h).1, h2, h3, h4, ho, hq⟩
theorem ValidC.good {f : Int} {ls : List Lt} {st : OrdS} {pt : PairS} (h : checkE f ls = 0) (V : ValidC f ls st pt) (h0 : 0 < ls.length) : (dmOf f ls st pt).good := by
  obtain ⟨h1, _⟩ := checkE_all h
  exact dmOf_good h1 V.fin V.closed V.plain h0 V.ord V.pair

theorem ValidC.ids {f : Int} {ls : List Lt} {st : OrdS} {pt : PairS} (V : ValidC f ls st pt) : ∀ (q : Nat) (step : Int), q < ls.length → (step = 1 ∨ step = -1) → ∀ l, l ∈ followL ls (q : Int) step → l.kind = 2 → 0 ≤ l.id ∧ l.id ≤ cntK 2 (followL ls (q : Int) step) / 2 := by
  intro q step hq hs l hl hk
  have h1 := pair_fine V.pair l ((follow_mem hq hs).1 hl) hk
  rw [cntK_cntB, cntB_follow hq hs, ← cntK_cntB]
  omega
theorem ValidC.ids0 {f : Int} {ls : List Lt} {st : OrdS} {pt : PairS} (V : ValidC f ls st pt) : ∀ l, l ∈ ls → l.kind = 2 → 0 ≤ l.id ∧ l.id ≤ cntK 2 ls / 2 := by
  intro l hl hk
  have h1 := pair_fine V.pair l hl hk
  omega


end Go.Proofs.YtjdabkniojmacaaDoor
