/-
  Lists of letters from one of them on, and what a valid code keeps to (pure).
-/
import Derived.Test.YtjdabkniojmacaaDoorFollow
import Derived.Test.YtjdabkniojmacaaDoorAxM
namespace Go.Proofs.YtjdabkniojmacaaDoor
open Go.RowKit

theorem stepM_pos {n R j : Nat} (hR : R < n) (hj : j < n) : stepM n (R : Int) 1 j = if R + j < n then R + j else R + j - n := by
  unfold stepM
  rw [Int.add_emod_right]
  split
  · rw [Int.emod_eq_of_lt (by omega) (by omega)]; omega
  · rw [show (R : Int) + 1 * (j : Int) = ((R : Int) + j - n) + n by omega, Int.add_emod_right, Int.emod_eq_of_lt (by omega) (by omega)]; omega
theorem stepM_neg {n R j : Nat} (hR : R < n) (hj : j < n) : stepM n (R : Int) (-1) j = if j ≤ R then R - j else R + n - j := by
  unfold stepM
  split
  · rw [Int.add_emod_right, Int.emod_eq_of_lt (by omega) (by omega)]; omega
  · rw [Int.emod_eq_of_lt (by omega) (by omega)]; omega
theorem followL_get {ls : List Lt} {first step : Int} {j : Nat} (hj : j < ls.length) : (followL ls first step)[j]? = ls[stepM ls.length first step j]? := by
  have h1 := stepM_lt (n := ls.length) (by omega) first step j
  rw [List.getElem?_eq_getElem h1]
  exact followL_at hj (List.getElem?_eq_getElem h1)
theorem rot_follow {ls : List Lt} {R : Nat} (hR : R < ls.length) : ls.drop R ++ ls.take R = followL ls (R : Int) 1 := by
  apply List.ext_getElem?
  intro j
  by_cases hj : j < ls.length
  · rw [followL_get hj, stepM_pos hR hj]
    by_cases h : R + j < ls.length
    · rw [if_pos h, List.getElem?_append_left (by rw [List.length_drop]; omega), List.getElem?_drop]
    · rw [if_neg h, List.getElem?_append_right (by rw [List.length_drop]; omega), List.length_drop, List.getElem?_take, if_pos (by omega)]
      congr 1
      omega
  · rw [List.getElem?_eq_none (by simp; omega), List.getElem?_eq_none (by rw [followL_len]; omega)]
theorem back_follow {ls : List Lt} {R : Nat} (hR : R < ls.length) : ls.reverse.drop (ls.length - 1 - R) ++ ls.reverse.take (ls.length - 1 - R) = followL ls (R : Int) (-1) := by
  apply List.ext_getElem?
  intro j
  by_cases hj : j < ls.length
  · rw [followL_get hj, stepM_neg hR hj]
    by_cases h : j ≤ R
    · rw [if_pos h, List.getElem?_append_left (by rw [List.length_drop, List.length_reverse]; omega), List.getElem?_drop, List.getElem?_reverse (by omega)]
      congr 1
      omega
    · rw [if_neg h, List.getElem?_append_right (by rw [List.length_drop, List.length_reverse]; omega), List.length_drop, List.length_reverse, List.getElem?_take, if_pos (by omega), List.getElem?_reverse (by omega)]
      congr 1
      omega
  · rw [List.getElem?_eq_none (by simp; omega), List.getElem?_eq_none (by rw [followL_len]; omega)]

theorem last_down {ls : List Lt} {R : Nat} (hev : cntB isPass ls % 2 = 0) (hR : R < ls.length) (hp : ∀ l, ls[R]? = some l → l.kind = 1) (hno : ∀ k l, R < k → ls[k]? = some l → l.kind ≠ 1) : downB ls R = false := by
  obtain ⟨l, hl⟩ : ∃ l, ls[R]? = some l := ⟨_, List.getElem?_eq_getElem hR⟩
  have h1 := cntB_succ (p := isPass) hl
  rw [if_pos (by simp [isPass, hp l hl])] at h1
  have h2 : cntB isPass ls = cntB isPass (ls.take (R + 1)) := by
    have hd : (ls.drop (R + 1)).filter isPass = [] := by
      rw [List.filter_eq_nil_iff]
      intro x hx hxp
      obtain ⟨i, hi⟩ := List.getElem?_of_mem hx
      rw [List.getElem?_drop] at hi
      exact hno _ x (by omega) hi (by simpa [isPass] using hxp)
    unfold cntB
    have e : ls.filter isPass = (ls.take (R + 1)).filter isPass ++ (ls.drop (R + 1)).filter isPass := by
      rw [← List.filter_append, List.take_append_drop]
    rw [e, hd, List.append_nil]
  unfold downB
  rw [decide_eq_false_iff_not]
  omega
theorem second_down {ls : List Lt} {R : Nat} (h0 : ∃ l, ls[0]? = some l ∧ l.kind = 1) (hR1 : 1 ≤ R) (hR : R < ls.length) (hno : ∀ k l, 1 ≤ k → k < R → ls[k]? = some l → l.kind ≠ 1) : downB ls R = false := by
  have h : ∀ t, t + 1 ≤ R → cntB isPass (ls.take (t + 1)) = 1 := by
    intro t
    induction t with
    | zero =>
      intro _
      obtain ⟨l, hl, hk⟩ := h0
      have h1 := cntB_succ (p := isPass) hl
      rw [if_pos (by simp [isPass, hk])] at h1
      rw [h1]
      simp [cntB]
    | succ t ih =>
      intro ht
      obtain ⟨l, hl⟩ : ∃ l, ls[t + 1]? = some l := ⟨_, List.getElem?_eq_getElem (by omega)⟩
      have h1 := cntB_succ (p := isPass) hl
      rw [if_neg (by simp [isPass, hno (t + 1) l (by omega) (by omega) hl])] at h1
      rw [h1, ih (by omega)]
      rfl
  have h1 := h (R - 1) (by omega)
  rw [show R - 1 + 1 = R by omega] at h1
  unfold downB
  rw [h1]
  rfl
theorem checkE_parts {f : Int} {ls : List Lt} (h : checkE f ls = 0) : closedB ls = true ∧ ∃ st, ordM ls (numP f ls) ls.length ls.length = some st := by
  unfold checkE at h
  split at h
  · cases h
  · split at h
    · cases h
    · split at h
      · cases h
      · rename_i hc
        split at h
        · cases h
        · split at h
          · cases h
          · rename_i st ho
            exact ⟨by simpa using hc, st, ho⟩
theorem checkE_rank {f : Int} {ls : List Lt} (h : checkE f ls = 0) : ∀ l, l ∈ ls → l.kind = 1 → (0 ≤ l.gate ∧ l.gate ≤ 1000) ∧ 0 ≤ l.rank ∧ l.rank ≤ 1000000 := by
  obtain ⟨z1, z2, z3⟩ := checkE_zero h
  obtain ⟨_, st, ho⟩ := checkE_parts h
  intro l hl hk
  have hq := (ord_fine z3 ho l hl hk).1
  unfold passOk at hq
  have e2 := cntB_take_le (inGate l.gate) ls ls.length
  rw [List.take_of_length_le (Nat.le_refl _)] at e2
  omega
theorem checkE_all {f : Int} {ls : List Lt} (h : checkE f ls = 0) : shortB ls = true ∧ (0 ≤ f ∧ f ≤ 40) ∧ closedB ls = true ∧ (∀ l, l ∈ ls → plainL f l) ∧ ∃ st pt, ordM ls (numP f ls) ls.length ls.length = some st ∧ pairM ls (cntK 2 ls / 2) ls.length ls.length = some pt ∧ flatB (dmOf f ls st pt) = true := by
  unfold checkE at h
  split at h
  · cases h
  · rename_i h1
    split at h
    · cases h
    · rename_i h2
      split at h
      · cases h
      · rename_i h3
        split at h
        · cases h
        · rename_i h4
          split at h
          · cases h
          · rename_i st ho
            split at h
            · cases h
            · rename_i pt hq
              split at h
              · rename_i hf
                exact ⟨by simpa using h1, Classical.byContradiction h2, by simpa using h3, Classical.byContradiction h4, st, pt, ho, hq, hf⟩
              · cases h
theorem checkE_make {f : Int} {ls : List Lt} (h1 : shortB ls = true) (h2 : 0 ≤ f ∧ f ≤ 40) (h3 : closedB ls = true) (h4 : ∀ l, l ∈ ls → plainL f l) {st : OrdS} {pt : PairS} (ho : ordM ls (numP f ls) ls.length ls.length = some st) (hq : pairM ls (cntK 2 ls / 2) ls.length ls.length = some pt) (hf : flatB (dmOf f ls st pt) = true) : checkE f ls = 0 := by
  unfold checkE
  rw [if_neg (by rw [h1]; simp), if_neg (fun c => c h2), if_neg (by rw [h3]; simp), if_neg (fun c => c h4)]
  simp only [ho, hq, hf, if_true]
theorem cntK_cntB (k : Int) (ls : List Lt) : cntK k ls = cntB (fun l => decide (l.kind = k)) ls := rfl
theorem cntB_follow {p : Lt → Bool} {ls : List Lt} {R : Nat} {step : Int} (hR : R < ls.length) (hs : step = 1 ∨ step = -1) : cntB p (followL ls (R : Int) step) = cntB p ls := by
  rcases hs with rfl | rfl
  · rw [← rot_follow hR]
    unfold cntB
    rw [List.filter_append, List.length_append, Nat.add_comm, ← List.length_append, ← List.filter_append, List.take_append_drop]
  · rw [← back_follow hR]
    unfold cntB
    rw [List.filter_append, List.length_append, Nat.add_comm, ← List.length_append, ← List.filter_append, List.take_append_drop, List.filter_reverse, List.length_reverse]
theorem follow_mem {ls : List Lt} {R : Nat} {step : Int} (hR : R < ls.length) (hs : step = 1 ∨ step = -1) {l : Lt} : l ∈ followL ls (R : Int) step ↔ l ∈ ls := by
  rcases hs with rfl | rfl
  · rw [← rot_follow hR, List.mem_append, or_comm, ← List.mem_append, List.take_append_drop]
  · rw [← back_follow hR, List.mem_append, or_comm, ← List.mem_append, List.take_append_drop, List.mem_reverse]

end Go.Proofs.YtjdabkniojmacaaDoor
