/-
  What a valid code keeps to (pure; out of PureN).
-/
import Derived.Test.YtbbpockkafbfmaaDoorAxM
import Derived.Test.YtbbpockkafbfmaaDoorForget2
namespace Go.Proofs.YtbbpockkafbfmaaDoor
open Go.RowKit

theorem checkE_parts {f : Int} {ls : List Lt} (h : checkE f ls = 0) : closedB ls = true ∧ ∃ st, ordM ls (numP f ls) ls.length ls.length = some st := by
  unfold checkE at h
  split at h
  · cases h
  · split at h
    · cases h
    · split at h
      · cases h
      · rename_i hc
        split at h
        · cases h
        · split at h
          · cases h
          · rename_i st ho
            exact ⟨by simpa using hc, st, ho⟩
theorem checkE_rank {f : Int} {ls : List Lt} (h : checkE f ls = 0) : ∀ l, l ∈ ls → l.kind = 1 → (0 ≤ l.gate ∧ l.gate ≤ 1000) ∧ 0 ≤ l.rank ∧ l.rank ≤ 1000000 := by
  obtain ⟨z1, z2, z3⟩ := checkE_zero h
  obtain ⟨_, st, ho⟩ := checkE_parts h
  intro l hl hk
  have hq := (ord_fine z3 ho l hl hk).1
  unfold passOk at hq
  have e2 := cntB_take_le (inGate l.gate) ls ls.length
  rw [List.take_of_length_le (Nat.le_refl _)] at e2
  omega
theorem checkE_all {f : Int} {ls : List Lt} (h : checkE f ls = 0) : shortB ls = true ∧ (0 ≤ f ∧ f ≤ 40) ∧ closedB ls = true ∧ (∀ l, l ∈ ls → plainL f l) ∧ ∃ st pt, ordM ls (numP f ls) ls.length ls.length = some st ∧ pairM ls (cntK 2 ls / 2) ls.length ls.length = some pt ∧ flatB (dmOf f ls st pt) = true := by
  unfold checkE at h
  split at h
  · cases h
  · rename_i h1
    split at h
    · cases h
    · rename_i h2
      split at h
      · cases h
      · rename_i h3
        split at h
        · cases h
        · rename_i h4
          split at h
          · cases h
          · rename_i st ho
            split at h
            · cases h
            · rename_i pt hq
              split at h
              · rename_i hf
                exact ⟨by simpa using h1, Classical.byContradiction h2, by simpa using h3, Classical.byContradiction h4, st, pt, ho, hq, hf⟩
              · cases h
theorem checkE_make {f : Int} {ls : List Lt} (h1 : shortB ls = true) (h2 : 0 ≤ f ∧ f ≤ 40) (h3 : closedB ls = true) (h4 : ∀ l, l ∈ ls → plainL f l) {st : OrdS} {pt : PairS} (ho : ordM ls (numP f ls) ls.length ls.length = some st) (hq : pairM ls (cntK 2 ls / 2) ls.length ls.length = some pt) (hf : flatB (dmOf f ls st pt) = true) : checkE f ls = 0 := by
  unfold checkE
  rw [if_neg (by rw [h1]; simp), if_neg (fun c => c h2), if_neg (by rw [h3]; simp), if_neg (fun c => c h4)]
  simp only [ho, hq, hf, if_true]
theorem cntK_cntB (k : Int) (ls : List Lt) : cntK k ls = cntB (fun l => decide (l.kind = k)) ls := rfl

end Go.Proofs.YtbbpockkafbfmaaDoor
