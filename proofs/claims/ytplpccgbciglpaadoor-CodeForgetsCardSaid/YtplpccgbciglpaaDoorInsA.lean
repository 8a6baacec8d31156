/-
  The walk of Insert of codes: the change of a letter.
-/
import Derived.Test.YtplpccgbciglpaaDoorEarlyA
namespace Go.Proofs.YtplpccgbciglpaaDoor
open Go.RowKit

/-- A letter when a finger is put at the place g.v. -/
def insL (g v : Int) (l : Lt) : Lt := if l.kind = 1 ∧ (g < l.gate ∨ l.gate = g ∧ v < l.rank) then ⟨l.kind, l.gate + 1, if l.gate = g then l.rank - v else l.rank, l.id, l.sign, l.over⟩ else l

set_option maxHeartbeats 4000000 in
theorem insert1_calls (g v : Int) (pp : Nat) (l : Lt) (w : World) (hg : 0 ≤ g ∧ g ≤ 1000) (hv : 0 ≤ v ∧ v ≤ 1000000) (hpp : w.heap[pp]? = some (.cells #[.int .i64 g, .int .i64 v] 41 (0, 0)))
    (hl : l.kind = 1 → (0 ≤ l.gate ∧ l.gate ≤ 1000000) ∧ 0 ≤ l.rank ∧ l.rank ≤ 1000000) :
    Calls Tryd.prog 50 #[l.val, .pointer (some ⟨pp, 0, none⟩)] w fun e w' => e = .returned (insL g v l).val ∧ Below w.heap.size w w' := by
  have hp0 := Lib.cell_of_heap hpp 0
  have hp1 := Lib.cell_of_heap hpp 1
  have hpl : pp < w.heap.size := by
    rcases Nat.lt_or_ge pp w.heap.size with q | q
    · exact q
    · rw [Array.getElem?_eq_none q] at hpp; cases hpp
  have hne1 : pp ≠ w.heap.size := by omega
  have hne2 : pp ≠ w.heap.size + 1 := by omega
  clear hpp
  by_cases hk : l.kind = 1
  · obtain ⟨⟨hg0, hg1⟩, hr0, hr1⟩ := hl hk
    have hke : (l.kind == 1) = true := by rw [beq_iff_eq]; exact hk
    have hkn : (l.kind != 1) = false := by simp [hk]
    by_cases h1 : l.gate < g
    · have d1 : decide (l.gate < g) = true := decide_eq_true h1
      have HE : Hid (insL g v l = l) := by unfold Hid insL; rw [if_neg (fun c => by omega)]
      rw [HE.out]
      unfold Lt.val
      clear hk hl h1
      go_enter Tryd.func50, Tryd.ntmps50
      go_wp2_with fail
      refine bodyPost_ret (v := Lt.val l) (by simp [results, Tryd.results50, go_sem, Lt.val]) rfl ⟨rfl, ?_⟩
      repeat first
        | exact Below.refl _ _
        | refine Below.drew ?_
        | refine Below.setCell ?_ (by simp) _
        | refine Below.alloc ?_ (by simp) _
    · have d1 : decide (l.gate < g) = false := decide_eq_false h1
      by_cases h2 : l.gate = g
      · have d2 : (l.gate == g) = true := by rw [beq_iff_eq]; exact h2
        by_cases h3 : l.rank ≤ v
        · have d3 : decide (l.rank ≤ v) = true := decide_eq_true h3
          have HE : Hid (insL g v l = l) := by unfold Hid insL; rw [if_neg (fun c => by omega)]
          rw [HE.out]
          unfold Lt.val
          clear hk hl h1 h2 h3
          go_enter Tryd.func50, Tryd.ntmps50
          go_wp2_with fail
          refine bodyPost_ret (v := Lt.val l) (by simp [results, Tryd.results50, go_sem, Lt.val]) rfl ⟨rfl, ?_⟩
          repeat first
            | exact Below.refl _ _
            | refine Below.drew ?_
            | refine Below.setCell ?_ (by simp) _
            | refine Below.alloc ?_ (by simp) _
        · have d3 : decide (l.rank ≤ v) = false := decide_eq_false h3
          have HE : Hid (insL g v l = ⟨l.kind, l.gate + 1, l.rank - v, l.id, l.sign, l.over⟩) := by unfold Hid insL; rw [if_pos ⟨hk, .inr ⟨h2, by omega⟩⟩, if_pos h2]
          rw [HE.out]
          have u1 : IntKind.i64.wrap (l.rank - v) = l.rank - v := wrapI (by omega) (by omega)
          have u2 : IntKind.i64.wrap (l.gate + 1) = l.gate + 1 := wrapI (by omega) (by omega)
          unfold Lt.val
          clear hk hl h1 h2 h3
          go_enter Tryd.func50, Tryd.ntmps50
          go_wp2_with fail
          refine bodyPost_ret (v := Lt.val ⟨l.kind, l.gate + 1, l.rank - v, l.id, l.sign, l.over⟩) (by simp [results, Tryd.results50, go_sem, Lt.val]) rfl ⟨rfl, ?_⟩
          repeat first
            | exact Below.refl _ _
            | refine Below.drew ?_
            | refine Below.setCell ?_ (by simp) _
            | refine Below.alloc ?_ (by simp) _
      · have d2 : (l.gate == g) = false := by rw [beq_eq_false_iff_ne]; exact h2
        have HE : Hid (insL g v l = ⟨l.kind, l.gate + 1, l.rank, l.id, l.sign, l.over⟩) := by unfold Hid insL; rw [if_pos ⟨hk, .inl (by omega)⟩, if_neg h2]
        rw [HE.out]
        have u2 : IntKind.i64.wrap (l.gate + 1) = l.gate + 1 := wrapI (by omega) (by omega)
        unfold Lt.val
        clear hk hl h1 h2
        go_enter Tryd.func50, Tryd.ntmps50
        go_wp2_with fail
        refine bodyPost_ret (v := Lt.val ⟨l.kind, l.gate + 1, l.rank, l.id, l.sign, l.over⟩) (by simp [results, Tryd.results50, go_sem, Lt.val]) rfl ⟨rfl, ?_⟩
        repeat first
          | exact Below.refl _ _
          | refine Below.drew ?_
          | refine Below.setCell ?_ (by simp) _
          | refine Below.alloc ?_ (by simp) _
  · have hke : (l.kind == 1) = false := by rw [beq_eq_false_iff_ne]; exact hk
    have hkn : (l.kind != 1) = true := by simp [hk]
    have HE : Hid (insL g v l = l) := by unfold Hid insL; rw [if_neg (fun c => hk c.1)]
    rw [HE.out]
    unfold Lt.val
    clear hk hl
    go_enter Tryd.func50, Tryd.ntmps50
    go_wp2_with fail
    refine bodyPost_ret (v := Lt.val l) (by simp [results, Tryd.results50, go_sem, Lt.val]) rfl ⟨rfl, ?_⟩
    repeat first
      | exact Below.refl _ _
      | refine Below.drew ?_
      | refine Below.setCell ?_ (by simp) _
      | refine Below.alloc ?_ (by simp) _

end Go.Proofs.YtplpccgbciglpaaDoor
