/-
  The walk of Forget of codes.
-/
import Derived.Test.YtnommkbcffikaaaDoorEach
import Derived.Test.YtnommkbcffikaaaDoorFaces
namespace Go.Proofs.YtnommkbcffikaaaDoor
open Go.RowKit

/-- A letter when a finger is forgotten: q is the number of passes of the gate before it. -/
def forgL (f q : Int) (l : Lt) : Lt := ⟨l.kind, if l.kind = 1 ∧ f ≤ l.gate then l.gate - 1 else l.gate, if l.kind = 1 ∧ l.gate = f then l.rank + q else l.rank, l.id, l.sign, l.over⟩

set_option maxHeartbeats 4000000 in
theorem forget1_calls (f q : Int) (pf pc g N B : Nat) (gs : List Value) (l : Lt) (w : World) (ho : OwnV w B 3 (.slice (some ⟨g, 0, none⟩) N N) gs) (hf : 1 ≤ f ∧ f ≤ N) (hN : N ≤ 1000) (hq : gs[(f - 1).toNat]? = some (.int .i64 q)) (hqb : 0 ≤ q ∧ q ≤ 1000000)
    (hpf : pf < w.heap.size) (hpc : pc < w.heap.size) (hcf : w.cell? ⟨pf, 0, none⟩ = some (.int .i64 f)) (hcc : w.cell? ⟨pc, 0, none⟩ = some (.slice (some ⟨g, 0, none⟩) N N))
    (hl : l.kind = 1 → (0 ≤ l.gate ∧ l.gate ≤ 1000000) ∧ 0 ≤ l.rank ∧ l.rank ≤ 1000000) :
    Calls Tryd.prog 73 #[l.val, .pointer (some ⟨pf, 0, none⟩), .pointer (some ⟨pc, 0, none⟩)] w fun e w' => e = .returned (forgL f q l).val ∧ Below w.heap.size w w' := by
  obtain ⟨F, rfl⟩ : ∃ F : Nat, f = (F : Int) + 1 := ⟨(f - 1).toNat, by omega⟩
  have hF1 : F < N := by omega
  have hF2 : (0 : Int) ≤ (F : Int) + 1 - 1 := by omega
  have hF3 : (F : Int) + 1 - 1 < N := by omega
  have hgg := (ho.lt g rfl).2
  have hFi : (F : Int) < N := by omega
  have hFn : ((F : Int) + 1 - 1).toNat = F := by omega
  have hcw : w.cell? ⟨g, F, none⟩ = some (.int .i64 q) := by
    obtain ⟨x, hx, hc, _⟩ := ho.cell (k := F) hF1
    rw [show (((F : Int) + 1) - 1).toNat = F by omega, hx] at hq
    injection hq with hq
    rw [hc, hq]
  have hne : g ≠ w.heap.size := by omega
  have hne1 : pf ≠ w.heap.size := by omega
  have hne2 : pc ≠ w.heap.size := by omega
  have hnf : g ≠ w.heap.size + 1 := by omega
  have hnf1 : pf ≠ w.heap.size + 1 := by omega
  have hnf2 : pc ≠ w.heap.size + 1 := by omega
  clear ho hq
  unfold Lt.val
  by_cases hk : l.kind = 1
  · obtain ⟨⟨hg0, hg1⟩, hr0, hr1⟩ := hl hk
    have hke : (l.kind == 1) = true := by rw [beq_iff_eq]; exact hk
    by_cases he : l.gate = (F : Int) + 1
    · have hee : (l.gate == (F : Int) + 1) = true := by rw [beq_iff_eq]; exact he
      have hge : decide ((F : Int) + 1 ≤ l.gate) = true := by rw [decide_eq_true_eq]; omega
      have HE : Hid (forgL ((F : Int) + 1) q l = ⟨l.kind, l.gate - 1, l.rank + q, l.id, l.sign, l.over⟩) := by unfold Hid forgL; rw [if_pos ⟨hk, by omega⟩, if_pos ⟨hk, he⟩]
      rw [HE.out]
      have hle : (F : Int) + 1 ≤ l.gate := by omega
      clear hk he hl hge
      go_enter Tryd.func73, Tryd.ntmps73
      go_wp2_with fail
      try go_quiet (fail)
      try go_wp2_with fail
      go_region
      all_goals
        go_wp2_with fail
        refine bodyPost_ret (v := Lt.val ⟨l.kind, l.gate - 1, l.rank + q, l.id, l.sign, l.over⟩) (by simp [results, Tryd.results73, go_sem, Lt.val]) rfl ⟨rfl, ?_⟩
        repeat first
          | exact Below.refl _ _
          | refine Below.drew ?_
          | refine Below.setCell ?_ (by simp) _
          | refine Below.alloc ?_ (by simp) _
    · have hee : (l.gate == (F : Int) + 1) = false := by rw [beq_eq_false_iff_ne]; exact he
      by_cases hge : (F : Int) + 1 ≤ l.gate
      · have HE : Hid (forgL ((F : Int) + 1) q l = ⟨l.kind, l.gate - 1, l.rank, l.id, l.sign, l.over⟩) := by unfold Hid forgL; rw [if_pos ⟨hk, hge⟩, if_neg (fun c => he c.2)]
        rw [HE.out]
        clear hk he hl
        go_enter Tryd.func73, Tryd.ntmps73
        go_wp2_with fail
        try go_quiet (fail)
        try go_wp2_with fail
        refine bodyPost_ret (v := Lt.val ⟨l.kind, l.gate - 1, l.rank, l.id, l.sign, l.over⟩) (by simp [results, Tryd.results73, go_sem, Lt.val]) rfl ⟨rfl, ((Below.refl _ _).alloc (Nat.le_refl _) _).alloc (by simp) _⟩
      · have HE : Hid (forgL ((F : Int) + 1) q l = l) := by unfold Hid forgL; rw [if_neg (fun c => hge c.2), if_neg (fun c => he c.2)]
        rw [HE.out]
        have hgd : decide ((F : Int) + 1 ≤ l.gate) = false := decide_eq_false hge
        clear hk he hl
        go_enter Tryd.func73, Tryd.ntmps73
        go_wp2_with fail
        try go_quiet (fail)
        try go_wp2_with fail
        refine bodyPost_ret (v := Lt.val l) (by simp [results, Tryd.results73, go_sem, Lt.val]) rfl ⟨rfl, ((Below.refl _ _).alloc (Nat.le_refl _) _).alloc (by simp) _⟩
  · have hke : (l.kind == 1) = false := by rw [beq_eq_false_iff_ne]; exact hk
    have HE : Hid (forgL ((F : Int) + 1) q l = l) := by unfold Hid forgL; rw [if_neg (fun c => hk c.1), if_neg (fun c => hk c.1)]
    rw [HE.out]
    clear hk hl
    go_enter Tryd.func73, Tryd.ntmps73
    go_wp2_with fail
    try go_quiet (fail)
    try go_wp2_with fail
    refine bodyPost_ret (v := Lt.val l) (by simp [results, Tryd.results73, go_sem, Lt.val]) rfl ⟨rfl, ((Below.refl _ _).alloc (Nat.le_refl _) _).alloc (by simp) _⟩

end Go.Proofs.YtnommkbcffikaaaDoor
