/-
  ForgC Forget2, one after the other.
-/
import Derived.Test.YtbbpockkafbfmaaDoorEach
import Derived.Test.YtbbpockkafbfmaaDoorFaces

/-
  The walk of Forget of codes.
-/
namespace Go.Proofs.YtbbpockkafbfmaaDoor
open Go.RowKit

/-- A letter when a finger is forgotten: q is the number of passes of the gate before it. -/
def forgL (f q : Int) (l : Lt) : Lt := ⟨l.kind, if l.kind = 1 ∧ f ≤ l.gate then l.gate - 1 else l.gate, if l.kind = 1 ∧ l.gate = f then l.rank + q else l.rank, l.id, l.sign, l.over⟩

set_option maxHeartbeats 4000000 in
theorem forget1_calls (f q : Int) (pf pc g N B : Nat) (gs : List Value) (l : Lt) (w : World) (ho : OwnV w B 3 (.slice (some ⟨g, 0, none⟩) N N) gs) (hf : 1 ≤ f ∧ f ≤ N) (hN : N ≤ 1000) (hq : gs[(f - 1).toNat]? = some (.int .i64 q)) (hqb : 0 ≤ q ∧ q ≤ 1000000)
    (hpf : pf < w.heap.size) (hpc : pc < w.heap.size) (hcf : w.cell? ⟨pf, 0, none⟩ = some (.int .i64 f)) (hcc : w.cell? ⟨pc, 0, none⟩ = some (.slice (some ⟨g, 0, none⟩) N N))
    (hl : l.kind = 1 → (0 ≤ l.gate ∧ l.gate ≤ 1000000) ∧ 0 ≤ l.rank ∧ l.rank ≤ 1000000) :
    Calls Tryd.prog 75 #[l.val, .pointer (some ⟨pf, 0, none⟩), .pointer (some ⟨pc, 0, none⟩)] w fun e w' => e = .returned (forgL f q l).val ∧ Below w.heap.size w w' := by
  obtain ⟨F, rfl⟩ : ∃ F : Nat, f = (F : Int) + 1 := ⟨(f - 1).toNat, by omega⟩
  have hF1 : F < N := by omega
  have hF2 : (0 : Int) ≤ (F : Int) + 1 - 1 := by omega
  have hF3 : (F : Int) + 1 - 1 < N := by omega
  have hgg := (ho.lt g rfl).2
  have hFi : (F : Int) < N := by omega
  have hFn : ((F : Int) + 1 - 1).toNat = F := by omega
  have hcw : w.cell? ⟨g, F, none⟩ = some (.int .i64 q) := by
    obtain ⟨x, hx, hc, _⟩ := ho.cell (k := F) hF1
    rw [show (((F : Int) + 1) - 1).toNat = F by omega, hx] at hq
    injection hq with hq
    rw [hc, hq]
  have hne : g ≠ w.heap.size := by omega
  have hne1 : pf ≠ w.heap.size := by omega
  have hne2 : pc ≠ w.heap.size := by omega
  have hnf : g ≠ w.heap.size + 1 := by omega
  have hnf1 : pf ≠ w.heap.size + 1 := by omega
  have hnf2 : pc ≠ w.heap.size + 1 := by omega
  clear ho hq
  unfold Lt.val
  by_cases hk : l.kind = 1
  · obtain ⟨⟨hg0, hg1⟩, hr0, hr1⟩ := hl hk
    have hke : (l.kind == 1) = true := by rw [beq_iff_eq]; exact hk
    by_cases he : l.gate = (F : Int) + 1
    · have hee : (l.gate == (F : Int) + 1) = true := by rw [beq_iff_eq]; exact he
      have hge : decide ((F : Int) + 1 ≤ l.gate) = true := by rw [decide_eq_true_eq]; omega
      have HE : Hid (forgL ((F : Int) + 1) q l = ⟨l.kind, l.gate - 1, l.rank + q, l.id, l.sign, l.over⟩) := by unfold Hid forgL; rw [if_pos ⟨hk, by omega⟩, if_pos ⟨hk, he⟩]
      rw [HE.out]
      have hle : (F : Int) + 1 ≤ l.gate := by omega
      clear hk he hl hge
      go_enter Tryd.func75, Tryd.ntmps75
      go_wp2_with fail
      try go_quiet (fail)
      try go_wp2_with fail
      go_region
      all_goals
        go_wp2_with fail
        refine bodyPost_ret (v := Lt.val ⟨l.kind, l.gate - 1, l.rank + q, l.id, l.sign, l.over⟩) (by simp [results, Tryd.results75, go_sem, Lt.val]) rfl ⟨rfl, ?_⟩
        repeat first
          | exact Below.refl _ _
          | refine Below.drew ?_
          | refine Below.setCell ?_ (by simp) _
          | refine Below.alloc ?_ (by simp) _
    · have hee : (l.gate == (F : Int) + 1) = false := by rw [beq_eq_false_iff_ne]; exact he
      by_cases hge : (F : Int) + 1 ≤ l.gate
      · have HE : Hid (forgL ((F : Int) + 1) q l = ⟨l.kind, l.gate - 1, l.rank, l.id, l.sign, l.over⟩) := by unfold Hid forgL; rw [if_pos ⟨hk, hge⟩, if_neg (fun c => he c.2)]
        rw [HE.out]
        clear hk he hl
        go_enter Tryd.func75, Tryd.ntmps75
        go_wp2_with fail
        try go_quiet (fail)
        try go_wp2_with fail
        refine bodyPost_ret (v := Lt.val ⟨l.kind, l.gate - 1, l.rank, l.id, l.sign, l.over⟩) (by simp [results, Tryd.results75, go_sem, Lt.val]) rfl ⟨rfl, ((Below.refl _ _).alloc (Nat.le_refl _) _).alloc (by simp) _⟩
      · have HE : Hid (forgL ((F : Int) + 1) q l = l) := by unfold Hid forgL; rw [if_neg (fun c => hge c.2), if_neg (fun c => he c.2)]
        rw [HE.out]
        have hgd : decide ((F : Int) + 1 ≤ l.gate) = false := decide_eq_false hge
        clear hk he hl
        go_enter Tryd.func75, Tryd.ntmps75
        go_wp2_with fail
        try go_quiet (fail)
        try go_wp2_with fail
        refine bodyPost_ret (v := Lt.val l) (by simp [results, Tryd.results75, go_sem, Lt.val]) rfl ⟨rfl, ((Below.refl _ _).alloc (Nat.le_refl _) _).alloc (by simp) _⟩
  · have hke : (l.kind == 1) = false := by rw [beq_eq_false_iff_ne]; exact hk
    have HE : Hid (forgL ((F : Int) + 1) q l = l) := by unfold Hid forgL; rw [if_neg (fun c => hk c.1), if_neg (fun c => hk c.1)]
    rw [HE.out]
    clear hk hl
    go_enter Tryd.func75, Tryd.ntmps75
    go_wp2_with fail
    try go_quiet (fail)
    try go_wp2_with fail
    refine bodyPost_ret (v := Lt.val l) (by simp [results, Tryd.results75, go_sem, Lt.val]) rfl ⟨rfl, ((Below.refl _ _).alloc (Nat.le_refl _) _).alloc (by simp) _⟩

end Go.Proofs.YtbbpockkafbfmaaDoor

/-
  The walk of Forget of codes: whole.
-/
namespace Go.Proofs.YtbbpockkafbfmaaDoor
open Go.RowKit

theorem forget_mem (w : World) (a b c : Obj) (W : World) (h : W = ((w.alloc a).alloc b).alloc c) :
    W.heap[w.heap.size]? = some a ∧ W.heap[w.heap.size + 1]? = some b ∧ W.heap[w.heap.size + 1 + 1]? = some c ∧ w.heap.size + 1 + 1 < W.heap.size ∧ Below w.heap.size w W := by
  have s1 : (w.alloc a).heap.size = w.heap.size + 1 := by simp
  have s2 : ((w.alloc a).alloc b).heap.size = w.heap.size + 1 + 1 := by simp
  have h3 := heap_alloc_new ((w.alloc a).alloc b) c
  have h2 := heap_alloc_new (w.alloc a) b
  have h1 := heap_alloc_new w a
  rw [s1] at h2
  rw [s2] at h3
  have k : ∀ (x : World) (o : Obj) q, q < x.heap.size → (x.alloc o).heap[q]? = x.heap[q]? := fun x o q hq => ((Below.refl x.heap.size x).alloc (Nat.le_refl _) o).block q hq
  subst h
  refine ⟨?_, ?_, h3, by simp, ((((Below.refl _ _).alloc (Nat.le_refl _) _).alloc (by simp) _).alloc (by simp; omega) _)⟩
  · rw [k _ c _ (by omega), k _ b _ (by omega)]; exact h1
  · rw [k _ c _ (by omega)]; exact h2
theorem forget_next {w W W' : World} {a b c : Obj} (h : W.heap[w.heap.size]? = some a ∧ W.heap[w.heap.size + 1]? = some b ∧ W.heap[w.heap.size + 1 + 1]? = some c ∧ w.heap.size + 1 + 1 < W.heap.size ∧ Below w.heap.size w W) (hb : Below W.heap.size W W') :
    W'.heap[w.heap.size]? = some a ∧ W'.heap[w.heap.size + 1]? = some b ∧ W'.heap[w.heap.size + 1 + 1]? = some c ∧ w.heap.size + 1 + 1 < W'.heap.size ∧ Below w.heap.size w W' := by
  obtain ⟨h1, h2, h3, h4, h5⟩ := h
  exact ⟨(hb.block _ (by omega)).trans h1, (hb.block _ (by omega)).trans h2, (hb.block _ (by omega)).trans h3, Nat.lt_of_lt_of_le h4 hb.size, h5.trans (hb.mono h5.size)⟩

theorem forget_end {w w1 : World} {a b : Obj} (h : w1.heap[w.heap.size]? = some a ∧ w1.heap[w.heap.size + 1]? = some b ∧ w1.heap[w.heap.size + 1 + 1]? = some (.cells #[.int .i64 0, .slice none 0 0] 33 (0, 0)) ∧ w.heap.size + 1 + 1 < w1.heap.size ∧ Below w.heap.size w w1)
    {X : World} (hX : X = (w1.setCell ⟨w.heap.size + 1 + 1, 0, none⟩ (.int .i64 0)).setCell ⟨w.heap.size + 1 + 1, 1, none⟩ (.slice none 0 0)) :
    X.cell? ⟨w.heap.size + 1 + 1, 0, none⟩ = some (.int .i64 0) ∧ X.cell? ⟨w.heap.size + 1 + 1, 1, none⟩ = some (.slice none 0 0) ∧ Below w.heap.size w X := by
  have hXF : X.heap[w.heap.size + 1 + 1]? = some (.cells #[.int .i64 0, .slice none 0 0] 33 (0, 0)) := by
    rw [hX]
    simp [World.setCell, Array.getElem?_modify, h.2.2.1]
  refine ⟨Lib.cell_of_heap hXF 0, Lib.cell_of_heap hXF 1, ?_⟩
  rw [hX]
  exact (h.2.2.2.2.setCell (p := ⟨w.heap.size + 1 + 1, 0, none⟩) (by show w.heap.size ≤ w.heap.size + 1 + 1; omega) _).setCell (p := ⟨w.heap.size + 1 + 1, 1, none⟩) (by show w.heap.size ≤ w.heap.size + 1 + 1; omega) _

/-- What Forget leaves. -/
def ForgetPost (f k : Int) (ls : List Lt) (w : World) (e : Ending) (w' : World) : Prop :=
  (checkE f ls ≠ 0 ∧ e = .returned (.tuple #[.agg #[.int .i64 0, .slice none 0 0], .int .i64 (checkE f ls)]) ∧ Below w.heap.size w w') ∨
  (checkE f ls = 0 ∧ ¬ (1 ≤ k ∧ k ≤ f) ∧ e = .returned (.tuple #[.agg #[.int .i64 0, .slice none 0 0], .int .i64 2]) ∧ Below w.heap.size w w') ∨
  (checkE f ls = 0 ∧ (1 ≤ k ∧ k ≤ f) ∧ ∃ g, e = .returned (.tuple #[.agg #[.int .i64 (f - 1), .slice (some ⟨g, 0, none⟩) ls.length ls.length], .int .i64 0]) ∧ OwnL w' w.heap.size (.slice (some ⟨g, 0, none⟩) ls.length ls.length) (ls.map (forgL k (cntB (inGate (k - 1)) ls))) ∧ Below w.heap.size w w')

theorem checkE_zero {f : Int} {ls : List Lt} (h : checkE f ls = 0) : ls.length ≤ 400 ∧ (0 ≤ f ∧ f ≤ 40) ∧ ∀ l, l ∈ ls → plainL f l := by
  unfold checkE at h
  split at h
  · cases h
  · rename_i hs
    split at h
    · cases h
    · rename_i hf
      split at h
      · cases h
      · split at h
        · cases h
        · rename_i hp
          have hs2 : shortB ls = true := by simpa using hs
          unfold shortB at hs2
          simp at hs2
          exact ⟨hs2.1, Decidable.of_not_not hf, Decidable.of_not_not hp⟩

set_option maxHeartbeats 4000000 in
theorem forget_calls (f k : Int) (A : Option Addr) (n c : Nat) (ls : List Lt) (w : World) (hL : LS w A n ls) (hA : ∀ b off, A = some ⟨b, off, none⟩ → b < w.heap.size) (hI : ∀ l, l ∈ ls → I64 l.id) (hrk : ∀ l, l ∈ ls → l.kind = 1 → 0 ≤ l.rank ∧ l.rank ≤ 1000000) :
    Calls Tryd.prog 42 #[.agg #[.int .i64 f, .slice A n c], .int .i64 k] w (ForgetPost f k ls w) := by
  have HL := Lib.hid hL
  have HLN : Hid (ls.length = n) := hL.1
  have HCK : Hid (∀ W, Below w.heap.size w W → Calls Tryd.prog 23 #[.agg #[.int .i64 f, .slice A n c]] W fun e w' => e = .returned (.int .i64 (checkE f ls)) ∧ Below W.heap.size W w') := by
    intro W hW
    exact check_calls f A n c ls W (hL.below hW) (fun b off e => Nat.lt_of_lt_of_le (hA b off e) hW.size) hI
  have HRK := Lib.hid hrk
  clear hL hA hI hrk
  obtain ⟨ce, hce⟩ : ∃ ce, checkE f ls = ce := ⟨_, rfl⟩
  rw [hce] at HCK
  have HCE := Lib.hid hce
  clear hce
  by_cases hz : ce = 0
  · subst hz
    by_cases h1 : 1 ≤ k
    · by_cases h2 : k ≤ f
      · obtain ⟨z1, z2, z3⟩ := checkE_zero HCE.out
        have HZ3 := Lib.hid z3
        obtain ⟨fn, rfl⟩ : ∃ fn : Nat, f = (fn : Int) := ⟨f.toNat, by omega⟩
        have hfn : fn ≤ 40 := by omega
        have hn4 : n ≤ 400 := by have := HLN.out; omega
        obtain ⟨q, hq⟩ : ∃ q, cntB (inGate (k - 1)) ls = q := ⟨_, rfl⟩
        have HQ := Lib.hid hq
        have HQB : Hid (0 ≤ q ∧ q ≤ 1000000) := by
          have e1 := cntB_nonneg (inGate (k - 1)) ls
          have e2 := cntB_take_le (inGate (k - 1)) ls ls.length
          rw [List.take_of_length_le (Nat.le_refl _)] at e2
          exact ⟨by omega, by omega⟩
        have HGA : Hid (∀ W, Below w.heap.size w W → Calls Tryd.prog 73 #[.agg #[.int .i64 (fn : Int), .slice A n c]] W fun e w' => ∃ g, e = .returned (.slice (some ⟨g, 0, none⟩) (fn + 1) (fn + 1)) ∧ W.heap.size ≤ g ∧ OwnV w' g 3 (.slice (some ⟨g, 0, none⟩) (fn + 1) (fn + 1)) (gatesL (fn + 1) ls n) ∧ Below W.heap.size W w') := by
          intro W hW
          exact gates_calls fn A n c ls W (HL.out.below hW) (by omega) hfn (fun l hl hk1 => by
            rcases HZ3.out l hl with h | h
            · exact h.2.2.2.2
            · exact absurd (hk1.symm.trans h.1) (by decide))
        have HFE : Hid (∀ (W : World) (pc g : Nat), Below w.heap.size w W → W.heap[w.heap.size + 1]? = some (.cells #[.int .i64 k] 3 (0, 0)) → W.heap[pc]? = some (.cells #[.slice (some ⟨g, 0, none⟩) (fn + 1) (fn + 1)] 28 (0, 0)) → OwnV W g 3 (.slice (some ⟨g, 0, none⟩) (fn + 1) (fn + 1)) (gatesL (fn + 1) ls n) →
            Calls Tryd.prog 74 #[.agg #[.int .i64 (fn : Int), .slice A n c], .func (.func 75) #[] #[.pointer (some ⟨w.heap.size + 1, 0, none⟩), .pointer (some ⟨pc, 0, none⟩)]] W (EachPost (fn : Int) (ls.map (forgL k q)) W)) := by
          intro W pc g hW c1 c2 ho
          have l1 : w.heap.size + 1 < W.heap.size := by
            rcases Nat.lt_or_ge (w.heap.size + 1) W.heap.size with q | q
            · exact q
            · rw [Array.getElem?_eq_none q] at c1; cases c1
          have l2 : pc < W.heap.size := by
            rcases Nat.lt_or_ge pc W.heap.size with q | q
            · exact q
            · rw [Array.getElem?_eq_none q] at c2; cases c2
          refine each_forget (fn : Int) A n c ls W (HL.out.below hW) (by omega) (forgL k q) _ _ fun l W' hl hW' => ?_
          refine forget1_calls k q (w.heap.size + 1) pc g (fn + 1) g _ l W' (ho.below hW') ⟨h1, by omega⟩ (by omega) ?_ HQB.out (Nat.lt_of_lt_of_le l1 hW'.size) (Nat.lt_of_lt_of_le l2 hW'.size)
            ((hW'.cell (p := ⟨w.heap.size + 1, 0, none⟩) l1).trans (Lib.cell_of_heap c1 0)) ((hW'.cell (p := ⟨pc, 0, none⟩) l2).trans (Lib.cell_of_heap c2 0)) (fun hk1 => ⟨?_, HRK.out l hl hk1⟩)
          · unfold gatesL
            rw [List.getElem?_map, List.getElem?_range (by omega), ← HQ.out]
            have e1 : (((k - 1).toNat : Nat) : Int) = k - 1 := by omega
            rw [Option.map_some, e1, List.take_of_length_le (by have := HLN.out; omega)]
          · rcases HZ3.out l hl with h | h
            · exact ⟨h.2.2.2.2.1, by omega⟩
            · exact absurd (hk1.symm.trans h.1) (by decide)
        have h1n : ¬ k < 1 := by omega
        have h2n : ¬ (fn : Int) < k := by omega
        have hmf : ∀ (fn : Fn) (first cap : Array Value) (w : World), (Instr.makeFunc fn first cap).run Tryd.prog w = .ok (.func fn first cap) w := fun _ _ _ _ => rfl
        clear z1 z2 z3 hq
        go_enter Tryd.func42, Tryd.ntmps42
        go_wp2_with fail
        obtain ⟨W0, hW0⟩ : ∃ W0, W0 = ((w.alloc (.cells #[.int .i64 (fn : Int), .slice A n c] 33)).alloc (.cells #[.int .i64 k] 3)).alloc (.cells #[.int .i64 0, .slice none 0 0] 33) := ⟨_, rfl⟩
        have HF0 := Lib.hid (forget_mem w (.cells #[.int .i64 (fn : Int), .slice A n c] 33) (.cells #[.int .i64 k] 3) (.cells #[.int .i64 0, .slice none 0 0] 33) W0 hW0)
        rw [← hW0]
        clear hW0
        go_wp2_with (first
          | (go_at_call 23; refine (HCK.out _ HF0.out.2.2.2.2).mono ?_; rintro e w1 ⟨rfl, hb1⟩; have HW1 := Lib.hid hb1; have HM1 := Lib.hid (forget_next HF0.out hb1); have a0 := Lib.cell_of_heap HM1.out.1 0; have a1 := Lib.cell_of_heap HM1.out.1 1; have a2 := Lib.cell_of_heap HM1.out.2.1 0; clear hb1)
          | (go_at_call 73; refine (HGA.out _ HM1.out.2.2.2.2).mono ?_; rintro e w3 ⟨g, rfl, hg1, hg2, hb3⟩; have HG2 := Lib.hid hg2; have HM3 := Lib.hid (forget_next HM1.out hb3); have d0 := Lib.cell_of_heap HM3.out.1 0; have d1 := Lib.cell_of_heap HM3.out.1 1; have hs3 := HM3.out.2.2.2.1; have hl3 : w.heap.size < w3.heap.size := (by omega); have d2 : ∀ o, (w3.alloc o).cell? ⟨w.heap.size, 0, none⟩ = some (.int .i64 (fn : Int)) := (fun o => (((Below.refl w3.heap.size w3).alloc (Nat.le_refl _) o).cell (p := ⟨w.heap.size, 0, none⟩) hl3).trans d0); have d3 : ∀ o, (w3.alloc o).cell? ⟨w.heap.size, 1, none⟩ = some (.slice A n c) := (fun o => (((Below.refl w3.heap.size w3).alloc (Nat.le_refl _) o).cell (p := ⟨w.heap.size, 1, none⟩) hl3).trans d1); clear hg1 hg2 hb3 a0 a1 a2 d0 d1)
          | (go_at_call 74; go_loud (refine (HFE.out _ w3.heap.size g (HM3.out.2.2.2.2.alloc HM3.out.2.2.2.2.size _) (((Below.refl w3.heap.size w3).alloc (Nat.le_refl _) _).block _ (by omega) |>.trans HM3.out.2.1) (heap_alloc_new _ _) (HG2.out.below ((Below.refl _ _).alloc (Nat.le_refl _) _))).mono ?_; rintro e w5 ⟨gL, rfl, ho5, hb5⟩); have HO5 := Lib.hid ho5; have HM5 := Lib.hid (forget_next HM3.out (((Below.refl w3.heap.size w3).alloc (Nat.le_refl _) _).trans (hb5.mono (by simp)))); have r0 : ∀ o, (w5.alloc o).cell? ⟨w.heap.size + 1 + 1, 0, none⟩ = some (.int .i64 0) := (fun o => (((Below.refl w5.heap.size w5).alloc (Nat.le_refl _) o).cell (p := ⟨w.heap.size + 1 + 1, 0, none⟩) HM5.out.2.2.2.1).trans (Lib.cell_of_heap HM5.out.2.2.1 0)); have r1 : ∀ o, (w5.alloc o).cell? ⟨w.heap.size + 1 + 1, 1, none⟩ = some (.slice none 0 0) := (fun o => (((Below.refl w5.heap.size w5).alloc (Nat.le_refl _) o).cell (p := ⟨w.heap.size + 1 + 1, 1, none⟩) HM5.out.2.2.2.1).trans (Lib.cell_of_heap HM5.out.2.2.1 1)); have rf : ∀ o x, (w5.alloc o).frozen? ⟨w.heap.size + 1 + 1, x, none⟩ = false := (by intro o x; refine (((Below.refl w5.heap.size w5).alloc (Nat.le_refl _) o).frozen (p := ⟨w.heap.size + 1 + 1, x, none⟩) HM5.out.2.2.2.1).trans ?_; have h1 := HM5.out.2.2.1; simp [World.frozen?, h1]); have rr : ¬ w5.heap.size = w.heap.size + 1 + 1 := (by have h1 := HM5.out.2.2.2.1; omega); clear ho5 hb5))
        obtain ⟨Y, hY⟩ : ∃ Y, Y = w5.alloc (.cells #[.int .i64 ((fn : Int) - 1), .slice (some ⟨gL, 0, none⟩) ls.length ls.length] 33) := ⟨_, rfl⟩
        have HYB : Hid (Below w5.heap.size w5 Y) := by rw [hY]; exact (Below.refl _ _).alloc (Nat.le_refl _) _
        obtain ⟨X, hX⟩ : ∃ X, X = (Y.setCell ⟨w.heap.size + 1 + 1, 0, none⟩ (.int .i64 ((fn : Int) - 1))).setCell ⟨w.heap.size + 1 + 1, 1, none⟩ (.slice (some ⟨gL, 0, none⟩) ls.length ls.length) := ⟨_, rfl⟩
        have hYM := forget_next HM5.out HYB.out
        have hXF : X.heap[w.heap.size + 1 + 1]? = some (.cells #[.int .i64 ((fn : Int) - 1), .slice (some ⟨gL, 0, none⟩) ls.length ls.length] 33 (0, 0)) := by
          rw [hX]
          simp [World.setCell, Array.getElem?_modify, hYM.2.2.1]
        have hXK : ∀ q, q ≠ w.heap.size + 1 + 1 → X.heap[q]? = Y.heap[q]? := fun q hq => by
          rw [hX]
          exact (Below.heap_setCell _ _ _ q hq).trans (Below.heap_setCell _ _ _ q hq)
        have hXB : Below w.heap.size w X := by
          rw [hX]
          exact (hYM.2.2.2.2.setCell (p := ⟨w.heap.size + 1 + 1, 0, none⟩) (by show w.heap.size ≤ w.heap.size + 1 + 1; omega) _).setCell (p := ⟨w.heap.size + 1 + 1, 1, none⟩) (by show w.heap.size ≤ w.heap.size + 1 + 1; omega) _
        rw [← hY, ← hX]
        have k0 := Lib.cell_of_heap hXF 0
        have k1 := Lib.cell_of_heap hXF 1
        refine bodyPost_ret (v := .tuple #[.agg #[.int .i64 ((fn : Int) - 1), .slice (some ⟨gL, 0, none⟩) ls.length ls.length], .int .i64 0]) (by simp [results, Tryd.results42, go_sem, k0, k1]) rfl (.inr (.inr ⟨HCE.out, ⟨h1, h2⟩, gL, rfl, ?_, hXB⟩))
        have h9 := HO5.out
        unfold OwnL at h9 ⊢
        rw [List.length_map] at h9
        rw [HQ.out, List.length_map]
        have hgl := World.ownsRow.lt h9 gL rfl
        refine own_base' (own_kept2' (ownsRow_below h9 HYB.out) (fun g e => hXK g ?_)) (by have := HM3.out.2.2.2.1; simp; omega)
        have e' : gL = g := (by simpa [Value.ownBlock] using e)
        have h3 := HM3.out.2.2.2.1
        have h4 := hgl.1
        simp at h4
        omega
      · have h1n : ¬ k < 1 := by omega
        have h2n : f < k := by omega
        go_enter Tryd.func42, Tryd.ntmps42
        go_wp2_with fail
        obtain ⟨W0, hW0⟩ : ∃ W0, W0 = ((w.alloc (.cells #[.int .i64 f, .slice A n c] 33)).alloc (.cells #[.int .i64 k] 3)).alloc (.cells #[.int .i64 0, .slice none 0 0] 33) := ⟨_, rfl⟩
        have HF0 := Lib.hid (forget_mem w (.cells #[.int .i64 f, .slice A n c] 33) (.cells #[.int .i64 k] 3) (.cells #[.int .i64 0, .slice none 0 0] 33) W0 hW0)
        rw [← hW0]
        clear hW0
        go_wp2_with (first
          | (go_at_call 23; refine (HCK.out _ HF0.out.2.2.2.2).mono ?_; rintro e w1 ⟨rfl, hb1⟩; have HM1 := Lib.hid (forget_next HF0.out hb1); have a0 := Lib.cell_of_heap HM1.out.1 0; have a1 := Lib.cell_of_heap HM1.out.1 1; have a2 := Lib.cell_of_heap HM1.out.2.1 0; have r0 := Lib.cell_of_heap HM1.out.2.2.1 0; have r1 := Lib.cell_of_heap HM1.out.2.2.1 1; have rf : ∀ x, w1.frozen? ⟨w.heap.size + 1 + 1, x, none⟩ = false := (by intro x; have h1 := HM1.out.2.2.1; simp [World.frozen?, h1]); clear hb1))
        obtain ⟨X, hX⟩ : ∃ X, X = (w1.setCell ⟨w.heap.size + 1 + 1, 0, none⟩ (.int .i64 0)).setCell ⟨w.heap.size + 1 + 1, 1, none⟩ (.slice none 0 0) := ⟨_, rfl⟩
        obtain ⟨k0, k1, hXB⟩ := forget_end HM1.out hX
        rw [← hX]
        refine bodyPost_ret (v := .tuple #[.agg #[.int .i64 0, .slice none 0 0], .int .i64 2]) (by simp [results, Tryd.results42, go_sem, k0, k1]) rfl (.inr (.inl ⟨HCE.out, fun c => by omega, rfl, hXB⟩))
    · have h1n : k < 1 := by omega
      go_enter Tryd.func42, Tryd.ntmps42
      go_wp2_with fail
      obtain ⟨W0, hW0⟩ : ∃ W0, W0 = ((w.alloc (.cells #[.int .i64 f, .slice A n c] 33)).alloc (.cells #[.int .i64 k] 3)).alloc (.cells #[.int .i64 0, .slice none 0 0] 33) := ⟨_, rfl⟩
      have HF0 := Lib.hid (forget_mem w (.cells #[.int .i64 f, .slice A n c] 33) (.cells #[.int .i64 k] 3) (.cells #[.int .i64 0, .slice none 0 0] 33) W0 hW0)
      rw [← hW0]
      clear hW0
      go_wp2_with (first
        | (go_at_call 23; refine (HCK.out _ HF0.out.2.2.2.2).mono ?_; rintro e w1 ⟨rfl, hb1⟩; have HM1 := Lib.hid (forget_next HF0.out hb1); have a0 := Lib.cell_of_heap HM1.out.1 0; have a1 := Lib.cell_of_heap HM1.out.1 1; have a2 := Lib.cell_of_heap HM1.out.2.1 0; have r0 := Lib.cell_of_heap HM1.out.2.2.1 0; have r1 := Lib.cell_of_heap HM1.out.2.2.1 1; have rf : ∀ x, w1.frozen? ⟨w.heap.size + 1 + 1, x, none⟩ = false := (by intro x; have h1 := HM1.out.2.2.1; simp [World.frozen?, h1]); clear hb1))
      obtain ⟨X, hX⟩ : ∃ X, X = (w1.setCell ⟨w.heap.size + 1 + 1, 0, none⟩ (.int .i64 0)).setCell ⟨w.heap.size + 1 + 1, 1, none⟩ (.slice none 0 0) := ⟨_, rfl⟩
      obtain ⟨k0, k1, hXB⟩ := forget_end HM1.out hX
      rw [← hX]
      refine bodyPost_ret (v := .tuple #[.agg #[.int .i64 0, .slice none 0 0], .int .i64 2]) (by simp [results, Tryd.results42, go_sem, k0, k1]) rfl (.inr (.inl ⟨HCE.out, fun c => by omega, rfl, hXB⟩))
  · go_enter Tryd.func42, Tryd.ntmps42
    go_wp2_with fail
    obtain ⟨W0, hW0⟩ : ∃ W0, W0 = ((w.alloc (.cells #[.int .i64 f, .slice A n c] 33)).alloc (.cells #[.int .i64 k] 3)).alloc (.cells #[.int .i64 0, .slice none 0 0] 33) := ⟨_, rfl⟩
    have HF0 := Lib.hid (forget_mem w (.cells #[.int .i64 f, .slice A n c] 33) (.cells #[.int .i64 k] 3) (.cells #[.int .i64 0, .slice none 0 0] 33) W0 hW0)
    rw [← hW0]
    clear hW0
    go_wp2_with (first
      | (go_at_call 23; refine (HCK.out _ HF0.out.2.2.2.2).mono ?_; rintro e w1 ⟨rfl, hb1⟩; have HM1 := Lib.hid (forget_next HF0.out hb1); have a0 := Lib.cell_of_heap HM1.out.1 0; have a1 := Lib.cell_of_heap HM1.out.1 1; have a2 := Lib.cell_of_heap HM1.out.2.1 0; have r0 := Lib.cell_of_heap HM1.out.2.2.1 0; have r1 := Lib.cell_of_heap HM1.out.2.2.1 1; have rf : ∀ x, w1.frozen? ⟨w.heap.size + 1 + 1, x, none⟩ = false := (by intro x; have h1 := HM1.out.2.2.1; simp [World.frozen?, h1]); clear hb1))
    obtain ⟨X, hX⟩ : ∃ X, X = (w1.setCell ⟨w.heap.size + 1 + 1, 0, none⟩ (.int .i64 0)).setCell ⟨w.heap.size + 1 + 1, 1, none⟩ (.slice none 0 0) := ⟨_, rfl⟩
    obtain ⟨k0, k1, hXB⟩ := forget_end HM1.out hX
    rw [← hX]
    refine bodyPost_ret (v := .tuple #[.agg #[.int .i64 0, .slice none 0 0], .int .i64 ce]) (by simp [results, Tryd.results42, go_sem, k0, k1]) rfl (.inl ⟨fun c => hz (HCE.out.symm.trans c), by rw [HCE.out], hXB⟩)

end Go.Proofs.YtbbpockkafbfmaaDoor
