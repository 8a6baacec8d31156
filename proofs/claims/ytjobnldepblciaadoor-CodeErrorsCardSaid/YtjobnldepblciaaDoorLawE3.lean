/-
  The law CodeErrors: whole.
-/
import Derived.Test.YtjobnldepblciaaDoorLawC3
import Derived.Test.YtjobnldepblciaaDoorRefX
import Derived.Test.YtjobnldepblciaaDoorDoorL
namespace Go.Proofs.YtjobnldepblciaaDoor
open Go.RowKit

set_option maxHeartbeats 8000000 in
set_option maxRecDepth 100000 in
theorem codeErrors_big (f : Int) (A : Option Addr) (n c : Nat) (i g l : Int) (w : World) (hn : ¬ n ≤ 60) (hT : ItoaAll w) :
    Calls Tryd.prog 4 #[.agg #[.int .i64 f, .slice A n c], .int .i64 i, .agg #[.int .i64 g, .int .i64 l]] w fun e w' => e = .returned (.bool true) ∧ Below w.heap.size w w' := by
  have HT := Lib.hid hT
  have t1 : decide ((n : Int) ≤ 60) = false := by rw [decide_eq_false_iff_not]; omega
  have HSM := Lib.hid (fun W => small_calls f A n c false W t1)
  clear hT hn
  go_enter Tryd.func4, Tryd.ntmps4
  go_wp2_with fail
  have HB0 : Hid (Below w.heap.size w ((w.alloc (.cells #[.int .i64 f, .slice A n c] 24)).alloc (.cells #[.int .i64 g, .int .i64 l] 31))) := ((Below.refl _ _).alloc (Nat.le_refl _) _).alloc (by simp) _
  refine (HSM.out _).mono ?_
  rintro e w1 ⟨rfl, hb⟩
  have HB1 : Hid (Below w.heap.size w w1) := HB0.out.trans (hb.mono HB0.out.size)
  clear hb
  go_wp2_with fail
  refine (known_calls _ (HT.out.below HB1.out)).mono ?_
  rintro e w2 ⟨rfl, hb⟩
  have HB2 : Hid (Below w.heap.size w w2) := HB1.out.trans (hb.mono HB1.out.size)
  clear hb
  go_wp2_with fail
  go_ret
  exact ⟨rfl, HB2.out⟩

set_option maxHeartbeats 8000000 in
set_option maxRecDepth 100000 in
theorem codeErrors_fine (f : Int) (A : Option Addr) (n c : Nat) (i g l : Int) (w : World) (hn : n ≤ 60) (hRC : ∀ W, Below w.heap.size w W → Calls Tryd.prog 12 #[.agg #[.int .i64 f, .slice A n c]] W fun e w' => e = .returned (.int .i64 0) ∧ Below W.heap.size W w') (hT : ItoaAll w) :
    Calls Tryd.prog 4 #[.agg #[.int .i64 f, .slice A n c], .int .i64 i, .agg #[.int .i64 g, .int .i64 l]] w fun e w' => e = .returned (.bool true) ∧ Below w.heap.size w w' := by
  have HT := Lib.hid hT
  have HRC := Lib.hid hRC
  have t1 : decide ((n : Int) ≤ 60) = true := by rw [decide_eq_true_iff]; omega
  have HSM := Lib.hid (fun W => small_calls f A n c true W t1)
  clear hT hn hRC
  go_enter Tryd.func4, Tryd.ntmps4
  go_wp2_with fail
  obtain ⟨W0, hW0⟩ : ∃ W0, W0 = (w.alloc (.cells #[.int .i64 f, .slice A n c] 24)).alloc (.cells #[.int .i64 g, .int .i64 l] 31) := ⟨_, rfl⟩
  have HF0 := Lib.hid (two_mem w _ _ W0 hW0)
  rw [← hW0]
  clear hW0
  refine (HSM.out _).mono ?_
  rintro e w1 ⟨rfl, hb⟩
  have HF1 := Lib.hid (two_next HF0.out hb)
  have a0 := Lib.cell_of_heap HF1.out.1 0
  have a1 := Lib.cell_of_heap HF1.out.1 1
  clear hb
  go_wp2_with fail
  refine (HRC.out _ HF1.out.2.2.2).mono ?_
  rintro e w2 ⟨rfl, hb⟩
  have HB2 : Hid (Below w.heap.size w w2) := HF1.out.2.2.2.trans (hb.mono HF1.out.2.2.2.size)
  clear hb a0 a1
  go_wp2_with fail
  refine (known_calls _ (HT.out.below HB2.out)).mono ?_
  rintro e w3 ⟨rfl, hb⟩
  have HB3 : Hid (Below w.heap.size w w3) := HB2.out.trans (hb.mono HB2.out.size)
  clear hb
  go_wp2_with fail
  go_ret
  exact ⟨rfl, HB3.out⟩

theorem codeErrors_walk (f : Int) (A : Option Addr) (n c : Nat) (ls : List Lt) (i g l : Int) (w : World) (_hf : I64 f) (hL : LS w A n ls) (_hn : n ≤ maxLen) (hI : ∀ l, l ∈ ls → LtAll l) (_hz : A = none → c = 0) (_hs : n ≤ c) (hA : ∀ b off, A = some ⟨b, off, none⟩ → b < w.heap.size) (_hi : I64 i) (_hg : I64 g) (_hl : I64 l) (hT : ItoaAll w) :
    Calls Tryd.prog 4 #[.agg #[.int .i64 f, .slice A n c], .int .i64 i, .agg #[.int .i64 g, .int .i64 l]] w fun e w' => e = .returned (.bool true) ∧ Below w.heap.size w w' := by
  by_cases hn : n ≤ 60
  · have hRC : ∀ W, Below w.heap.size w W → Calls Tryd.prog 12 #[.agg #[.int .i64 f, .slice A n c]] W fun e w' => e = .returned (.int .i64 (checkE f ls)) ∧ Below W.heap.size W w' :=
      fun W hW => refCheck_full f A n c ls W (hL.below hW)
    by_cases hz : checkE f ls = 0
    · rw [hz] at hRC
      exact codeErrors_fine f A n c i g l w hn hRC hT
    · exact codeErrors_main f A n c i g l (checkE f ls) w hn hz hRC
        (fun W hW => check_calls f A n c ls W (hL.below hW) (fun b off e => Nat.lt_of_lt_of_le (hA b off e) hW.size) (fun l hl => (hI l hl).2.2.2.1))
        (fun W hW => draw_early f A n c ls W hz (hL.below hW) (fun b off e => Nat.lt_of_lt_of_le (hA b off e) hW.size) (fun l hl => (hI l hl).2.2.2.1)) hT
  · exact codeErrors_big f A n c i g l w hn hT

end Go.Proofs.YtjobnldepblciaaDoor
