/-
  The walk of the law CodePrints.
-/
import Derived.Test.YtplpccgbciglpaaGreatDoorParB
import Derived.Test.YtplpccgbciglpaaGreatDoorRefPr
import Derived.Test.YtplpccgbciglpaaGreatDoorRefX
import Derived.Test.YtplpccgbciglpaaGreatDoorLawH
import Derived.Test.YtplpccgbciglpaaGreatDoorPureC
import Derived.Test.YtplpccgbciglpaaGreatDoorDoorL
import Derived.Deep.RegionHeld3
import Derived.Shelf.Strings.FieldsAny
namespace Go.Proofs.YtplpccgbciglpaaGreatDoor
open Go.RowKit

theorem ltOk_valid {f : Int} {ls : List Lt} (h : checkE f ls = 0) : ∀ l, l ∈ ls → LtOk l := by
  obtain ⟨h1, h2, h3, h4, st, pt, ho, hq, _⟩ := checkE_all h
  have hlen := (checkE_zero h).1
  have hr := valid_iff.2 ⟨h4, ⟨st, ho⟩, pt, hq⟩
  intro l hl
  rcases hr l hl with c | c
  · have hc : cntB (inGate l.gate) ls ≤ ls.length := by
      have := cntB_take_le (inGate l.gate) ls ls.length
      rw [List.take_length] at this; exact this
    exact .inl ⟨c.1, c.2.2.2.2.1, by omega, by omega, by omega, c.2.1, c.2.2.1, c.2.2.2.1⟩
  · have hc : cntK 2 ls ≤ ls.length := by
      have := cntK_take_le 2 ls ls.length
      rw [List.take_length] at this; exact this
    exact .inr ⟨c.1, c.2.1, c.2.2.1, by omega, by omega, c.2.2.2.1⟩
theorem flat_bound {ls : List Lt} (h : ∀ l, l ∈ ls → LtI l) : (ls.flatMap fun l => [32] ++ wordL l).length ≤ 44 * ls.length := by
  induction ls with
  | nil => simp
  | cons a r ih =>
    have h1 := wordL_len (h a (List.mem_cons_self ..))
    have h2 := ih (fun l hl => h l (List.mem_cons_of_mem _ hl))
    simp only [List.flatMap_cons, List.length_append, List.length_cons, List.length_nil] at h2 ⊢
    omega
theorem print_bound {f : Int} {ls : List Lt} (hf : I64 f) (h : ∀ l, l ∈ ls → LtI l) : (printC f ls).length ≤ 22 + 44 * ls.length := by
  have h1 := Lib.itoa_length_le f hf.1 hf.2
  have h2 := flat_bound h
  unfold printC
  rw [List.length_append, List.length_append]
  simp only [List.length_cons, List.length_nil]
  omega
/-- A valid code's string is read as the code. -/
theorem read_print {f : Int} {ls : List Lt} (hv : checkE f ls = 0) : headM (printC f ls) = f ∧ (wordsM (printC f ls)).map letterM = ls ∧ ¬ (63 : UInt8) ∈ printC f ls := by
  have hok := ltOk_valid hv
  have hf := (checkE_zero hv).2.1
  refine ⟨?_, ?_, fun h => (print_bytes hok 63 h).2 rfl⟩
  · unfold headM
    rw [cut_print]
    exact numV_itoa hf.1 (by omega)
  · unfold wordsM
    have hasc : ∀ b, b ∈ (Lib.cut (printC f ls) [58]).2.1 → b.toNat < 128 := by
      rw [cut_print]
      intro b hb
      exact (print_bytes (f := f) hok b (by unfold printC; exact List.mem_append_right _ hb)).1
    rw [Lib.fieldsD_ascii _ hasc]
    exact letters_print hok

set_option maxHeartbeats 4000000 in
set_option maxRecDepth 100000 in
theorem codePrints_big (f : Int) (A : Option Addr) (n c : Nat) (w : World) (hn : ¬ n ≤ 60) (hT : ItoaAll w) :
    Calls Tryz.prog 3 #[.agg #[.int .i64 f, .slice A n c]] w fun e w' => e = .returned (.bool true) ∧ Below w.heap.size w w' := by
  have HKN : Hid (∀ W, Below w.heap.size w W → Calls Tryz.prog 6 #[] W fun e w' => e = .returned (.bool true) ∧ Below W.heap.size W w') := fun W hW => known_calls W (hT.below hW)
  have t1 : decide ((n : Int) ≤ 60) = false := by rw [decide_eq_false_iff_not]; omega
  have HSM := Lib.hid (fun W => small_calls f A n c false W t1)
  have HB0 : Hid (Below w.heap.size w (w.alloc (.cells #[.int .i64 f, .slice A n c] 24))) := (Below.refl _ _).alloc (Nat.le_refl _) _
  clear hT hn t1
  go_enter Tryz.func3, Tryz.ntmps3
  go_wp2_with fail
  refine (HSM.out _).mono ?_
  rintro e w1 ⟨rfl, hb⟩
  have HB1 : Hid (Below w.heap.size w w1) := HB0.out.trans (hb.mono HB0.out.size)
  clear hb
  go_wp2_with fail
  refine (HKN.out _ HB1.out).mono ?_
  rintro e w2 ⟨rfl, hb⟩
  go_wp2_with fail
  go_ret
  exact ⟨rfl, HB1.out.trans (hb.mono HB1.out.size)⟩

set_option maxHeartbeats 4000000 in
set_option maxRecDepth 100000 in
theorem codePrints_main (f : Int) (A : Option Addr) (n c : Nat) (ls : List Lt) (ce : Int) (s : ByteArray) (w : World) (hn60 : n ≤ 60) (hL : LS w A n ls)
    (h1 : ∀ W, Below w.heap.size w W → Calls Tryz.prog 7 #[.agg #[.int .i64 f, .slice A n c]] W fun e w' => e = .returned (.string s) ∧ Below W.heap.size W w')
    (h2 : ∀ W, Below w.heap.size w W → Calls Tryz.prog 8 #[.agg #[.int .i64 f, .slice A n c]] W fun e w' => e = .returned (.string s) ∧ Below W.heap.size W w')
    (h3 : ∀ W, Below w.heap.size w W → Calls Tryz.prog 9 #[.agg #[.int .i64 f, .slice A n c]] W fun e w' => e = .returned (.int .i64 ce) ∧ Below W.heap.size W w')
    (h4 : ce = 0 → ∀ W, Below w.heap.size w W → Calls Tryz.prog 10 #[.string s] W fun e w' => ∃ A2 c2, e = .returned (.tuple #[.agg #[.int .i64 f, .slice A2 n c2], .int .i64 0]) ∧ LS w' A2 n ls ∧ Below W.heap.size W w')
    (hT : ItoaAll w) :
    Calls Tryz.prog 3 #[.agg #[.int .i64 f, .slice A n c]] w fun e w' => e = .returned (.bool true) ∧ Below w.heap.size w w' := by
  have H1 := Lib.hid h1
  have H2 := Lib.hid h2
  have H3 := Lib.hid h3
  have H4 := Lib.hid h4
  have HL := Lib.hid hL
  have hle : n ≤ 1000000 := by omega
  have HKN : Hid (∀ W, Below w.heap.size w W → Calls Tryz.prog 6 #[] W fun e w' => e = .returned (.bool true) ∧ Below W.heap.size W w') := fun W hW => known_calls W (hT.below hW)
  have t1 : decide ((n : Int) ≤ 60) = true := by rw [decide_eq_true_iff]; omega
  have HSM := Lib.hid (fun W => small_calls f A n c true W t1)
  have hss : (s.toList == s.toList) = true := by simp
  clear h1 h2 h3 h4 hT hL t1
  go_enter Tryz.func3, Tryz.ntmps3
  go_wp2_with fail
  obtain ⟨W0, hW0⟩ : ∃ W0, W0 = w.alloc (.cells #[.int .i64 f, .slice A n c] 24) := ⟨_, rfl⟩
  obtain ⟨P, hP⟩ : ∃ P, P = w.heap.size := ⟨_, rfl⟩
  have HB0 : Hid (Below w.heap.size w W0) := by rw [hW0]; exact (Below.refl _ _).alloc (Nat.le_refl _) _
  have HP0 : Hid (W0.heap[P]? = some (.cells #[.int .i64 f, .slice A n c] 24 (0, 0))) := by rw [hW0, hP]; exact heap_alloc_new w _
  rw [← hW0, ← hP]
  clear hW0 hP
  have HKP : Hid (∀ W, Below W0.heap.size W0 W → Below w.heap.size w W ∧ W.cell? ⟨P, 0, none⟩ = some (.int .i64 f) ∧ W.cell? ⟨P, 1, none⟩ = some (.slice A n c)) := fun W hW => by
    have h := (hW.block P (heap_ltP HP0.out)).trans HP0.out
    exact ⟨HB0.out.trans (hW.mono HB0.out.size), Lib.cell_of_heap h 0, Lib.cell_of_heap h 1⟩
  refine (HSM.out _).mono ?_
  rintro e w1 ⟨rfl, hb1⟩
  have HB1 := Lib.hid hb1
  obtain ⟨_, a0, a1⟩ := HKP.out _ HB1.out
  clear hb1
  go_wp2_with fail
  refine (H1.out _ (HKP.out _ HB1.out).1).mono ?_
  rintro e w2 ⟨rfl, hb⟩
  have HB2 : Hid (Below W0.heap.size W0 w2) := HB1.out.trans (hb.mono HB1.out.size)
  clear a0 a1 hb
  obtain ⟨_, a0, a1⟩ := HKP.out _ HB2.out
  go_wp2_with fail
  refine (H2.out _ (HKP.out _ HB2.out).1).mono ?_
  rintro e w3 ⟨rfl, hb⟩
  have HB3 : Hid (Below W0.heap.size W0 w3) := HB2.out.trans (hb.mono HB2.out.size)
  clear a0 a1 hb
  obtain ⟨_, a0, a1⟩ := HKP.out _ HB3.out
  go_wp2_with fail
  refine (H3.out _ (HKP.out _ HB3.out).1).mono ?_
  rintro e w4 ⟨rfl, hb⟩
  have HB4 : Hid (Below W0.heap.size W0 w4) := HB3.out.trans (hb.mono HB3.out.size)
  clear a0 a1 hb
  obtain ⟨_, a0, a1⟩ := HKP.out _ HB4.out
  by_cases hc0 : ce = 0
  · have HPA := Lib.hid (H4.out hc0)
    subst hc0
    go_wp2_with fail
    refine (HPA.out _ (HKP.out _ HB4.out).1).mono ?_
    rintro e w5 ⟨A2, c2, rfl, hL2, hb⟩
    have HB5 : Hid (Below W0.heap.size W0 w5) := HB4.out.trans (hb.mono HB4.out.size)
    have HL2 := Lib.hid hL2
    have HL5 : Hid (LS w5 A n ls) := HL.out.below (HKP.out _ HB5.out).1
    have hbl : ∀ o, Below w5.heap.size w5 (w5.alloc o) := fun o => (Below.refl _ _).alloc (Nat.le_refl _) _
    have HBL := Lib.hid hbl
    have q0 : ∀ o, (w5.alloc o).cell? ⟨P, 0, none⟩ = some (.int .i64 f) := fun o => (HKP.out _ (HB5.out.trans ((hbl o).mono HB5.out.size))).2.1
    have q1 : ∀ o, (w5.alloc o).cell? ⟨P, 1, none⟩ = some (.slice A n c) := fun o => (HKP.out _ (HB5.out.trans ((hbl o).mono HB5.out.size))).2.2
    clear a0 a1 hb hL2 hbl
    go_wp2_with fail
    have HB6 : Hid (Below W0.heap.size W0 (w5.alloc (.cells #[.int .i64 f, .slice A2 n c2] 24))) := HB5.out.trans ((HBL.out _).mono HB5.out.size)
    refine (codeEq_yes f A2 A n n c2 c ls _ (HL2.out.below (HBL.out _)) (HL5.out.below (HBL.out _)) hle).mono ?_
    rintro e w6 ⟨rfl, hb⟩
    have HB7 : Hid (Below W0.heap.size W0 w6) := HB6.out.trans (hb.mono HB6.out.size)
    clear q0 q1 hb
    go_wp2_with fail
    refine (HKN.out _ (HKP.out _ HB7.out).1).mono ?_
    rintro e w7 ⟨rfl, hb⟩
    go_wp2_with fail
    go_ret
    exact ⟨rfl, (HKP.out _ HB7.out).1.trans (hb.mono (HKP.out _ HB7.out).1.size)⟩
  · have hcb : (ce == 0) = false := by rw [beq_eq_false_iff_ne]; exact hc0
    have hcb2 : (ce != 0) = true := by rw [bne_iff_ne]; exact hc0
    clear hc0
    go_wp2_with fail
    refine (HKN.out _ (HKP.out _ HB4.out).1).mono ?_
    rintro e w5 ⟨rfl, hb⟩
    go_wp2_with fail
    go_ret
    exact ⟨rfl, (HKP.out _ HB4.out).1.trans (hb.mono (HKP.out _ HB4.out).1.size)⟩

theorem codePrints_walk (f : Int) (A : Option Addr) (n c : Nat) (ls : List Lt) (w : World) (hf : I64 f) (hL : LS w A n ls) (_hn : n ≤ maxLen) (hI : ∀ l, l ∈ ls → LtAll l) (_hz : A = none → c = 0) (_hs : n ≤ c) (_hA : ∀ b off, A = some ⟨b, off, none⟩ → b < w.heap.size) (hT : LibW w) :
    Calls Tryz.prog 3 #[.agg #[.int .i64 f, .slice A n c]] w fun e w' => e = .returned (.bool true) ∧ Below w.heap.size w w' := by
  by_cases h60 : n ≤ 60
  · have hli : ∀ l, l ∈ ls → LtI l := fun l hl => ⟨(hI l hl).2.1, (hI l hl).2.2.1, (hI l hl).2.2.2.1⟩
    refine codePrints_main f A n c ls (checkE f ls) ⟨(printC f ls).toArray⟩ w h60 hL (fun W hW => codePrint_calls f A n c ls W (hT.itoa.below hW) (hL.below hW) (by omega) hf hli) (fun W hW => refPrintC_calls f A n c ls W (hL.below hW) (by omega) hf hli) (fun W hW => refCheck_full f A n c ls W (hL.below hW)) (fun hv W hW => ?_) hT.itoa
    obtain ⟨r1, r2, r3⟩ := read_print hv
    have hb := print_bound hf hli
    have hsz : (⟨(printC f ls).toArray⟩ : ByteArray).size ≤ 8000 := by
      have := hL.1
      simp only [ByteArray.size, List.size_toArray]; omega
    refine (parse_any ⟨(printC f ls).toArray⟩ W (hT.below hW)).mono ?_
    unfold ParsePostC
    dsimp only
    rw [r1, r2]
    rintro e w' ⟨hbw, ⟨h, _⟩ | ⟨_, h, _⟩ | ⟨_, _, h, _⟩ | ⟨_, _, _, A2, n2, c2, rfl, hL2⟩⟩
    · exfalso; omega
    · rcases h with h | h
      · exact absurd rfl h
      · exact absurd h r3
    · exact absurd hv h
    · have e2 : n2 = n := by have := hL2.1; have := hL.1; omega
      subst e2
      exact ⟨A2, c2, rfl, hL2, hbw⟩
  · exact codePrints_big f A n c w h60 hT.itoa

end Go.Proofs.YtplpccgbciglpaaGreatDoor
