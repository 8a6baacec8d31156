/-
  The walk of the law CodeParses.
-/
import Derived.Test.YtplpccgbciglpaaGreatDoorParB
import Derived.Test.YtplpccgbciglpaaGreatDoorRefPr
import Derived.Test.YtplpccgbciglpaaGreatDoorLawH
import Derived.Test.YtplpccgbciglpaaGreatDoorRefX
import Derived.Deep.RegionHeld3
namespace Go.Proofs.YtplpccgbciglpaaGreatDoor
open Go.RowKit

theorem checkE_vals (f : Int) (ls : List Lt) : checkE f ls = 0 ∨ checkE f ls = 7 ∨ checkE f ls = 2 ∨ checkE f ls = 3 := by
  unfold checkE
  repeat' split
  all_goals first | exact .inl rfl | exact .inr (.inl rfl) | exact .inr (.inr (.inl rfl)) | exact .inr (.inr (.inr rfl))

set_option maxHeartbeats 4000000 in
set_option maxRecDepth 100000 in
/-- A string that is refused. -/
theorem codeParses_err (s : ByteArray) (ce : Int) (w : World) (h6 : s.size ≤ 600) (hce : ce = 6 ∨ ce = 7 ∨ ce = 2 ∨ ce = 3)
    (hP : ∀ W, Below w.heap.size w W → Calls Tryz.prog 10 #[.string s] W fun e w' => e = .returned (.tuple #[.agg #[.int .i64 0, .slice none 0 0], .int .i64 ce]) ∧ Below W.heap.size W w') (hT : ItoaAll w) :
    Calls Tryz.prog 4 #[.string s] w fun e w' => e = .returned (.bool true) ∧ Below w.heap.size w w' := by
  have HP := Lib.hid (hP w (Below.refl _ _))
  have HKN : Hid (∀ W, Below w.heap.size w W → Calls Tryz.prog 6 #[] W fun e w' => e = .returned (.bool true) ∧ Below W.heap.size W w') := fun W hW => known_calls W (hT.below hW)
  have h6i : ¬ (600 : Int) < s.size := by omega
  have h8i : ¬ (8000 : Int) < s.size := by omega
  have hz : (ce == 0) = false := by rw [beq_eq_false_iff_ne]; omega
  clear hP hT
  go_enter Tryz.func4, Tryz.ntmps4
  go_wp2_with fail
  refine HP.out.mono ?_
  rintro e w1 ⟨rfl, hb1⟩
  have HB1 := Lib.hid hb1
  clear hb1
  go_wp2_with fail
  all_goals
    have hbl : Below w1.heap.size w1 (w1.alloc (.cells #[.int .i64 0, .slice none 0 0] 24)) := (Below.refl _ _).alloc (Nat.le_refl _) _
    have HB2 : Hid (Below w.heap.size w (w1.alloc (.cells #[.int .i64 0, .slice none 0 0] 24))) := HB1.out.trans (hbl.mono HB1.out.size)
    first
      | (exfalso; omega)
      | (refine (codeEq_yes 0 none none 0 0 0 0 [] _ (LS.nil _ _) (LS.nil _ _) (by omega)).mono ?_
         rintro e w2 ⟨rfl, hb2⟩
         have HB3 : Hid (Below w.heap.size w w2) := HB2.out.trans (hb2.mono HB2.out.size)
         clear hb2
         go_wp2_with fail
         refine (HKN.out _ HB3.out).mono ?_
         rintro e w3 ⟨rfl, hb3⟩
         go_wp2_with fail
         go_ret
         exact ⟨rfl, HB3.out.trans (hb3.mono HB3.out.size)⟩)

set_option maxHeartbeats 4000000 in
set_option maxRecDepth 100000 in
/-- A string that is too long, and one whose length is not asked for. -/
theorem codeParses_long (s : ByteArray) (w : World) (h6 : 8000 < s.size) (hP : ∀ W, Below w.heap.size w W → Calls Tryz.prog 10 #[.string s] W fun e w' => e = .returned (.tuple #[.agg #[.int .i64 0, .slice none 0 0], .int .i64 7]) ∧ Below W.heap.size W w') (hT : ItoaAll w) :
    Calls Tryz.prog 4 #[.string s] w fun e w' => e = .returned (.bool true) ∧ Below w.heap.size w w' := by
  have HP := Lib.hid (hP w (Below.refl _ _))
  have HKN : Hid (∀ W, Below w.heap.size w W → Calls Tryz.prog 6 #[] W fun e w' => e = .returned (.bool true) ∧ Below W.heap.size W w') := fun W hW => known_calls W (hT.below hW)
  have h6i : (600 : Int) < s.size := by omega
  have h8i : (8000 : Int) < s.size := by omega
  have h8j : ¬ (s.size : Int) ≤ 8000 := by omega
  clear hP hT
  go_enter Tryz.func4, Tryz.ntmps4
  go_wp2_with fail
  refine HP.out.mono ?_
  rintro e w1 ⟨rfl, hb1⟩
  have HB1 := Lib.hid hb1
  clear hb1
  go_wp2_with fail
  have hbl : Below w1.heap.size w1 (w1.alloc (.cells #[.int .i64 0, .slice none 0 0] 24)) := (Below.refl _ _).alloc (Nat.le_refl _) _
  have HB2 : Hid (Below w.heap.size w (w1.alloc (.cells #[.int .i64 0, .slice none 0 0] 24))) := HB1.out.trans (hbl.mono HB1.out.size)
  refine (codeEq_yes 0 none none 0 0 0 0 [] _ (LS.nil _ _) (LS.nil _ _) (by omega)).mono ?_
  rintro e w2 ⟨rfl, hb2⟩
  have HB3 : Hid (Below w.heap.size w w2) := HB2.out.trans (hb2.mono HB2.out.size)
  clear hb2
  go_wp2_with fail
  refine (HKN.out _ HB3.out).mono ?_
  rintro e w3 ⟨rfl, hb3⟩
  go_wp2_with fail
  go_ret
  exact ⟨rfl, HB3.out.trans (hb3.mono HB3.out.size)⟩

set_option maxHeartbeats 4000000 in
set_option maxRecDepth 100000 in
theorem codeParses_mid (s : ByteArray) (w : World) (h6 : 600 < s.size ∧ s.size ≤ 8000) (hT : ItoaAll w) :
    Calls Tryz.prog 4 #[.string s] w fun e w' => e = .returned (.bool true) ∧ Below w.heap.size w w' := by
  have HKN : Hid (∀ W, Below w.heap.size w W → Calls Tryz.prog 6 #[] W fun e w' => e = .returned (.bool true) ∧ Below W.heap.size W w') := fun W hW => known_calls W (hT.below hW)
  have h6i : (600 : Int) < s.size := by omega
  have h8i : ¬ (8000 : Int) < s.size := by omega
  have h8j : (s.size : Int) ≤ 8000 := by omega
  clear hT
  go_enter Tryz.func4, Tryz.ntmps4
  go_wp2_with fail
  refine (HKN.out _ (Below.refl _ _)).mono ?_
  rintro e w3 ⟨rfl, hb3⟩
  go_wp2_with fail
  go_ret
  exact ⟨rfl, hb3⟩

set_option maxHeartbeats 4000000 in
set_option maxRecDepth 100000 in
/-- A string that is read. -/
theorem codeParses_ok (s : ByteArray) (f : Int) (ls : List Lt) (w : World) (h6 : s.size ≤ 600)
    (hP : ∀ W, Below w.heap.size w W → Calls Tryz.prog 10 #[.string s] W fun e w' => ∃ A n c, e = .returned (.tuple #[.agg #[.int .i64 f, .slice A n c], .int .i64 0]) ∧ LS w' A n ls ∧ n ≤ 1000000 ∧ Below W.heap.size W w')
    (hRC : ∀ A n c W, LS W A n ls → Calls Tryz.prog 9 #[.agg #[.int .i64 f, .slice A n c]] W fun e w' => e = .returned (.int .i64 0) ∧ Below W.heap.size W w')
    (hRP : ∀ A n c W, LS W A n ls → n ≤ 1000000 → Calls Tryz.prog 8 #[.agg #[.int .i64 f, .slice A n c]] W fun e w' => e = .returned (.string s) ∧ Below W.heap.size W w') (hT : ItoaAll w) :
    Calls Tryz.prog 4 #[.string s] w fun e w' => e = .returned (.bool true) ∧ Below w.heap.size w w' := by
  have HP := Lib.hid (hP w (Below.refl _ _))
  have HKN : Hid (∀ W, Below w.heap.size w W → Calls Tryz.prog 6 #[] W fun e w' => e = .returned (.bool true) ∧ Below W.heap.size W w') := fun W hW => known_calls W (hT.below hW)
  have HRC := Lib.hid hRC
  have HRP := Lib.hid hRP
  have h6i : ¬ (600 : Int) < s.size := by omega
  have h8i : ¬ (8000 : Int) < s.size := by omega
  have hss : (s.toList == s.toList) = true := by simp
  clear hP hT hRC hRP
  go_enter Tryz.func4, Tryz.ntmps4
  go_wp2_with fail
  refine HP.out.mono ?_
  rintro e w1 ⟨A, n, c, rfl, hL, hn, hb1⟩
  obtain ⟨V, hV⟩ : ∃ V, V = w1.alloc (.cells #[.int .i64 f, .slice A n c] 24) := ⟨_, rfl⟩
  obtain ⟨P, hP⟩ : ∃ P, P = w1.heap.size := ⟨_, rfl⟩
  have hbl : Below w1.heap.size w1 V := by rw [hV]; exact (Below.refl _ _).alloc (Nat.le_refl _) _
  have HB2 : Hid (Below w.heap.size w V) := hb1.trans (hbl.mono hb1.size)
  have HPV : Hid (V.heap[P]? = some (.cells #[.int .i64 f, .slice A n c] 24 (0, 0))) := by rw [hV, hP]; exact heap_alloc_new w1 _
  have HL := Lib.hid (hL.below hbl)
  have HV := Lib.hid hV
  have HPE := Lib.hid hP
  have p0 := Lib.cell_of_heap HPV.out 0
  have p1 := Lib.cell_of_heap HPV.out 1
  rw [hV] at p0 p1
  rw [hP] at p0 p1
  clear hb1 hL hbl hV hP
  go_wp2_with fail
  rw [← HV.out, ← HPE.out]
  clear p0 p1
  refine (HRC.out _ _ _ _ HL.out).mono ?_
  rintro e w2 ⟨rfl, hb2⟩
  have HB3 : Hid (Below w.heap.size w w2) := HB2.out.trans (hb2.mono HB2.out.size)
  have HL2 := Lib.hid (HL.out.below hb2)
  have HP2 : Hid (w2.heap[P]? = some (.cells #[.int .i64 f, .slice A n c] 24 (0, 0))) := (hb2.block P (heap_ltP HPV.out)).trans HPV.out
  have p0 := Lib.cell_of_heap HP2.out 0
  have p1 := Lib.cell_of_heap HP2.out 1
  clear hb2
  go_wp2_with fail
  refine (HRP.out _ _ _ _ HL2.out hn).mono ?_
  rintro e w3 ⟨rfl, hb3⟩
  have HB4 : Hid (Below w.heap.size w w3) := HB3.out.trans (hb3.mono HB3.out.size)
  clear hb3 p0 p1
  go_wp2_with fail
  refine (HKN.out _ HB4.out).mono ?_
  rintro e w4 ⟨rfl, hb4⟩
  go_wp2_with fail
  go_ret
  exact ⟨rfl, HB4.out.trans (hb4.mono HB4.out.size)⟩

theorem codeParses_walk (s : ByteArray) (w : World) (hT : LibW w) :
    Calls Tryz.prog 4 #[.string s] w fun e w' => e = .returned (.bool true) ∧ Below w.heap.size w w' := by
  have hP := fun (W : World) (hW : Below w.heap.size w W) => parse_any s W (hT.below hW)
  by_cases h8 : 8000 < s.size
  · refine codeParses_long s w h8 (fun W hW => (hP W hW).mono ?_) hT.itoa
    rintro e w' ⟨hb, ⟨_, rfl⟩ | ⟨h, _⟩ | ⟨h, _⟩ | ⟨h, _⟩⟩
    · exact ⟨rfl, hb⟩
    all_goals (exfalso; omega)
  by_cases h6 : 600 < s.size
  · exact codeParses_mid s w ⟨h6, by omega⟩ hT.itoa
  obtain ⟨f, hf⟩ : ∃ f, headM s.data.toList = f := ⟨_, rfl⟩
  obtain ⟨ls, hls⟩ : ∃ ls, (wordsM s.data.toList).map letterM = ls := ⟨_, rfl⟩
  have hlen : ls.length ≤ 8002 := by
    have := (words_len (s := s.data.toList)).1
    rw [← Lib.size_eq] at this
    rw [← hls, List.length_map]; omega
  have hI : ∀ l, l ∈ ls → LtI l := fun l hl => by
    rw [← hls] at hl
    obtain ⟨x, _, rfl⟩ := List.mem_map.1 hl
    exact letterM_ltI x
  have hIf : I64 f := by rw [← hf]; exact numV_i64 _
  unfold ParsePostC at hP
  rw [hf, hls] at hP
  by_cases hbad : printC f ls = s.data.toList ∧ ¬ (63 : UInt8) ∈ s.data.toList
  · by_cases hc : checkE f ls = 0
    · refine codeParses_ok s f ls w (by omega) (fun W hW => (hP W hW).mono ?_) (fun A n c W hL => ?_) (fun A n c W hL hn => ?_) hT.itoa
      · rintro e w' ⟨hb, ⟨h, _⟩ | ⟨_, h, _⟩ | ⟨_, _, h, _⟩ | ⟨_, _, _, A, n, c, rfl, hL⟩⟩
        · exfalso; omega
        · rcases h with h | h
          · exact absurd hbad.1 h
          · exact absurd h hbad.2
        · exact absurd hc h
        · exact ⟨A, n, c, rfl, hL, by have := hL.1; omega, hb⟩
      · have := refCheck_full f A n c ls W hL
        rw [hc] at this
        exact this
      · have := refPrintC_calls f A n c ls W hL hn hIf hI
        have e : (⟨(printC f ls).toArray⟩ : ByteArray) = s := by rw [hbad.1]
        rw [e] at this
        exact this
    · refine codeParses_err s (checkE f ls) w (by omega) (by have := checkE_vals f ls; omega) (fun W hW => (hP W hW).mono ?_) hT.itoa
      rintro e w' ⟨hb, ⟨h, _⟩ | ⟨_, h, _⟩ | ⟨_, _, _, rfl⟩ | ⟨_, _, h, _⟩⟩
      · exfalso; omega
      · rcases h with h | h
        · exact absurd hbad.1 h
        · exact absurd h hbad.2
      · exact ⟨rfl, hb⟩
      · exact absurd h hc
  · refine codeParses_err s 6 w (by omega) (.inl rfl) (fun W hW => (hP W hW).mono ?_) hT.itoa
    rintro e w' ⟨hb, ⟨h, _⟩ | ⟨_, _, rfl⟩ | ⟨_, h, _⟩ | ⟨_, h, _⟩⟩
    · exfalso; omega
    · exact ⟨rfl, hb⟩
    · exact absurd h hbad
    · exact absurd h hbad

end Go.Proofs.YtplpccgbciglpaaGreatDoor
