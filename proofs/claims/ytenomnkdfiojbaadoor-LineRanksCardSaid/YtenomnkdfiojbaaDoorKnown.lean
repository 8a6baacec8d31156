/-
  The walk of the law package's known: the rows of the chapter's examples come out as they stand there.
-/
import Derived.Test.YtenomnkdfiojbaaDoorEqual
import Derived.Test.YtenomnkdfiojbaaDoorWind
import Derived.Test.YtenomnkdfiojbaaDoorOnly
import Derived.Test.YtenomnkdfiojbaaDoorPrint
namespace Go.Proofs.YtenomnkdfiojbaaDoor
open Go.RowKit

theorem itoaAt_small (w : World) (i : Nat) (hi : i < 100) : ItoaAt w i := by
  intro W _
  refine (Tryd.strconv_Itoa_small i hi W).mono ?_
  rintro e W' ⟨rfl, rfl⟩
  rw [Lib.itoa_nonneg]
  exact ⟨rfl, Below.refl _ _⟩

theorem known_a : (if errB 40 [1, 2, 3, 0] = 0 then Ln.normal [1, 2, 3, 0] else []) = [0, 3, 2, 1] := by decide +kernel
theorem known_b : (if errB 40 [2, 1, 1, 3] = 0 then Ln.normal [2, 1, 1, 3] else []) = [2, 3] := by decide +kernel
theorem known_c : (if errB 40 [0, 1, 1, 0] = 0 then Ln.normal [0, 1, 1, 0] else []) = [] := by decide +kernel
theorem known_d : forgetErr 3 [0, 2] 1 = 0 ∧ Ln.normal (dropL 1 [0, 2]) = [0, 1] := by decide +kernel
theorem known_e : errB 3 [2, 0] = 0 ∧ windL (3 : Int).toNat [2, 0] = [-1, -1, 0] := by decide +kernel
theorem known_f : reducedB [0, 1, 0, 1] = true ∧ outerM [0, 1, 0, 1] 4 = none := by decide +kernel
theorem known_g : errB 3 [0, 1, 2, 3] = 0 ∧ insideL (3 : Int).toNat [0, 1, 2, 3] = [1, 3] := by decide +kernel
theorem known_h : printL [0, 12] = [48, 32, 49, 50] := by decide +kernel

theorem normal_a (A : Option Addr) (cap : Nat) (w : World) (h : SL w A 4 [1, 2, 3, 0]) :
    Calls Tryd.prog 31 #[.slice A 4 cap] w (ListPost w [0, 3, 2, 1] 4) := by
  have := normalOf_calls A 4 cap 4 _ w h (by unfold maxLen; omega) (by rw [known_a]; rfl)
  rwa [known_a] at this
theorem normal_b (A : Option Addr) (cap : Nat) (w : World) (h : SL w A 4 [2, 1, 1, 3]) :
    Calls Tryd.prog 31 #[.slice A 4 cap] w (ListPost w [2, 3] 2) := by
  have := normalOf_calls A 4 cap 2 _ w h (by unfold maxLen; omega) (by rw [known_b]; rfl)
  rwa [known_b] at this
theorem normal_c (A : Option Addr) (cap : Nat) (w : World) (h : SL w A 4 [0, 1, 1, 0]) :
    Calls Tryd.prog 31 #[.slice A 4 cap] w (ListPost w [] 0) := by
  have := normalOf_calls A 4 cap 0 _ w h (by unfold maxLen; omega) (by rw [known_c]; rfl)
  rwa [known_c] at this
theorem forget_d (A : Option Addr) (cap : Nat) (w : World) (h : SL w A 2 [0, 2]) :
    Calls Tryd.prog 32 #[.int .i64 3, .slice A 2 cap, .int .i64 1] w
      fun e w' => ∃ A c, e = .returned (.tuple #[.slice A 2 c, .int .i64 0]) ∧ OwnI w' w.heap.size (.slice A 2 c) [0, 1] ∧ 2 ≤ c ∧ Below w.heap.size w w' := by
  have := forget_calls 3 A 2 cap [0, 2] 1 w h (by unfold maxLen; omega)
  rw [known_d.2] at this
  exact this.mono fun e w' h => ErrPost.get_ok known_d.1 rfl h
theorem winding_e (A : Option Addr) (cap : Nat) (w : World) (h : SL w A 2 [2, 0]) :
    Calls Tryd.prog 34 #[.int .i64 3, .slice A 2 cap] w
      fun e w' => ∃ A c, e = .returned (.tuple #[.slice A 3 c, .int .i64 0]) ∧ OwnI w' w.heap.size (.slice A 3 c) [-1, -1, 0] ∧ 3 ≤ c ∧ Below w.heap.size w w' := by
  have := winding_calls 3 A 2 cap [2, 0] w h (by unfold maxLen; omega)
  rw [known_e.2] at this
  exact this.mono fun e w' h => ErrPost.get_ok known_e.1 rfl h
theorem ranks_f (A : Option Addr) (cap : Nat) (w : World) (h : SL w A 4 [0, 1, 0, 1]) :
    Calls Tryd.prog 38 #[.slice A 4 cap] w fun e w' => ∃ A c, e = .returned (.tuple #[.slice A 0 c, .int .i64 8]) ∧ Below w.heap.size w w' :=
  (ranks_none A 4 cap [0, 1, 0, 1] w h known_f.1 (by omega) known_f.2).mono fun e w' h => ErrPost.get_err (by decide) h
theorem inside_g (A : Option Addr) (cap : Nat) (w : World) (h : SL w A 4 [0, 1, 2, 3]) :
    Calls Tryd.prog 35 #[.int .i64 3, .slice A 4 cap] w
      fun e w' => ∃ A c, e = .returned (.tuple #[.slice A 2 c, .int .i64 0]) ∧ OwnI w' w.heap.size (.slice A 2 c) [1, 3] ∧ 2 ≤ c ∧ Below w.heap.size w w' := by
  have := inside_calls 3 A 4 cap [0, 1, 2, 3] w h (by unfold maxLen; omega)
  rw [known_g.2] at this
  exact this.mono fun e w' h => ErrPost.get_ok known_g.1 rfl h
theorem print_h (A : Option Addr) (cap : Nat) (w : World) (h : SL w A 2 [0, 12]) :
    Calls Tryd.prog 47 #[.slice A 2 cap] w fun e w' => e = .returned (.string ⟨#[48, 32, 49, 50]⟩) ∧ Below w.heap.size w w' := by
  have := print_calls A 2 cap [0, 12] w h (by omega)
    (fun x hx => by
      rcases List.mem_cons.1 hx with rfl | hx
      · exact itoaAt_small w 0 (by omega)
      · rcases List.mem_cons.1 hx with rfl | hx
        · exact itoaAt_small w 12 (by omega)
        · cases hx)
    (fun x hx => by
      rcases List.mem_cons.1 hx with rfl | hx
      · exact Lib.itoa_length_le 0 (by omega) (by omega)
      · rcases List.mem_cons.1 hx with rfl | hx
        · exact Lib.itoa_length_le 12 (by omega) (by omega)
        · cases hx)
  rw [known_h] at this
  exact this
/-- Two lists that read alike. -/
theorem equal_yes (A1 A2 : Option Addr) (n c1 c2 : Nat) (xs : List Int) (w : World) (h1 : SL w A1 n xs) (h2 : SL w A2 n xs) (hn : n ≤ 1000) :
    Calls Tryd.prog 18 #[.slice A1 n c1, .slice A2 n c2] w fun e w' => e = .returned (.bool true) ∧ Below w.heap.size w w' := by
  have := equal_calls A1 A2 n c1 n c2 xs xs w h1 h2 (by unfold maxLen; omega)
  simpa using this

set_option maxHeartbeats 4000000 in
set_option maxRecDepth 100000 in
theorem known_calls (w : World) : Calls Tryd.prog 17 #[] w fun e w' => e = .returned (.bool true) ∧ Below w.heap.size w w' := by
  go_enter Tryd.func17, Tryd.ntmps17
  go_wp2_with fail
  refine (normal_a _ _ _ (SL.made w _ [1, 2, 3, 0])).mono ?_
  rintro e w1 ⟨A1, c1, rfl, hown1, _, hb1⟩
  have q1 : Below w.heap.size w w1 := ((Below.refl _ _).alloc (Nat.le_refl _) _).trans (hb1.mono (by simp))
  have s1 := hown1.sl
  clear hown1 hb1
  go_wp2_with fail
  refine (equal_yes _ _ 4 _ _ [0, 3, 2, 1] _ (s1.alloc _) (SL.made w1 _ [0, 3, 2, 1]) (by omega)).mono ?_
  rintro e w2 ⟨rfl, hb2⟩
  have q2 : Below w.heap.size w w2 := (q1.alloc q1.size _).trans (hb2.mono (by have := q1.size; simp; omega))
  clear s1 hb2
  go_wp2_with fail
  refine (normal_b _ _ _ (SL.made w2 _ [2, 1, 1, 3])).mono ?_
  rintro e w3 ⟨A3, c3, rfl, hown3, _, hb3⟩
  have q3 : Below w.heap.size w w3 := (q2.alloc q2.size _).trans (hb3.mono (by have := q2.size; simp; omega))
  have s3 := hown3.sl
  clear hown3 hb3
  go_wp2_with fail
  refine (equal_yes _ _ 2 _ _ [2, 3] _ (s3.alloc _) (SL.made w3 _ [2, 3]) (by omega)).mono ?_
  rintro e w4 ⟨rfl, hb4⟩
  have q4 : Below w.heap.size w w4 := (q3.alloc q3.size _).trans (hb4.mono (by have := q3.size; simp; omega))
  clear s3 hb4
  go_wp2_with fail
  refine (normal_c _ _ _ (SL.made w4 _ [0, 1, 1, 0])).mono ?_
  rintro e w5 ⟨A5, c5, rfl, hown5, _, hb5⟩
  have q5 : Below w.heap.size w w5 := (q4.alloc q4.size _).trans (hb5.mono (by have := q4.size; simp; omega))
  clear hown5 hb5
  go_wp2_with fail
  refine (forget_d _ _ _ (SL.made w5 _ [0, 2])).mono ?_
  rintro e w6 ⟨A6, c6, rfl, hown6, _, hb6⟩
  have q6 : Below w.heap.size w w6 := (q5.alloc q5.size _).trans (hb6.mono (by have := q5.size; simp; omega))
  have s6 := hown6.sl
  clear hown6 hb6
  go_wp2_with fail
  refine (winding_e _ _ _ (SL.made w6 _ [2, 0])).mono ?_
  rintro e w7 ⟨A7, c7, rfl, hown7, _, hb7⟩
  have p7 : Below w6.heap.size w6 w7 := ((Below.refl _ _).alloc (Nat.le_refl _) _).trans (hb7.mono (by simp))
  have q7 : Below w.heap.size w w7 := q6.trans (p7.mono q6.size)
  have s67 := s6.below p7
  have s7 := hown7.sl
  clear hown7 hb7 s6 p7
  go_wp2_with fail
  refine (ranks_f _ _ _ (SL.made w7 _ [0, 1, 0, 1])).mono ?_
  rintro e w8 ⟨A8, c8, rfl, hb8⟩
  have p8 : Below w7.heap.size w7 w8 := ((Below.refl _ _).alloc (Nat.le_refl _) _).trans (hb8.mono (by simp))
  have q8 : Below w.heap.size w w8 := q7.trans (p8.mono q7.size)
  have s68 := s67.below p8
  have s78 := s7.below p8
  clear hb8 s67 s7 p8
  go_wp2_with fail
  refine (inside_g _ _ _ (SL.made w8 _ [0, 1, 2, 3])).mono ?_
  rintro e w9 ⟨A9, c9, rfl, hown9, _, hb9⟩
  have p9 : Below w8.heap.size w8 w9 := ((Below.refl _ _).alloc (Nat.le_refl _) _).trans (hb9.mono (by simp))
  have q9 : Below w.heap.size w w9 := q8.trans (p9.mono q8.size)
  have s69 := s68.below p9
  have s79 := s78.below p9
  have s9 := hown9.sl
  clear hown9 hb9 s68 s78 p9
  go_wp2_with fail
  refine (equal_yes _ _ 2 _ _ [0, 1] _ (s69.alloc _) (SL.made w9 _ [0, 1]) (by omega)).mono ?_
  rintro e wa ⟨rfl, hba⟩
  have pa : Below w9.heap.size w9 wa := ((Below.refl _ _).alloc (Nat.le_refl _) _).trans (hba.mono (by simp))
  have qa : Below w.heap.size w wa := q9.trans (pa.mono q9.size)
  have s7a := s79.below pa
  have s9a := s9.below pa
  clear hba s69 s79 s9 pa
  go_wp2_with fail
  refine (equal_yes _ _ 3 _ _ [-1, -1, 0] _ (s7a.alloc _) (SL.made wa _ [-1, -1, 0]) (by omega)).mono ?_
  rintro e wb ⟨rfl, hbb⟩
  have pb : Below wa.heap.size wa wb := ((Below.refl _ _).alloc (Nat.le_refl _) _).trans (hbb.mono (by simp))
  have qb : Below w.heap.size w wb := qa.trans (pb.mono qa.size)
  have s9b := s9a.below pb
  clear hbb s7a s9a pb
  go_wp2_with fail
  refine (equal_yes _ _ 2 _ _ [1, 3] _ (s9b.alloc _) (SL.made wb _ [1, 3]) (by omega)).mono ?_
  rintro e wc ⟨rfl, hbc⟩
  have pc : Below wb.heap.size wb wc := ((Below.refl _ _).alloc (Nat.le_refl _) _).trans (hbc.mono (by simp))
  have qc : Below w.heap.size w wc := qb.trans (pc.mono qb.size)
  clear hbc s9b pc
  go_wp2_with fail
  refine (print_h _ _ _ (SL.made wc _ [0, 12])).mono ?_
  rintro e wd ⟨rfl, hbd⟩
  have qd : Below w.heap.size w wd := (qc.alloc qc.size _).trans (hbd.mono (by have := qc.size; simp; omega))
  clear hbd
  go_wp2_with fail
  go_ret
  exact ⟨rfl, qd⟩

end Go.Proofs.YtenomnkdfiojbaaDoor
