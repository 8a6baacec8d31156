/-
  The walk of the law CodeFaces.
-/
import Derived.Test.YtbbpockkafbfmaaDoorSmF
import Derived.Test.YtbbpockkafbfmaaDoorRefF
import Derived.Test.YtbbpockkafbfmaaDoorSmall
import Derived.Test.YtbbpockkafbfmaaDoorRefX
import Derived.Test.YtbbpockkafbfmaaDoorDoorL
namespace Go.Proofs.YtbbpockkafbfmaaDoor
open Go.RowKit

theorem heap_ltE {w : World} {q : Nat} {o : Obj} (h : w.heap[q]? = some o) : q < w.heap.size := by
  rcases Nat.lt_or_ge q w.heap.size with c | c
  · exact c
  · rw [Array.getElem?_eq_none c] at h; cases h

set_option maxHeartbeats 1000000 in
theorem walks_nil (P : Nat) (f : Int) (A : Option Addr) (c : Nat) (vA vX vS vO : Value) (w : World) (h : Dia w P f (.slice A 0 c) vA vX vS vO) :
    Calls Tryd.prog 44 #[.pointer (some ⟨P, 0, none⟩)] w fun e w' => e = .returned (.slice none 0 0) ∧ Below w.heap.size w w' := by
  obtain ⟨hP, p0, p1, p2, p3, p4, p5⟩ := h
  go_enter Tryd.func44, Tryd.ntmps44
  go_wp2_with fail
  go_step3
  go_wp2_with (first
    | (at_make; refine wpList_make_boolsV rfl _ _ rfl 0 0 rfl rfl rfl (by omega) ?_; intro w1 hown1 hb1; have HB1 := Lib.hid hb1; clear hown1 hb1)
    | (at_make; refine wpList_make_intsCap rfl _ _ rfl 0 0 rfl rfl rfl (by omega) w.heap.size (HB1.out.size) ?_; intro w2 hown2 hb2; have HB2 := Lib.hid hb2; clear hown2 hb2))
  go_step3
  go_wp2_with fail
  refine wp_loop_rounds 1 ?_
  rw [rounds_succ]
  go_wp2_with fail
  try rw [Exit.noGoto_ret]
  go_ret
  exact ⟨rfl, HB1.out.trans (HB2.out.mono HB1.out.size)⟩

set_option maxHeartbeats 1000000 in
theorem faces_nil (f : Int) (A : Option Addr) (c : Nat) (ls : List Lt) (w : World) (hL : LS w A 0 ls) (hA : ∀ b off, A = some ⟨b, off, none⟩ → b < w.heap.size) (hv : checkE f ls = 0) :
    Calls Tryd.prog 14 #[.agg #[.int .i64 f, .slice A 0 c]] w fun e w' => e = .returned (.tuple #[.slice none 0 0, .int .i64 0]) ∧ Below w.heap.size w w' := by
  have hl0 : ls = [] := List.eq_nil_of_length_eq_zero hL.1
  have HDR : Hid (∀ W, Below w.heap.size w W → Calls Tryd.prog 43 #[.agg #[.int .i64 f, .slice A 0 c]] W fun e w' => ∃ P vA vX vS vO, e = .returned (.tuple #[.pointer (some ⟨P, 0, none⟩), .int .i64 0]) ∧ Dia w' P f (.slice A 0 c) vA vX vS vO ∧ Below W.heap.size W w') := by
    intro W hW
    refine (draw_calls f A 0 c ls W (hL.below hW) (fun b off e => Nat.lt_of_lt_of_le (hA b off e) hW.size) (fun l hl => by rw [hl0] at hl; cases hl)).mono ?_
    rintro e w' ⟨hb, ⟨hne, _⟩ | ⟨P, _, _, _, rfl, h1, h2, h3, h4, ga, x, s, o, st, pt, g1, g2, g3, g4, e1, e2, e3, h, o1, o2, o3, o4⟩⟩
    · exact absurd hv hne
    · exact ⟨P, _, _, _, _, rfl, h.dia, hb⟩
  clear hL hA hv hl0
  go_enter Tryd.func14, Tryd.ntmps14
  go_wp2_with fail
  refine (HDR.out _ ((Below.refl _ _).alloc (Nat.le_refl _) _)).mono ?_
  rintro e w1 ⟨P, vA, vX, vS, vO, rfl, hd, hb1⟩
  have HB1 : Hid (Below w.heap.size w w1) := ((Below.refl w.heap.size w).alloc (Nat.le_refl _) _).trans (hb1.mono (by simp))
  have HW := Lib.hid (walks_nil P f A c vA vX vS vO w1 hd)
  clear hb1 hd
  go_wp2_with (first
    | (go_at_call 44; refine HW.out.mono ?_; rintro e w2 ⟨rfl, hb2⟩; have HB2 := Lib.hid hb2; clear hb2))
  refine wp_loop_rounds 1 ?_
  rw [rounds_succ]
  go_wp2_with fail
  go_ret2
  exact ⟨rfl, HB1.out.trans (HB2.out.mono HB1.out.size)⟩

set_option maxHeartbeats 8000000 in
set_option maxRecDepth 100000 in
theorem codeFaces_nil (f : Int) (A : Option Addr) (c : Nat) (w : World) (hRC : ∀ W, Below w.heap.size w W → Calls Tryd.prog 12 #[.agg #[.int .i64 f, .slice A 0 c]] W fun e w' => e = .returned (.int .i64 0) ∧ Below W.heap.size W w')
    (hFN : ∀ W, Below w.heap.size w W → Calls Tryd.prog 14 #[.agg #[.int .i64 f, .slice A 0 c]] W fun e w' => e = .returned (.tuple #[.slice none 0 0, .int .i64 0]) ∧ Below W.heap.size W w') (hT : ItoaAll w) :
    Calls Tryd.prog 4 #[.agg #[.int .i64 f, .slice A 0 c]] w fun e w' => e = .returned (.bool true) ∧ Below w.heap.size w w' := by
  have HT := Lib.hid hT
  have HRC := Lib.hid hRC
  have HFN := Lib.hid hFN
  have HSM := Lib.hid (fun W => small_calls f A 0 c true W (by decide))
  clear hT hRC hFN
  go_enter Tryd.func4, Tryd.ntmps4
  go_wp2_with fail
  obtain ⟨W0, hW0⟩ : ∃ W0, W0 = w.alloc (.cells #[.int .i64 f, .slice A 0 c] 33) := ⟨_, rfl⟩
  have HB0 : Hid (Below w.heap.size w W0) := by rw [hW0]; exact (Below.refl _ _).alloc (Nat.le_refl _) _
  have HP0 : Hid (W0.heap[w.heap.size]? = some (.cells #[.int .i64 f, .slice A 0 c] 33 (0, 0))) := by rw [hW0]; exact heap_alloc_new w _
  rw [← hW0]
  clear hW0
  refine (HSM.out _).mono ?_
  rintro e w1 ⟨rfl, hb⟩
  have HB1 : Hid (Below w.heap.size w w1) := HB0.out.trans (hb.mono HB0.out.size)
  have HP1 : Hid (w1.heap[w.heap.size]? = some (.cells #[.int .i64 f, .slice A 0 c] 33 (0, 0))) := (hb.block _ (heap_ltE HP0.out)).trans HP0.out
  clear hb HB0 HP0
  have a0 := Lib.cell_of_heap HP1.out 0
  have a1 := Lib.cell_of_heap HP1.out 1
  go_wp2_with fail
  refine (HRC.out _ HB1.out).mono ?_
  rintro e w2 ⟨rfl, hb⟩
  have HB2 : Hid (Below w.heap.size w w2) := HB1.out.trans (hb.mono HB1.out.size)
  have HP2 : Hid (w2.heap[w.heap.size]? = some (.cells #[.int .i64 f, .slice A 0 c] 33 (0, 0))) := (hb.block _ (heap_ltE HP1.out)).trans HP1.out
  clear hb HB1 HP1 a0 a1
  have a0 := Lib.cell_of_heap HP2.out 0
  have a1 := Lib.cell_of_heap HP2.out 1
  go_wp2_with fail
  refine (HFN.out _ HB2.out).mono ?_
  rintro e w3 ⟨rfl, hb⟩
  have HB3 : Hid (Below w.heap.size w w3) := HB2.out.trans (hb.mono HB2.out.size)
  have HP3 : Hid (w3.heap[w.heap.size]? = some (.cells #[.int .i64 f, .slice A 0 c] 33 (0, 0))) := (hb.block _ (heap_ltE HP2.out)).trans HP2.out
  clear hb HB2 HP2 a0 a1
  have a0 := Lib.cell_of_heap HP3.out 0
  have a1 := Lib.cell_of_heap HP3.out 1
  go_wp2_with fail
  refine (known_calls _ (HT.out.below HB3.out)).mono ?_
  rintro e w4 ⟨rfl, hb⟩
  have HB4 : Hid (Below w.heap.size w w4) := HB3.out.trans (hb.mono HB3.out.size)
  clear hb
  go_wp2_with fail
  go_ret
  exact ⟨rfl, HB4.out⟩

set_option maxHeartbeats 8000000 in
set_option maxRecDepth 100000 in
theorem codeFaces_big (f : Int) (A : Option Addr) (n c : Nat)  (w : World) (hn : ¬ n ≤ 60) (hT : ItoaAll w) :
    Calls Tryd.prog 4 #[.agg #[.int .i64 f, .slice A n c]] w fun e w' => e = .returned (.bool true) ∧ Below w.heap.size w w' := by
  have HT := Lib.hid hT
  have t1 : decide ((n : Int) ≤ 60) = false := by rw [decide_eq_false_iff_not]; omega
  have HSM := Lib.hid (fun W => small_calls f A n c false W t1)
  clear hT hn
  go_enter Tryd.func4, Tryd.ntmps4
  go_wp2_with fail
  obtain ⟨W0, hW0⟩ : ∃ W0, W0 = w.alloc (.cells #[.int .i64 f, .slice A n c] 33) := ⟨_, rfl⟩
  have HB0 : Hid (Below w.heap.size w W0) := by rw [hW0]; exact (Below.refl _ _).alloc (Nat.le_refl _) _
  have HP0 : Hid (W0.heap[w.heap.size]? = some (.cells #[.int .i64 f, .slice A n c] 33 (0, 0))) := by rw [hW0]; exact heap_alloc_new w _
  rw [← hW0]
  clear hW0
  refine (HSM.out _).mono ?_
  rintro e w1 ⟨rfl, hb⟩
  have HB1 : Hid (Below w.heap.size w w1) := HB0.out.trans (hb.mono HB0.out.size)
  have HP1 : Hid (w1.heap[w.heap.size]? = some (.cells #[.int .i64 f, .slice A n c] 33 (0, 0))) := (hb.block _ (heap_ltE HP0.out)).trans HP0.out
  clear hb HB0 HP0
  go_wp2_with fail
  refine (known_calls _ (HT.out.below HB1.out)).mono ?_
  rintro e w2 ⟨rfl, hb⟩
  have HB2 : Hid (Below w.heap.size w w2) := HB1.out.trans (hb.mono HB1.out.size)
  clear hb
  go_wp2_with fail
  go_ret
  exact ⟨rfl, HB2.out⟩

set_option maxHeartbeats 8000000 in
set_option maxRecDepth 100000 in
theorem codeFaces_bad (f : Int) (A : Option Addr) (n c : Nat)  (ce : Int) (w : World) (hn : n ≤ 60) (hz : ce ≠ 0) (hRC : ∀ W, Below w.heap.size w W → Calls Tryd.prog 12 #[.agg #[.int .i64 f, .slice A n c]] W fun e w' => e = .returned (.int .i64 ce) ∧ Below W.heap.size W w') (hT : ItoaAll w) :
    Calls Tryd.prog 4 #[.agg #[.int .i64 f, .slice A n c]] w fun e w' => e = .returned (.bool true) ∧ Below w.heap.size w w' := by
  have HT := Lib.hid hT
  have HRC := Lib.hid hRC
  have t1 : decide ((n : Int) ≤ 60) = true := by rw [decide_eq_true_iff]; omega
  have HSM := Lib.hid (fun W => small_calls f A n c true W t1)
  have hzb : (ce != 0) = true := by simp [hz]
  clear hT hn hRC
  go_enter Tryd.func4, Tryd.ntmps4
  go_wp2_with fail
  obtain ⟨W0, hW0⟩ : ∃ W0, W0 = w.alloc (.cells #[.int .i64 f, .slice A n c] 33) := ⟨_, rfl⟩
  have HB0 : Hid (Below w.heap.size w W0) := by rw [hW0]; exact (Below.refl _ _).alloc (Nat.le_refl _) _
  have HP0 : Hid (W0.heap[w.heap.size]? = some (.cells #[.int .i64 f, .slice A n c] 33 (0, 0))) := by rw [hW0]; exact heap_alloc_new w _
  rw [← hW0]
  clear hW0
  refine (HSM.out _).mono ?_
  rintro e w1 ⟨rfl, hb⟩
  have HB1 : Hid (Below w.heap.size w w1) := HB0.out.trans (hb.mono HB0.out.size)
  have HP1 : Hid (w1.heap[w.heap.size]? = some (.cells #[.int .i64 f, .slice A n c] 33 (0, 0))) := (hb.block _ (heap_ltE HP0.out)).trans HP0.out
  clear hb HB0 HP0
  have a0 := Lib.cell_of_heap HP1.out 0
  have a1 := Lib.cell_of_heap HP1.out 1
  go_wp2_with fail
  refine (HRC.out _ HB1.out).mono ?_
  rintro e w2 ⟨rfl, hb⟩
  have HB2 : Hid (Below w.heap.size w w2) := HB1.out.trans (hb.mono HB1.out.size)
  clear hb a0 a1
  go_wp2_with fail
  refine (known_calls _ (HT.out.below HB2.out)).mono ?_
  rintro e w3 ⟨rfl, hb⟩
  have HB3 : Hid (Below w.heap.size w w3) := HB2.out.trans (hb.mono HB2.out.size)
  clear hb
  go_wp2_with fail
  go_ret
  exact ⟨rfl, HB3.out⟩


set_option maxHeartbeats 8000000 in
set_option maxRecDepth 100000 in
theorem codeFaces_main (f : Int) (A : Option Addr) (n c : Nat) (ls : List Lt) (w : World) (hn0 : 0 < n) (hn60 : n ≤ 60) (hL : LS w A n ls) (hv : checkE f ls = 0) (hA : ∀ b off, A = some ⟨b, off, none⟩ → b < w.heap.size)
    (hRC : ∀ W, Below w.heap.size w W → Calls Tryd.prog 12 #[.agg #[.int .i64 f, .slice A n c]] W fun e w' => e = .returned (.int .i64 0) ∧ Below W.heap.size W w') (hT : ItoaAll w) :
    Calls Tryd.prog 4 #[.agg #[.int .i64 f, .slice A n c]] w fun e w' => e = .returned (.bool true) ∧ Below w.heap.size w w' := by
  obtain ⟨_, hf, _, hpl, _⟩ := checkE_all hv
  obtain ⟨D, P, g, hP, hDl, hDn, _, hlen, hFs⟩ := facesF (c := c) hL hA hv hn0
  have hg : ∀ l, l ∈ D.ls → 0 ≤ l.gate ∧ l.gate ≤ f := by rw [hDl]; exact fun l hl => plain_gate (hpl l hl) hf.1
  have hRF : ∀ W, Below w.heap.size w W → Calls Tryd.prog 16 #[.agg #[.int .i64 f, .slice A n c]] W fun e w' => ∃ G c', e = .returned (.slice (some ⟨G, 0, none⟩) (D.faces f).length c') ∧ FsF w' G (D.faces f) ∧ Below W.heap.size W w' := by
    intro W hW
    have h1 := refFaces_calls g hP f hf.2 hg A c W (by rw [hDn, hDl]; exact hL.below hW) hlen
    rw [hDn] at h1
    exact h1
  have hsm := faces_small g hP hf.2 hg
  have hSF : ∀ W G1 c1 G2 c2, FsF W G1 (D.faces f) → FsF W G2 (D.faces f) → Calls Tryd.prog 15 #[.slice (some ⟨G1, 0, none⟩) (D.faces f).length c1, .slice (some ⟨G2, 0, none⟩) (D.faces f).length c2] W fun e w' => e = .returned (.bool true) ∧ Below W.heap.size W w' :=
    fun W G1 c1 G2 c2 h1 h2 => sameFaces_yes G1 c1 G2 c2 _ W h1 h2 (by omega) hsm.2
  obtain ⟨L, hLL⟩ : ∃ L, D.faces f = L := ⟨_, rfl⟩
  rw [hLL] at hFs hRF hSF
  obtain ⟨N, hN⟩ : ∃ N, L.length = N := ⟨_, rfl⟩
  rw [hN] at hFs hRF hSF
  have HT := Lib.hid hT
  have HRC := Lib.hid hRC
  have HFS := Lib.hid hFs
  have HRF := Lib.hid hRF
  have HSF := Lib.hid hSF
  have t1 : decide ((n : Int) ≤ 60) = true := by rw [decide_eq_true_iff]; omega
  have HSM := Lib.hid (fun W => small_calls f A n c true W t1)
  have hnz : ¬ (n : Int) = 0 := by omega
  clear hT hRC hFs hRF hSF hsm hlen hLL hN hg hDl hDn hP g hpl hL hv hA t1
  go_enter Tryd.func4, Tryd.ntmps4
  go_wp2_with fail
  obtain ⟨W0, hW0⟩ : ∃ W0, W0 = w.alloc (.cells #[.int .i64 f, .slice A n c] 33) := ⟨_, rfl⟩
  have HB0 : Hid (Below w.heap.size w W0) := by rw [hW0]; exact (Below.refl _ _).alloc (Nat.le_refl _) _
  have HP0 : Hid (W0.heap[w.heap.size]? = some (.cells #[.int .i64 f, .slice A n c] 33 (0, 0))) := by rw [hW0]; exact heap_alloc_new w _
  rw [← hW0]
  clear hW0
  refine (HSM.out _).mono ?_
  rintro e w1 ⟨rfl, hb⟩
  have HB1 : Hid (Below w.heap.size w w1) := HB0.out.trans (hb.mono HB0.out.size)
  have HP1 : Hid (w1.heap[w.heap.size]? = some (.cells #[.int .i64 f, .slice A n c] 33 (0, 0))) := (hb.block _ (heap_ltE HP0.out)).trans HP0.out
  clear hb HB0 HP0
  have a0 := Lib.cell_of_heap HP1.out 0
  have a1 := Lib.cell_of_heap HP1.out 1
  go_wp2_with fail
  refine (HRC.out _ HB1.out).mono ?_
  rintro e w2 ⟨rfl, hb⟩
  have HB2 : Hid (Below w.heap.size w w2) := HB1.out.trans (hb.mono HB1.out.size)
  have HP2 : Hid (w2.heap[w.heap.size]? = some (.cells #[.int .i64 f, .slice A n c] 33 (0, 0))) := (hb.block _ (heap_ltE HP1.out)).trans HP1.out
  clear hb HB1 HP1 a0 a1
  have a0 := Lib.cell_of_heap HP2.out 0
  have a1 := Lib.cell_of_heap HP2.out 1
  go_wp2_with fail
  refine (HFS.out _ HB2.out).mono ?_
  rintro e w3 ⟨G1, c1, rfl, hf1, hb⟩
  have HF1 := Lib.hid hf1
  have HB3 : Hid (Below w.heap.size w w3) := HB2.out.trans (hb.mono HB2.out.size)
  have HP3 : Hid (w3.heap[w.heap.size]? = some (.cells #[.int .i64 f, .slice A n c] 33 (0, 0))) := (hb.block _ (heap_ltE HP2.out)).trans HP2.out
  clear hb HB2 HP2 a0 a1 hf1
  have a0 := Lib.cell_of_heap HP3.out 0
  have a1 := Lib.cell_of_heap HP3.out 1
  go_wp2_with (first
    | (go_at_call 16; refine (HRF.out _ HB3.out).mono ?_; rintro e w4 ⟨G2, c2, rfl, hf2, hb⟩; have HF2 := Lib.hid hf2; have HB4 : Hid (Below w.heap.size w w4) := HB3.out.trans (hb.mono HB3.out.size); have HF3 := Lib.hid (HF1.out.below hb); clear hb hf2)
    | (go_at_call 15; refine (HSF.out _ _ _ _ _ HF3.out HF2.out).mono ?_; rintro e w5 ⟨rfl, hb⟩; have HB5 : Hid (Below w.heap.size w w5) := HB4.out.trans (hb.mono HB4.out.size); clear hb)
    | (go_at_call 13; refine (known_calls _ (HT.out.below HB5.out)).mono ?_; rintro e w6 ⟨rfl, hb⟩; have HB6 : Hid (Below w.heap.size w w6) := HB5.out.trans (hb.mono HB5.out.size); clear hb))
  go_ret
  exact ⟨rfl, HB6.out⟩

theorem codeFaces_walk (f : Int) (A : Option Addr) (n c : Nat) (ls : List Lt) (w : World) (_hf : I64 f) (hL : LS w A n ls) (_hn : n ≤ maxLen) (_hI : ∀ l, l ∈ ls → LtAll l) (_hz : A = none → c = 0) (_hs : n ≤ c) (hA : ∀ b off, A = some ⟨b, off, none⟩ → b < w.heap.size) (hT : ItoaAll w) :
    Calls Tryd.prog 4 #[.agg #[.int .i64 f, .slice A n c]] w fun e w' => e = .returned (.bool true) ∧ Below w.heap.size w w' := by
  by_cases hn : n ≤ 60
  · have hRC : ∀ W, Below w.heap.size w W → Calls Tryd.prog 12 #[.agg #[.int .i64 f, .slice A n c]] W fun e w' => e = .returned (.int .i64 (checkE f ls)) ∧ Below W.heap.size W w' :=
      fun W hW => refCheck_full f A n c ls W (hL.below hW)
    by_cases hv0 : checkE f ls = 0
    · rw [hv0] at hRC
      by_cases hn0 : n = 0
      · subst hn0
        exact codeFaces_nil f A c w hRC (fun W hW => faces_nil f A c ls W (hL.below hW) (fun b off e => Nat.lt_of_lt_of_le (hA b off e) hW.size) hv0) hT
      · exact codeFaces_main f A n c ls w (by omega) hn hL hv0 hA hRC hT
    · exact codeFaces_bad f A n c (checkE f ls) w hn hv0 hRC hT
  · exact codeFaces_big f A n c w hn hT

end Go.Proofs.YtbbpockkafbfmaaDoor
