/-
  The walk of the law CodeEuler.
-/
import Derived.Test.YtbbpockkafbfmaaDoorEulV
import Derived.Test.YtbbpockkafbfmaaDoorLet3
import Derived.Test.YtbbpockkafbfmaaDoorSmall
import Derived.Test.YtbbpockkafbfmaaDoorRefX
import Derived.Test.YtbbpockkafbfmaaDoorDoorL
import Derived.Deep.RegionHeld3
namespace Go.Proofs.YtbbpockkafbfmaaDoor
open Go.RowKit


theorem idsE {f : Int} {L : List Lt} (hv : checkE f L = 0) : ∀ l, l ∈ L → I64 l.id := by
  obtain ⟨_, _, _, hpl, st, pt, _, hq, _⟩ := checkE_all hv
  intro l hl
  have h3 := (checkE_zero hv).1
  have h4 := cntK_take_le 2 L L.length
  rw [List.take_length] at h4
  rcases hpl l hl with c | c
  · rw [c.2.1]; constructor <;> decide
  · have h1 := pair_fine hq l hl c.1
    constructor <;> omega

theorem passesE (f : Int) (A : Option Addr) (n cap : Nat) (ls : List Lt) (w : World) (h : LS w A n ls) (hn : n ≤ 9223372036854775807) :
    Calls Tryd.prog 17 #[.agg #[.int .i64 f, .slice A n cap]] w fun e w' => e = .returned (.int .i64 (cntB isPass ls)) ∧ Below w.heap.size w w' := by
  have HC := Lib.hid (count_wide f A n cap ls 1 _ (h.below ((Below.refl _ _).alloc (Nat.le_refl _) (.cells #[.int .i64 f, .slice A n cap] 33))) hn)
  have e : cntK 1 ls = cntB isPass ls := rfl
  rw [e] at HC
  obtain ⟨x, hx⟩ : ∃ x, cntB isPass ls = x := ⟨_, rfl⟩
  rw [hx] at HC ⊢
  clear hx h e
  go_enter Tryd.func17, Tryd.ntmps17
  go_wp2_with fail
  refine HC.out.mono ?_
  rintro e w1 ⟨rfl, hb1⟩
  go_wp2_with fail
  go_ret
  exact ⟨rfl, ((Below.refl w.heap.size w).alloc (Nat.le_refl _) _).trans (hb1.mono (by simp))⟩

theorem belowE (f : Int) (A : Option Addr) (n cap : Nat) (ls : List Lt) (i : Nat) (w : World) (h : LS w A n ls) (hn : n ≤ 1000000) (hi : i < n) :
    Calls Tryd.prog 19 #[.agg #[.int .i64 f, .slice A n cap], .int .i64 (i : Int)] w fun e w' => e = .returned (.bool (!downB ls (i + 1))) ∧ Below w.heap.size w w' := by
  have HB0 : Hid (Below w.heap.size w (w.alloc (.cells #[.int .i64 f, .slice A n cap] 33))) := (Below.refl _ _).alloc (Nat.le_refl _) _
  have HD := Lib.hid (down_calls f A n cap ls (i + 1) _ (h.below HB0.out) hn (by omega))
  rw [show ((i + 1 : Nat) : Int) = (i : Int) + 1 by omega] at HD
  obtain ⟨b, hb⟩ : ∃ b, downB ls (i + 1) = b := ⟨_, rfl⟩
  rw [hb] at HD ⊢
  have hi2 : (i : Int) < 1000000 := by omega
  clear h hb
  go_enter Tryd.func19, Tryd.ntmps19
  go_wp2_with fail
  refine HD.out.mono ?_
  rintro e w1 ⟨rfl, hb1⟩
  go_wp2_with fail
  go_ret
  exact ⟨rfl, HB0.out.trans (hb1.mono HB0.out.size)⟩

theorem heap_ltE {w : World} {q : Nat} {o : Obj} (h : w.heap[q]? = some o) : q < w.heap.size := by
  rcases Nat.lt_or_ge q w.heap.size with c | c
  · exact c
  · rw [Array.getElem?_eq_none c] at h; cases h

theorem sl_nat {w : World} {b off m : Nat} {d : List Nat} {k y : Nat} (h : SL w (some ⟨b, off, none⟩) m (d.map Int.ofNat)) (hy : d[k]? = some y) : b < w.heap.size ∧ w.cell? ⟨b, off + k, none⟩ = some (.int .i64 (y : Int)) := by
  have hl := h.1
  rw [List.length_map] at hl
  obtain ⟨b', o', x, e, hb, hx, hc⟩ := h.at_ (k := k) (by have := (List.getElem?_eq_some_iff.1 hy).1; omega)
  injection e with e
  injection e with e1 e2
  subst e1 e2
  rw [List.getElem?_map, hy] at hx
  injection hx with hx
  rw [← hx] at hc
  exact ⟨hb, hc⟩

/-! ## The faces in memory -/
theorem flat5 {α : Type} {F : α → List Value} (h5 : ∀ a, (F a).length = 5) : ∀ {l : List α} {k : Nat} {a : α}, l[k]? = some a → ∀ i x, (F a)[i]? = some x → (l.flatMap F)[k * 5 + i]? = some x
  | [], k, a, h, _, _, _ => by simp at h
  | b :: l, 0, a, h, i, x, hx => by
    rw [List.flatMap_cons, Nat.zero_mul, Nat.zero_add]
    rw [List.getElem?_cons_zero] at h
    injection h with h
    subst h
    rw [List.getElem?_append_left (List.getElem?_eq_some_iff.1 hx).1]
    exact hx
  | b :: l, k + 1, a, h, i, x, hx => by
    rw [List.flatMap_cons, List.getElem?_append_right (by rw [h5]; omega), h5, show (k + 1) * 5 + i - 5 = k * 5 + i by omega]
    exact flat5 h5 (by simpa using h) i x hx
/-- The j-th face. -/
def FcAt (w : World) (G j : Nat) (M : FaceM) : Prop :=
  ∃ A1 c1 A2 c2 A3 c3, w.cell? ⟨G, j * 5, none⟩ = some (.bool M.above) ∧ w.cell? ⟨G, j * 5 + 1, none⟩ = some (.slice A1 M.darts.length c1) ∧ w.cell? ⟨G, j * 5 + 2, none⟩ = some (.slice A2 M.places.length c2) ∧
    w.cell? ⟨G, j * 5 + 3, none⟩ = some (.slice A3 M.fingers.length c3) ∧ w.cell? ⟨G, j * 5 + 4, none⟩ = some (.bool M.outer) ∧ SL w A1 M.darts.length M.darts
def FsM (w : World) (G : Nat) (L : List FaceM) : Prop := G < w.heap.size ∧ ∀ (j : Nat) (M : FaceM), L[j]? = some M → FcAt w G j M
theorem FcAt.below {w w' : World} {G j : Nat} {M : FaceM} (h : FcAt w G j M) (hG : G < w.heap.size) (hb : Below w.heap.size w w') : FcAt w' G j M := by
  obtain ⟨A1, c1, A2, c2, A3, c3, h0, h1, h2, h3, h4, h5⟩ := h
  have e : ∀ o, w'.cell? ⟨G, o, none⟩ = w.cell? ⟨G, o, none⟩ := fun o => hb.cell (p := ⟨G, o, none⟩) hG
  exact ⟨A1, c1, A2, c2, A3, c3, (e _).trans h0, (e _).trans h1, (e _).trans h2, (e _).trans h3, (e _).trans h4, h5.below hb⟩
theorem FsM.below {w w' : World} {G : Nat} {L : List FaceM} (h : FsM w G L) (hb : Below w.heap.size w w') : FsM w' G L :=
  ⟨Nat.lt_of_lt_of_le h.1 hb.size, fun j M hj => (h.2 j M hj).below h.1 hb⟩

/-- What Faces returns for a valid code. -/
def FsPost (L : List FaceM) (W : World) (e : Ending) (w' : World) : Prop :=
  ∃ G c, e = .returned (.tuple #[.slice (some ⟨G, 0, none⟩) L.length c, .int .i64 0]) ∧ FsM w' G L ∧ Below W.heap.size W w'
theorem facesE {f : Int} {A : Option Addr} {n c : Nat} {ls : List Lt} {w : World} (hL : LS w A n ls) (hA : ∀ b off, A = some ⟨b, off, none⟩ → b < w.heap.size) (hv : checkE f ls = 0) (hn : 0 < n) (h60 : n ≤ 60) :
    ∃ L P, EulP f ls (cntB isPass ls) (cntK 2 ls / 2) L P ∧ ∀ W, Below w.heap.size w W → Calls Tryd.prog 14 #[.agg #[.int .i64 f, .slice A n c]] W (FsPost L W) := by
  have hl := hL.1
  obtain ⟨_, _, _, _, st, pt, ho, hq, _⟩ := checkE_all hv
  obtain ⟨P, hP⟩ := euler_pure hv (by omega) (by omega) ho hq
  refine ⟨_, P, hP, fun W hW => ?_⟩
  refine (faces_calls f A n c ls W (hL.below hW) (fun b off e => Nat.lt_of_lt_of_le (hA b off e) hW.size) (idsE hv) hv hn).mono ?_
  rintro e w' ⟨st', pt', ho', hq', v, ts, rfl, hof, hfa, hb⟩
  rw [← hl, ho] at ho'
  rw [← hl, hq] at hq'
  injection ho' with ho'
  injection hq' with hq'
  subst ho' hq'
  generalize (dmOf f ls st pt).faces f = L at *
  have hp0 := cntB_nonneg isPass ls
  have hx0 := cntK_nonneg 2 ls
  have hlen := hP.len
  obtain ⟨G, cc, rfl⟩ : ∃ G cc, v = .slice (some ⟨G, 0, none⟩) L.length cc := by
    rcases hof.2 with ⟨hv, h0⟩ | ⟨g, cap, cur, hv, _⟩
    · omega
    · exact ⟨g, _, hv⟩
  refine ⟨G, cc, rfl, ⟨(World.ownsRow.lt hof G rfl).2, fun j M hj => ?_⟩, hb⟩
  have hjl := (List.getElem?_eq_some_iff.1 hj).1
  obtain ⟨t, ht⟩ : ∃ t, ts[j]? = some t := ⟨_, List.getElem?_eq_getElem (by rw [hfa.1]; exact hjl)⟩
  obtain ⟨q1, q2, q3⟩ := hfa.2 j M t hj ht
  have hz : (L.zip ts)[j]? = some (M, t) := by rw [List.getElem?_zip_eq_some]; exact ⟨hj, ht⟩
  have hc : ∀ i x, (faceVs M t)[i]? = some x → w'.cell? ⟨G, j * 5 + i, none⟩ = some x := fun i x hx => (ownsRow_cell hof (flat5 (F := fun p => faceVs p.1 p.2) (fun _ => rfl) hz i x hx)).1
  obtain ⟨t1, t2, t3⟩ := t
  obtain ⟨A1, c1, rfl⟩ := own_form q1
  obtain ⟨A2, c2, rfl⟩ := own_form q2
  obtain ⟨A3, c3, rfl⟩ := own_form q3
  exact ⟨A1, c1, A2, c2, A3, c3, hc 0 _ rfl, hc 1 _ rfl, hc 2 _ rfl, hc 3 _ rfl, hc 4 _ rfl, SL.of_own q1⟩

set_option maxHeartbeats 8000000 in
set_option maxRecDepth 100000 in
theorem codeEuler_big (f : Int) (A : Option Addr) (n c : Nat)  (w : World) (hn : ¬ n ≤ 60) (hT : ItoaAll w) :
    Calls Tryd.prog 5 #[.agg #[.int .i64 f, .slice A n c]] w fun e w' => e = .returned (.bool true) ∧ Below w.heap.size w w' := by
  have HT := Lib.hid hT
  have t1 : decide ((n : Int) ≤ 60) = false := by rw [decide_eq_false_iff_not]; omega
  have HSM := Lib.hid (fun W => small_calls f A n c false W t1)
  clear hT hn
  go_enter Tryd.func5, Tryd.ntmps5
  go_wp2_with fail
  obtain ⟨W0, hW0⟩ : ∃ W0, W0 = w.alloc (.cells #[.int .i64 f, .slice A n c] 33) := ⟨_, rfl⟩
  have HB0 : Hid (Below w.heap.size w W0) := by rw [hW0]; exact (Below.refl _ _).alloc (Nat.le_refl _) _
  have HP0 : Hid (W0.heap[w.heap.size]? = some (.cells #[.int .i64 f, .slice A n c] 33 (0, 0))) := by rw [hW0]; exact heap_alloc_new w _
  rw [← hW0]
  clear hW0
  refine (HSM.out _).mono ?_
  rintro e w1 ⟨rfl, hb⟩
  have HB1 : Hid (Below w.heap.size w w1) := HB0.out.trans (hb.mono HB0.out.size)
  have HP1 : Hid (w1.heap[w.heap.size]? = some (.cells #[.int .i64 f, .slice A n c] 33 (0, 0))) := (hb.block _ (heap_ltE HP0.out)).trans HP0.out
  clear hb HB0 HP0
  go_wp2_with fail
  refine (known_calls _ (HT.out.below HB1.out)).mono ?_
  rintro e w2 ⟨rfl, hb⟩
  have HB2 : Hid (Below w.heap.size w w2) := HB1.out.trans (hb.mono HB1.out.size)
  clear hb
  go_wp2_with fail
  go_ret
  exact ⟨rfl, HB2.out⟩

set_option maxHeartbeats 8000000 in
set_option maxRecDepth 100000 in
theorem codeEuler_bad (f : Int) (A : Option Addr) (n c : Nat)  (ce : Int) (w : World) (hn : n ≤ 60) (hz : ce ≠ 0) (hRC : ∀ W, Below w.heap.size w W → Calls Tryd.prog 12 #[.agg #[.int .i64 f, .slice A n c]] W fun e w' => e = .returned (.int .i64 ce) ∧ Below W.heap.size W w') (hT : ItoaAll w) :
    Calls Tryd.prog 5 #[.agg #[.int .i64 f, .slice A n c]] w fun e w' => e = .returned (.bool true) ∧ Below w.heap.size w w' := by
  have HT := Lib.hid hT
  have HRC := Lib.hid hRC
  have t1 : decide ((n : Int) ≤ 60) = true := by rw [decide_eq_true_iff]; omega
  have HSM := Lib.hid (fun W => small_calls f A n c true W t1)
  have hzb : (ce != 0) = true := by simp [hz]
  clear hT hn hRC
  go_enter Tryd.func5, Tryd.ntmps5
  go_wp2_with fail
  obtain ⟨W0, hW0⟩ : ∃ W0, W0 = w.alloc (.cells #[.int .i64 f, .slice A n c] 33) := ⟨_, rfl⟩
  have HB0 : Hid (Below w.heap.size w W0) := by rw [hW0]; exact (Below.refl _ _).alloc (Nat.le_refl _) _
  have HP0 : Hid (W0.heap[w.heap.size]? = some (.cells #[.int .i64 f, .slice A n c] 33 (0, 0))) := by rw [hW0]; exact heap_alloc_new w _
  rw [← hW0]
  clear hW0
  refine (HSM.out _).mono ?_
  rintro e w1 ⟨rfl, hb⟩
  have HB1 : Hid (Below w.heap.size w w1) := HB0.out.trans (hb.mono HB0.out.size)
  have HP1 : Hid (w1.heap[w.heap.size]? = some (.cells #[.int .i64 f, .slice A n c] 33 (0, 0))) := (hb.block _ (heap_ltE HP0.out)).trans HP0.out
  clear hb HB0 HP0
  have a0 := Lib.cell_of_heap HP1.out 0
  have a1 := Lib.cell_of_heap HP1.out 1
  go_wp2_with fail
  refine (HRC.out _ HB1.out).mono ?_
  rintro e w2 ⟨rfl, hb⟩
  have HB2 : Hid (Below w.heap.size w w2) := HB1.out.trans (hb.mono HB1.out.size)
  clear hb a0 a1
  go_wp2_with fail
  refine (known_calls _ (HT.out.below HB2.out)).mono ?_
  rintro e w3 ⟨rfl, hb⟩
  have HB3 : Hid (Below w.heap.size w w3) := HB2.out.trans (hb.mono HB2.out.size)
  clear hb
  go_wp2_with fail
  go_ret
  exact ⟨rfl, HB3.out⟩


/-- A code in its variable. -/
def EuM (w : World) (P : Nat) (f : Int) (A : Option Addr) (n c : Nat) (ls : List Lt) (W : World) : Prop :=
  Below w.heap.size w W ∧ W.heap[P]? = some (.cells #[.int .i64 f, .slice A n c] 33 (0, 0)) ∧ LS W A n ls
theorem EuM.below {w W W' : World} {P : Nat} {f : Int} {A : Option Addr} {n c : Nat} {ls : List Lt} (h : EuM w P f A n c ls W) (hb : Below W.heap.size W W') : EuM w P f A n c ls W' :=
  ⟨h.1.trans (hb.mono h.1.size), (hb.block _ (heap_ltE h.2.1)).trans h.2.1, h.2.2.below hb⟩

set_option maxHeartbeats 8000000 in
set_option maxRecDepth 100000 in
theorem codeEuler_nil (f : Int) (A : Option Addr) (c : Nat) (w : World) (hRC : ∀ W, Below w.heap.size w W → Calls Tryd.prog 12 #[.agg #[.int .i64 f, .slice A 0 c]] W fun e w' => e = .returned (.int .i64 0) ∧ Below W.heap.size W w') (hT : ItoaAll w) :
    Calls Tryd.prog 5 #[.agg #[.int .i64 f, .slice A 0 c]] w fun e w' => e = .returned (.bool true) ∧ Below w.heap.size w w' := by
  have HT := Lib.hid hT
  have HRC := Lib.hid hRC
  have HSM := Lib.hid (fun W => small_calls f A 0 c true W (by decide))
  clear hT hRC
  go_enter Tryd.func5, Tryd.ntmps5
  go_wp2_with fail
  obtain ⟨W0, hW0⟩ : ∃ W0, W0 = w.alloc (.cells #[.int .i64 f, .slice A 0 c] 33) := ⟨_, rfl⟩
  have HB0 : Hid (Below w.heap.size w W0) := by rw [hW0]; exact (Below.refl _ _).alloc (Nat.le_refl _) _
  have HP0 : Hid (W0.heap[w.heap.size]? = some (.cells #[.int .i64 f, .slice A 0 c] 33 (0, 0))) := by rw [hW0]; exact heap_alloc_new w _
  rw [← hW0]
  clear hW0
  refine (HSM.out _).mono ?_
  rintro e w1 ⟨rfl, hb⟩
  have HB1 : Hid (Below w.heap.size w w1) := HB0.out.trans (hb.mono HB0.out.size)
  have HP1 : Hid (w1.heap[w.heap.size]? = some (.cells #[.int .i64 f, .slice A 0 c] 33 (0, 0))) := (hb.block _ (heap_ltE HP0.out)).trans HP0.out
  clear hb HB0 HP0
  have a0 := Lib.cell_of_heap HP1.out 0
  have a1 := Lib.cell_of_heap HP1.out 1
  go_wp2_with fail
  refine (HRC.out _ HB1.out).mono ?_
  rintro e w2 ⟨rfl, hb⟩
  have HB2 : Hid (Below w.heap.size w w2) := HB1.out.trans (hb.mono HB1.out.size)
  have HP2 : Hid (w2.heap[w.heap.size]? = some (.cells #[.int .i64 f, .slice A 0 c] 33 (0, 0))) := (hb.block _ (heap_ltE HP1.out)).trans HP1.out
  clear hb HB1 HP1 a0 a1
  have a0 := Lib.cell_of_heap HP2.out 0
  have a1 := Lib.cell_of_heap HP2.out 1
  go_wp2_with fail
  refine (known_calls _ (HT.out.below HB2.out)).mono ?_
  rintro e w3 ⟨rfl, hb⟩
  have HB3 : Hid (Below w.heap.size w w3) := HB2.out.trans (hb.mono HB2.out.size)
  clear hb
  go_wp2_with fail
  go_ret
  exact ⟨rfl, HB3.out⟩

/-- What a round of the inner loop reads. -/
def EuC (P F bD oD k : Nat) (f : Int) (v vD : Value) (ab : Bool) (y h0 : Int) (V w' : World) : Prop :=
  w'.cell? ⟨P, 0, none⟩ = some (.int .i64 f) ∧ w'.cell? ⟨P, 1, none⟩ = some v ∧ w'.cell? ⟨F, 0, none⟩ = some (.bool ab) ∧ w'.cell? ⟨F, 1, none⟩ = some vD ∧ w'.cell? ⟨bD, oD + k, none⟩ = some (.int .i64 y) ∧ w'.cell? ⟨bD, oD, none⟩ = some (.int .i64 h0) ∧ Below V.heap.size V w'
theorem EuC.of {P F bD oD k : Nat} {f : Int} {v vD : Value} {ab : Bool} {y h0 : Int} {V w' : World} (hP : P < V.heap.size) (hF : F < V.heap.size) (hb : bD < V.heap.size) (h : EuC P F bD oD k f v vD ab y h0 V V) (hw : Below V.heap.size V w') : EuC P F bD oD k f v vD ab y h0 V w' :=
  ⟨(hw.cell (p := ⟨P, 0, none⟩) hP).trans h.1, (hw.cell (p := ⟨P, 1, none⟩) hP).trans h.2.1, (hw.cell (p := ⟨F, 0, none⟩) hF).trans h.2.2.1, (hw.cell (p := ⟨F, 1, none⟩) hF).trans h.2.2.2.1, (hw.cell (p := ⟨bD, oD + k, none⟩) hb).trans h.2.2.2.2.1, (hw.cell (p := ⟨bD, oD, none⟩) hb).trans h.2.2.2.2.2.1, hw⟩
theorem EuC.last {P F bD oD k : Nat} {f : Int} {v vD : Value} {ab : Bool} {y h0 : Int} {V w' : World} (h : EuC P F bD oD k f v vD ab y h0 V w') : Below V.heap.size V w' := h.2.2.2.2.2.2

/-- What the end of a round reads. -/
def EuX (F : Nat) (x0 x1 x2 x3 x4 : Value) (V w' : World) : Prop :=
  w'.cell? ⟨F, 0, none⟩ = some x0 ∧ w'.cell? ⟨F, 1, none⟩ = some x1 ∧ w'.cell? ⟨F, 2, none⟩ = some x2 ∧ w'.cell? ⟨F, 3, none⟩ = some x3 ∧ w'.cell? ⟨F, 4, none⟩ = some x4 ∧ Below V.heap.size V w'
theorem EuX.of {F : Nat} {x0 x1 x2 x3 x4 : Value} {V w' : World} (hF : F < V.heap.size) (h : EuX F x0 x1 x2 x3 x4 V V) (hw : Below V.heap.size V w') : EuX F x0 x1 x2 x3 x4 V w' :=
  ⟨(hw.cell (p := ⟨F, 0, none⟩) hF).trans h.1, (hw.cell (p := ⟨F, 1, none⟩) hF).trans h.2.1, (hw.cell (p := ⟨F, 2, none⟩) hF).trans h.2.2.1, (hw.cell (p := ⟨F, 3, none⟩) hF).trans h.2.2.2.1, (hw.cell (p := ⟨F, 4, none⟩) hF).trans h.2.2.2.2.1, hw⟩
def EuY (F : Nat) (x0 x1 x2 x3 x4 : Value) (G o : Nat) (vE : Value) (bE oE : Nat) (zE : Value) (bD oD : Nat) (zD : Value) (V w' : World) : Prop :=
  w'.cell? ⟨F, 0, none⟩ = some x0 ∧ w'.cell? ⟨F, 1, none⟩ = some x1 ∧ w'.cell? ⟨F, 2, none⟩ = some x2 ∧ w'.cell? ⟨F, 3, none⟩ = some x3 ∧ w'.cell? ⟨F, 4, none⟩ = some x4 ∧ w'.cell? ⟨G, o, none⟩ = some vE ∧ w'.cell? ⟨bE, oE, none⟩ = some zE ∧ w'.cell? ⟨bD, oD, none⟩ = some zD ∧ Below V.heap.size V w'
theorem EuY.of {F : Nat} {x0 x1 x2 x3 x4 : Value} {G o : Nat} {vE : Value} {bE oE : Nat} {zE : Value} {bD oD : Nat} {zD : Value} {V w' : World} (hF : F < V.heap.size) (hG : G < V.heap.size) (hE : bE < V.heap.size) (hD : bD < V.heap.size) (h : EuY F x0 x1 x2 x3 x4 G o vE bE oE zE bD oD zD V V) (hw : Below V.heap.size V w') : EuY F x0 x1 x2 x3 x4 G o vE bE oE zE bD oD zD V w' :=
  ⟨(hw.cell (p := ⟨F, 0, none⟩) hF).trans h.1, (hw.cell (p := ⟨F, 1, none⟩) hF).trans h.2.1, (hw.cell (p := ⟨F, 2, none⟩) hF).trans h.2.2.1, (hw.cell (p := ⟨F, 3, none⟩) hF).trans h.2.2.2.1, (hw.cell (p := ⟨F, 4, none⟩) hF).trans h.2.2.2.2.1,
    (hw.cell (p := ⟨G, o, none⟩) hG).trans h.2.2.2.2.2.1, (hw.cell (p := ⟨bE, oE, none⟩) hE).trans h.2.2.2.2.2.2.1, (hw.cell (p := ⟨bD, oD, none⟩) hD).trans h.2.2.2.2.2.2.2.1, hw⟩

theorem eulI {a b : Int} (h : a = b) : Value.int .i64 a = Value.int .i64 b := by rw [h]

/-- The sums, and how often each dart has been met. -/
def EuR (N2 : Nat) (L : List FaceM) (P : List (List Nat)) (w1 : World) (g : Nat) (pv fv ov iv : Value) (wr : World) : Prop :=
  ∃ j : Nat, j ≤ L.length ∧ pv = .int .i64 (sumI plN (L.take j)) ∧ fv = .int .i64 (sumI fnN (L.take j)) ∧ ov = .int .i64 (sumI ouN (L.take j)) ∧ iv = .int .i64 (j : Int) ∧
    OwnV wr w1.heap.size 3 (.slice (some ⟨g, 0, none⟩) N2 N2) ((cnts N2 (P.take j).flatten).map (Value.int .i64)) ∧ Below w1.heap.size w1 wr
def EuK (N2 : Nat) (s d : List Nat) (w1 : World) (g F : Nat) (ob : Option Obj) (kv : Value) (wr : World) : Prop :=
  ∃ k : Nat, k ≤ d.length ∧ kv = .int .i64 (k : Int) ∧ OwnV wr w1.heap.size 3 (.slice (some ⟨g, 0, none⟩) N2 N2) ((cnts N2 (s ++ d.take k)).map (Value.int .i64)) ∧ Below w1.heap.size w1 wr ∧ wr.heap[F]? = ob

set_option maxHeartbeats 16000000 in
set_option maxRecDepth 100000 in
theorem codeEuler_main (f : Int) (A : Option Addr) (n c : Nat) (ls : List Lt) (w : World) (hn0 : 0 < n) (hn60 : n ≤ 60) (hL : LS w A n ls) (hv : checkE f ls = 0) (hA : ∀ b off, A = some ⟨b, off, none⟩ → b < w.heap.size)
    (hRC : ∀ W, Below w.heap.size w W → Calls Tryd.prog 12 #[.agg #[.int .i64 f, .slice A n c]] W fun e w' => e = .returned (.int .i64 0) ∧ Below W.heap.size W w')
    (hT : ItoaAll w) :
    Calls Tryd.prog 5 #[.agg #[.int .i64 f, .slice A n c]] w fun e w' => e = .returned (.bool true) ∧ Below w.heap.size w w' := by
  have HRC := Lib.hid hRC
  have HT := Lib.hid hT
  have HKN : Hid (∀ W, Below w.heap.size w W → Calls Tryd.prog 13 #[] W fun e w' => e = .returned (.bool true) ∧ Below W.heap.size W w') := fun W hW => known_calls W (HT.out.below hW)
  have t1 : decide ((n : Int) ≤ 60) = true := by rw [decide_eq_true_iff]; omega
  have HSM := Lib.hid (fun W => small_calls f A n c true W t1)
  obtain ⟨L, Q, hP, hFC⟩ := facesE (c := c) hL hA hv hn0 hn60
  have HFC := Lib.hid hFC
  have HPU := Lib.hid hP
  have hlen := hL.1
  have hp0 := cntB_nonneg isPass ls
  have hp1 := cntB_take_le isPass ls ls.length
  have hx0 := cntK_nonneg 2 ls
  have hx1 := cntK_take_le 2 ls ls.length
  rw [List.take_length] at hp1 hx1
  have hff := (checkE_zero hv).2.1
  have hf0 := hff.1
  have hf1 := hff.2
  have hPA : ∀ W, Below w.heap.size w W → Calls Tryd.prog 17 #[.agg #[.int .i64 f, .slice A n c]] W fun e w' => e = .returned (.int .i64 (cntB isPass ls)) ∧ Below W.heap.size W w' :=
    fun W hW => passesE f A n c ls W (hL.below hW) (by omega)
  have hXC : ∀ W, Below w.heap.size w W → Calls Tryd.prog 18 #[.agg #[.int .i64 f, .slice A n c]] W fun e w' => e = .returned (.int .i64 (cntK 2 ls / 2)) ∧ Below W.heap.size W w' :=
    fun W hW => crossings_calls f A n c ls W (hL.below hW) (by omega)
  have hRP : ∀ W, Below w.heap.size w W → Calls Tryd.prog 20 #[.agg #[.int .i64 f, .slice A n c]] W fun e w' => e = .returned (.int .i64 (cntB isPass ls)) ∧ Below W.heap.size W w' :=
    fun W hW => passes_wide f A n c ls W (hL.below hW) (by omega)
  have hBW : ∀ (W : World) (i : Nat), Below w.heap.size w W → i < n → Calls Tryd.prog 19 #[.agg #[.int .i64 f, .slice A n c], .int .i64 (i : Int)] W fun e w' => e = .returned (.bool (!downB ls (i + 1))) ∧ Below W.heap.size W w' :=
    fun W i hW hi => belowE f A n c ls i W (hL.below hW) (by omega) hi
  obtain ⟨p, hp⟩ : ∃ p, cntB isPass ls = p := ⟨_, rfl⟩
  obtain ⟨x, hx⟩ : ∃ x, cntK 2 ls / 2 = x := ⟨_, rfl⟩
  have hx2 : 0 ≤ x ∧ x ≤ 60 := by omega
  have hx3 := hx2.1
  have hx4 := hx2.2
  rw [hp] at hPA hRP HPU hp0 hp1
  rw [hx] at hXC HPU
  have hp2 : p ≤ 60 := by omega
  have HPA := Lib.hid hPA
  have HXC := Lib.hid hXC
  have HRP := Lib.hid hRP
  have HBW := Lib.hid hBW
  have HLN := Lib.hid hlen
  have hLl := HPU.out.len
  obtain ⟨N, hN⟩ : ∃ N, L.length = N := ⟨_, rfl⟩
  rw [hN] at hLl
  have HNN := Lib.hid hN
  have hNb : ((N : Int) != p + x + 2) = false := by rw [hLl]; simp
  have hN2 : N ≤ 1000 := by omega
  have HLl := Lib.hid hLl
  have wr1 : IntKind.i64.wrap (p + x) = p + x := wrapI (by omega) (by omega)
  have wr2 : IntKind.i64.wrap (p + x + 2) = p + x + 2 := wrapI (by omega) (by omega)
  obtain ⟨P, hPp⟩ : ∃ P, P = w.heap.size := ⟨_, rfl⟩
  have hLA := hL
  clear hRC hT hA hv hFC hP hlen hx0 hx1 hff hPA hXC hRP hBW hp hx hx2 hN hp1 hLl
  go_enter Tryd.func5, Tryd.ntmps5
  go_wp2_with fail
  obtain ⟨W0, hW0⟩ : ∃ W0, W0 = w.alloc (.cells #[.int .i64 f, .slice A n c] 33) := ⟨_, rfl⟩
  have HZ0 : Hid (EuM w P f A n c ls W0) := by
    have hb : Below w.heap.size w W0 := by rw [hW0]; exact (Below.refl _ _).alloc (Nat.le_refl _) _
    exact ⟨hb, by rw [hW0, hPp]; exact heap_alloc_new w _, hL.below hb⟩
  rw [← hW0, ← hPp]
  clear hW0 hPp hL hLA
  refine (HSM.out _).mono ?_
  rintro e w1 ⟨rfl, hb⟩
  have HZ1 := Lib.hid (HZ0.out.below hb)
  clear hb HZ0
  have a0 := Lib.cell_of_heap HZ1.out.2.1 0
  have a1 := Lib.cell_of_heap HZ1.out.2.1 1
  go_wp2_with fail
  refine (HRC.out _ HZ1.out.1).mono ?_
  rintro e w2 ⟨rfl, hb⟩
  have HZ2 := Lib.hid (HZ1.out.below hb)
  clear hb HZ1 a0 a1
  have a0 := Lib.cell_of_heap HZ2.out.2.1 0
  have a1 := Lib.cell_of_heap HZ2.out.2.1 1
  go_wp2_with fail
  refine (HFC.out _ HZ2.out.1).mono ?_
  rintro e w3 ⟨G, cG, rfl, hfs, hb⟩
  have HFS3 := Lib.hid hfs
  have HZ3 := Lib.hid (HZ2.out.below hb)
  rw [HNN.out]
  clear hb HZ2 a0 a1 hfs
  have a0 := Lib.cell_of_heap HZ3.out.2.1 0
  have a1 := Lib.cell_of_heap HZ3.out.2.1 1
  have hP3 : P < w3.heap.size := heap_ltE HZ3.out.2.1
  have HS1 : Hid (CkB P f (.slice A n c) w3 w3) := ⟨a0, a1, Below.refl _ _⟩
  have HBV := Lib.hid HZ3.out.1
  clear a0 a1
  go_wp2_with fail
  go_region_held3 (fun w' => w'.cell? ⟨P, 0, none⟩ = some (.int .i64 f) ∧ w'.cell? ⟨P, 1, none⟩ = some (.slice A n c) ∧ Below w3.heap.size w3 w')
    (first
      | exact CkB.of hP3 HS1.out (Below.refl _ _).drew
      | exact CkB.of hP3 HS1.out ((CkB.last (P := P) (f := f) (v := .slice A n c) (by assumption)).trans (hbw.mono (CkB.last (P := P) (f := f) (v := .slice A n c) (by assumption)).size)))
    (first
      | (go_at_call 17; (with_reducible refine (HPA.out _ ?hbx).mono ?_); (case hbx => exact HBV.out.trans ((CkB.last (P := P) (f := f) (v := .slice A n c) (V := w3) (by assumption)).mono HBV.out.size)); rintro e w2 ⟨rfl, hbw⟩)
      | (go_at_call 18; (with_reducible refine (HXC.out _ ?hbx).mono ?_); (case hbx => exact HBV.out.trans ((CkB.last (P := P) (f := f) (v := .slice A n c) (V := w3) (by assumption)).mono HBV.out.size)); rintro e w2 ⟨rfl, hbw⟩))
  have hS : CkB P f (.slice A n c) w3 w2 := by assumption
  have HZ5 := Lib.hid (HZ3.out.below hS.last)
  have HFS5 := Lib.hid (HFS3.out.below hS.last)
  clear hS HS1 hP3 HBV HZ3 HFS3
  have a0 := Lib.cell_of_heap HZ5.out.2.1 0
  have a1 := Lib.cell_of_heap HZ5.out.2.1 1
  go_wp2_with (at_make; refine wpList_make_intsV rfl _ _ rfl (2 * n) (2 * (n : Int)) (by omega) rfl rfl (by omega) ?_; intro w6 hown6 hb6)
  have HO6 : Hid (OwnV w6 w2.heap.size 3 (.slice (some ⟨w2.heap.size, 0, none⟩) (2 * n) (2 * n)) ((cnts (2 * n) []).map (Value.int .i64))) := by
    unfold Hid
    rw [cnts_zero, List.map_replicate]
    exact hown6
  have HB6 := Lib.hid hb6
  obtain ⟨g, hg⟩ : ∃ g, w2.heap.size = g := ⟨_, rfl⟩
  have HGE := Lib.hid hg
  obtain ⟨K, hK⟩ : ∃ K, 2 * n = K := ⟨_, rfl⟩
  have HKE := Lib.hid hK
  have hK1 : K ≤ 120 := by omega
  have HST : Hid (EuR K L Q w2 g (.int .i64 0) (.int .i64 0) (.int .i64 0) (.int .i64 0) w6) := ⟨0, Nat.zero_le _, rfl, rfl, rfl, rfl, by rw [← hg, ← hK]; exact HO6.out, HB6.out⟩
  rw [hg, hK]
  clear hown6 hb6 HO6 HB6 hg hK a0 a1
  go_loopw [6, 7, 8, 9] (fun pv fv ov iv wr => EuR K L Q w2 g pv fv ov iv wr) (fun _ _ _ iv _ => N - (intOf iv).toNat)
  case atStart => exact HST.out
  case round =>
    obtain ⟨j, hj, rfl, rfl, rfl, rfl, hown, hb⟩ := hrel
    rw [HNN.out] at hj
    have HO := Lib.hid hown
    have HB := Lib.hid hb
    clear hown hb
    have HPL := Lib.hid (sumI_take plN_nonneg L j)
    have HFN := Lib.hid (sumI_take fnN_nonneg L j)
    have HOU := Lib.hid (sumI_take ouN_nonneg L j)
    obtain ⟨sp, hsp⟩ : ∃ s, sumI plN (L.take j) = s := ⟨_, rfl⟩
    obtain ⟨sf, hsf⟩ : ∃ s, sumI fnN (L.take j) = s := ⟨_, rfl⟩
    obtain ⟨so, hso⟩ : ∃ s, sumI ouN (L.take j) = s := ⟨_, rfl⟩
    have HSP := Lib.hid hsp
    have HSF := Lib.hid hsf
    have HSO := Lib.hid hso
    rw [hsp, hsf, hso]
    clear hsp hsf hso
    by_cases hlt : j < N
    · have hji : (j : Int) < N := by omega
      obtain ⟨d, hd⟩ : ∃ d, Q[j]? = some d := ⟨_, List.getElem?_eq_getElem (by rw [← HPU.out.leq, HNN.out]; exact hlt)⟩
      obtain ⟨M, h0, r0, hM, hMd, hdr, hmem, hdl⟩ := HPU.out.get j d hd
      obtain ⟨A1, c1, A2, c2, A3, c3, f0, f1, f2, f3, f4, hsl⟩ := HFS5.out.2 j M hM
      have hGc : ∀ o, wr.cell? ⟨G, o, none⟩ = w2.cell? ⟨G, o, none⟩ := fun o => HB.out.cell (p := ⟨G, o, none⟩) HFS5.out.1
      obtain ⟨ab, hab⟩ : ∃ y, M.above = y := ⟨_, rfl⟩
      obtain ⟨ou, hou⟩ : ∃ y, M.outer = y := ⟨_, rfl⟩
      obtain ⟨np, hnp⟩ : ∃ y, M.places.length = y := ⟨_, rfl⟩
      obtain ⟨nf, hnf⟩ : ∃ y, M.fingers.length = y := ⟨_, rfl⟩
      obtain ⟨m, hm⟩ : ∃ y, M.darts.length = y := ⟨_, rfl⟩
      have HME := Lib.hid (And.intro hab (And.intro hou (And.intro hnp hnf)))
      have hmd : d.length = m := by rw [← hm, hMd, List.length_map]
      rw [← hGc, hab] at f0
      rw [← hGc, hm] at f1
      rw [← hGc, hnp] at f2
      rw [← hGc, hnf] at f3
      rw [← hGc, hou] at f4
      rw [hab] at hmem
      rw [hm, hMd] at hsl
      have hm0 : 0 < m := by rw [← hmd, hdr]; simp
      rw [HLN.out, HKE.out, hmd] at hdl
      have hm1 : m ≤ 120 := by omega
      have HD := Lib.hid hd
      have HM := Lib.hid hM
      have HDR := Lib.hid hdr
      have HMEM := Lib.hid hmem
      have HMD := Lib.hid hmd
      have HSL := Lib.hid hsl
      clear hd hM hMd hdr hmem hsl hGc hab hou hnp hnf hm hmd hdl
      go_wp2_with fail
      obtain ⟨W1, hW1⟩ : ∃ W1, W1 = wr.alloc (.cells #[.bool ab, .slice A1 m c1, .slice A2 np c2, .slice A3 nf c3, .bool ou] 45) := ⟨_, rfl⟩
      have hbW : Below wr.heap.size wr W1 := by rw [hW1]; exact (Below.refl _ _).alloc (Nat.le_refl _) _
      obtain ⟨F, hF⟩ : ∃ F, F = wr.heap.size := ⟨_, rfl⟩
      have HFB : Hid (W1.heap[F]? = some (.cells #[.bool ab, .slice A1 m c1, .slice A2 np c2, .slice A3 nf c3, .bool ou] 45 (0, 0))) := by rw [hW1, hF]; exact heap_alloc_new wr _
      have HBW1 : Hid (Below w2.heap.size w2 W1) := HB.out.trans (hbW.mono HB.out.size)
      have HO1 := Lib.hid (HO.out.below hbW)
      have HGF : Hid (w2.heap.size ≤ g ∧ g < F) := by
        rw [HKE.out.symm] at HO
        obtain ⟨_, _, _, _, q1, q2⟩ := HO.out.cell (k := 0) (by omega)
        rw [hF]
        exact ⟨q1, q2⟩
      have HSK : Hid (EuK K (Q.take j).flatten d w2 g F (some (.cells #[.bool ab, .slice A1 m c1, .slice A2 np c2, .slice A3 nf c3, .bool ou] 45 (0, 0))) (.int .i64 0) W1) := ⟨0, Nat.zero_le _, rfl, by rw [List.take_zero, List.append_nil]; exact HO1.out, HBW1.out, HFB.out⟩
      rw [← hW1, ← hF]
      clear hW1 hbW hF HFB HBW1 HO1 f0 f1 f2 f3 f4
      go_loopw [11] (fun kv wr => EuK K (Q.take j).flatten d w2 g F (some (.cells #[.bool ab, .slice A1 m c1, .slice A2 np c2, .slice A3 nf c3, .bool ou] 45 (0, 0))) kv wr) (fun kv _ => m - (intOf kv).toNat)
      case atStart => exact HSK.out
      case round =>
        obtain ⟨k, hk, rfl, hown, hb, hFb⟩ := hrel
        rw [HMD.out] at hk
        have HO2 := Lib.hid hown
        have HB2 := Lib.hid hb
        have HF2 := Lib.hid hFb
        clear hown hb hFb
        rename World => wk
        have f0 := Lib.cell_of_heap HF2.out 0
        have f1 := Lib.cell_of_heap HF2.out 1
        by_cases hkm : k < m
        · have hki : (k : Int) < m := by omega
          have hs := HSL.out.below HB2.out
          obtain ⟨y, hy⟩ : ∃ y, d[k]? = some y := ⟨_, List.getElem?_eq_getElem (by rw [HMD.out]; exact hkm)⟩
          obtain ⟨bD, oD, x1, rfl, hbD, hx1, ck⟩ := hs.at_ hkm
          obtain ⟨b', o', x2, e2, _, hx2, ck0⟩ := hs.at_ hm0
          injection e2 with e2
          injection e2 with e3 e4
          subst e3 e4
          rw [List.getElem?_map, hy] at hx1
          rw [List.getElem?_map, HDR.out] at hx2
          injection hx1 with hx1
          injection hx2 with hx2
          rw [← hx1] at ck
          rw [← hx2, Nat.add_zero] at ck0
          obtain ⟨m1, m2, m3⟩ := HMEM.out y (List.mem_of_getElem? hy)
          rw [HLN.out, HKE.out] at m2
          have hy1 : (y : Int) < K := by omega
          have hy2 : (h0 : Int) ≤ y := by omega
          have dyK : decide (K ≤ y) = false := decide_eq_false (by omega)
          have dyh : decide (y < h0) = false := decide_eq_false (by omega)
          have dy0 : decide ((y : Int) < 0) = false := decide_eq_false (by omega)
          obtain ⟨v, hv, cv, fv, q1, q2⟩ := HO2.out.cell (k := y) m2
          rw [List.getElem?_map, cnts_get m2] at hv
          injection hv with hv
          rw [← hv] at cv
          have hcy : List.count y ((Q.take j).flatten ++ d.take k) ≤ 1 := by
            rw [← HPU.out.one y (by rw [HLN.out, HKE.out]; exact m2)]
            apply List.Sublist.count_le
            have e : Q = Q.take j ++ d :: Q.drop (j + 1) := by
              have := List.take_append_drop j Q
              rw [List.drop_eq_getElem_cons (List.getElem?_eq_some_iff.1 HD.out).1, (List.getElem?_eq_some_iff.1 HD.out).2] at this
              exact this.symm
            conv => rhs; rw [e]
            rw [List.flatten_append, List.flatten_cons]
            exact List.Sublist.append_left ((List.take_sublist k d).trans (List.sublist_append_left _ _)) _
          obtain ⟨cy, hcE⟩ : ∃ z, List.count y ((Q.take j).flatten ++ d.take k) = z := ⟨_, rfl⟩
          rw [hcE] at cv hcy
          have hc0 : (cy : Int) ≤ 1 := by omega
          have hcw : IntKind.i64.wrap ((cy : Int) + 1) = (cy : Int) + 1 := wrapI (by omega) (by omega)
          obtain ⟨eg, heg⟩ : ∃ g, y / 2 = g := ⟨_, rfl⟩
          have e4 : (y : Int).tdiv 2 = (eg : Int) := by rw [Int.tdiv_eq_ediv_of_nonneg (by omega)]; omega
          have e5 : IntKind.i64.wrap (eg : Int) = (eg : Int) := wrapI (by omega) (by omega)
          have e6 : IntKind.i64.wrap ((y : Int).tdiv 2) = (eg : Int) := by rw [e4]; exact e5
          have hegn : eg < n := by have := HKE.out; omega
          have hab : ((!ab) == ab) = false := by cases ab <;> rfl
          rw [heg] at m3
          have HM3 := Lib.hid m3
          have HY := Lib.hid hy
          have HCE := Lib.hid hcE
          have HZk := Lib.hid (HZ5.out.below HB2.out)
          have hPk : P < wk.heap.size := heap_ltE HZk.out.2.1
          have hFk : F < wk.heap.size := heap_ltE HF2.out
          have HSC : Hid (EuC P F bD oD k f (.slice A n c) (.slice (some ⟨bD, oD, none⟩) m c1) ab (y : Int) (h0 : Int) wk wk) :=
            ⟨Lib.cell_of_heap HZk.out.2.1 0, Lib.cell_of_heap HZk.out.2.1 1, f0, f1, ck, ck0, Below.refl _ _⟩
          clear hs hy hx1 hx2 hv m1 m3 heg hcE f0 ck ck0
          go_wp2_with fail
          clear f1
          go_region_held3 (fun w' => w'.cell? ⟨P, 0, none⟩ = some (.int .i64 f) ∧ w'.cell? ⟨P, 1, none⟩ = some (.slice A n c) ∧ w'.cell? ⟨F, 0, none⟩ = some (.bool ab) ∧ w'.cell? ⟨F, 1, none⟩ = some (.slice (some ⟨bD, oD, none⟩) m c1) ∧ w'.cell? ⟨bD, oD + k, none⟩ = some (.int .i64 (y : Int)) ∧ w'.cell? ⟨bD, oD, none⟩ = some (.int .i64 (h0 : Int)) ∧ Below wk.heap.size wk w')
            (exact EuC.of hPk hFk hbD HSC.out (Below.refl _ _).drew)
            (fail)
          have hbd : Below wk.heap.size wk wk.drew := (Below.refl _ _).drew
          obtain ⟨wd, hwd⟩ : ∃ V, V = wk.drew := ⟨_, rfl⟩
          rw [← hwd] at hbd
          rw [← hwd]
          have HSD := Lib.hid (EuC.of hPk hFk hbD HSC.out hbd)
          have HOD := Lib.hid (HO2.out.below hbd)
          have HBD : Hid (Below w2.heap.size w2 wd) := HB2.out.trans (hbd.mono HB2.out.size)
          have HFD : Hid (wd.heap[F]? = some (.cells #[.bool ab, .slice (some ⟨bD, oD, none⟩) m c1, .slice A2 np c2, .slice A3 nf c3, .bool ou] 45 (0, 0))) := (hbd.block F hFk).trans HF2.out
          have HZd := Lib.hid (HZk.out.below hbd)
          have hbDd : bD < wd.heap.size := Nat.lt_of_lt_of_le hbD hbd.size
          have hFd := heap_ltE HFD.out
          have hPd := heap_ltE HZd.out.2.1
          clear hwd hbd HO2 HB2 HF2 HZk hPk hFk HSC hbD cv fv q1 q2
          obtain ⟨v', hv', cv, fv, q1, q2⟩ := HOD.out.cell (k := y) m2
          rw [List.getElem?_map, cnts_get m2, HCE.out] at hv'
          injection hv' with hv'
          rw [← hv'] at cv
          have s3 := HSD.out.2.2.2.1
          have s4 := HSD.out.2.2.2.2.1
          clear hv'
          go_wp2_with fail
          obtain ⟨V, hV⟩ : ∃ V, V = wd.setCell ⟨g, y, none⟩ (.int .i64 ((cy : Int) + 1)) := ⟨_, rfl⟩
          have HBV : Hid (Below w2.heap.size w2 V) := by rw [hV]; exact HBD.out.setCell (p := ⟨g, y, none⟩) q1 _
          have HFV : Hid (V.heap[F]? = some (.cells #[.bool ab, .slice (some ⟨bD, oD, none⟩) m c1, .slice A2 np c2, .slice A3 nf c3, .bool ou] 45 (0, 0))) := by
            have hne : F ≠ g := by have := HGF.out; omega
            rw [hV]
            exact (Below.heap_setCell _ _ _ _ hne).trans HFD.out
          have HOV : Hid (OwnV V w2.heap.size 3 (.slice (some ⟨g, 0, none⟩) K K) ((cnts K ((Q.take j).flatten ++ d.take (k + 1))).map (Value.int .i64))) := by
            have h := HOD.out.set (k := y) m2 (.int .i64 ((cy : Int) + 1))
            unfold Hid
            rw [List.take_add_one, HY.out, show (some y).toList = [y] from rfl, ← List.append_assoc, cnts_snoc m2, HCE.out, List.map_set, hV]
            exact h
          have HZV := Lib.hid (HZ5.out.below HBV.out)
          obtain ⟨hbV, ckV⟩ := sl_nat (HSL.out.below HBV.out) HY.out
          have ck0V := (sl_nat (k := 0) (y := h0) (HSL.out.below HBV.out) (by rw [HDR.out]; rfl)).2
          rw [Nat.add_zero] at ck0V
          have HSC : Hid (EuC P F bD oD k f (.slice A n c) (.slice (some ⟨bD, oD, none⟩) m c1) ab (y : Int) (h0 : Int) V V) :=
            ⟨Lib.cell_of_heap HZV.out.2.1 0, Lib.cell_of_heap HZV.out.2.1 1, Lib.cell_of_heap HFV.out 0, Lib.cell_of_heap HFV.out 1, ckV, ck0V, Below.refl _ _⟩
          have hPV := heap_ltE HZV.out.2.1
          have hFV := heap_ltE HFV.out
          have HBX : Hid (∀ W, Below V.heap.size V W → Calls Tryd.prog 19 #[.agg #[.int .i64 f, .slice A n c], .int .i64 (eg : Int)] W fun e w' => e = .returned (.bool !ab) ∧ Below W.heap.size W w') := by
            intro W hW
            have h := HBW.out W eg (HZV.out.1.trans (hW.mono HZV.out.1.size)) hegn
            rw [HM3.out] at h
            exact h
          rw [← hV]
          clear hV HBD HFD HZd HSD HOD hbDd hFd hPd cv fv q1 q2 s3 s4 ckV ck0V
          go_region_held3 (fun w' => w'.cell? ⟨P, 0, none⟩ = some (.int .i64 f) ∧ w'.cell? ⟨P, 1, none⟩ = some (.slice A n c) ∧ w'.cell? ⟨F, 0, none⟩ = some (.bool ab) ∧ w'.cell? ⟨F, 1, none⟩ = some (.slice (some ⟨bD, oD, none⟩) m c1) ∧ w'.cell? ⟨bD, oD + k, none⟩ = some (.int .i64 (y : Int)) ∧ w'.cell? ⟨bD, oD, none⟩ = some (.int .i64 (h0 : Int)) ∧ Below V.heap.size V w')
            (first
              | exact EuC.of hPV hFV hbV HSC.out (Below.refl _ _).drew
              | exact EuC.of hPV hFV hbV HSC.out ((EuC.last (P := P) (F := F) (bD := bD) (oD := oD) (k := k) (f := f) (v := .slice A n c) (vD := .slice (some ⟨bD, oD, none⟩) m c1) (ab := ab) (y := y) (h0 := h0) (by assumption)).trans (hbw.mono (EuC.last (P := P) (F := F) (bD := bD) (oD := oD) (k := k) (f := f) (v := .slice A n c) (vD := .slice (some ⟨bD, oD, none⟩) m c1) (ab := ab) (y := y) (h0 := h0) (by assumption)).size)))
            (first
              | (go_at_call 19; (with_reducible refine (HBX.out _ ?hbx).mono ?_); (case hbx => exact (EuC.last (P := P) (F := F) (bD := bD) (oD := oD) (k := k) (f := f) (v := .slice A n c) (vD := .slice (some ⟨bD, oD, none⟩) m c1) (ab := ab) (y := y) (h0 := h0) (by assumption))); rintro e w8 ⟨rfl, hbw⟩))
          have hS : EuC P F bD oD k f (.slice A n c) (.slice (some ⟨bD, oD, none⟩) m c1) ab (y : Int) (h0 : Int) V w8 := by assumption
          have HS := Lib.hid hS.last
          clear hS HSC
          go_wp2_with fail
          go_roundw
          case rel => exact ⟨k + 1, by have := HMD.out; omega, by rw [Int.natCast_add]; rfl, HOV.out.below HS.out, HBV.out.trans (HS.out.mono HBV.out.size), (HS.out.block F hFV).trans HFV.out⟩
          case measure => simp [intOf]; omega
        · obtain rfl : k = m := by omega
          have HZk := Lib.hid (HZ5.out.below HB2.out)
          have HOk : Hid (OwnV wk w2.heap.size 3 (.slice (some ⟨g, 0, none⟩) K K) ((cnts K (Q.take (j + 1)).flatten).map (Value.int .i64))) := by
            have h := HO2.out
            unfold Hid
            rw [List.take_of_length_le (Nat.le_of_eq HMD.out)] at h
            rw [List.take_add_one, HD.out, List.flatten_append, show (some d).toList = [d] from rfl, show [d].flatten = d by simp]
            exact h
          have hw : sumI plN (L.take (j + 1)) = sp + wgt M * np ∧ sumI fnN (L.take (j + 1)) = sf + wgt M * nf ∧ sumI ouN (L.take (j + 1)) = so + (if ou then wgt M else 0) := by
            rw [sumI_succ _ HM.out, sumI_succ _ HM.out, sumI_succ _ HM.out, HSP.out, HSF.out, HSO.out]
            unfold plN fnN ouN
            rw [HME.out.2.1, HME.out.2.2.1, HME.out.2.2.2]
            exact ⟨rfl, rfl, rfl⟩
          have hw1 := sumI_take plN_nonneg L (j + 1)
          have hw2 := sumI_take fnN_nonneg L (j + 1)
          have hw3 := sumI_take ouN_nonneg L (j + 1)
          rw [HPU.out.pl] at hw1
          rw [HPU.out.fn] at hw2
          rw [HPU.out.ou] at hw3
          have hs1 : 0 ≤ sp ∧ 0 ≤ sf ∧ 0 ≤ so := ⟨by rw [← HSP.out]; exact HPL.out.1, by rw [← HSF.out]; exact HFN.out.1, by rw [← HSO.out]; exact HOU.out.1⟩
          have hsp0 := hs1.1
          have hsf0 := hs1.2.1
          have hso0 := hs1.2.2
          have hwg : wgt M = if ab then 1 else 1000 := by unfold wgt; rw [HME.out.1]
          rw [hwg] at hw
          have hbp : sp + (if ab = true then 1 else 1000) * np ≤ 200000 := by rw [← hw.1]; omega
          have hbf : sf + (if ab = true then 1 else 1000) * nf ≤ 200000 := by rw [← hw.2.1]; omega
          have hbo : so + (if ou then (if ab = true then 1 else 1000) else 0) ≤ 200000 := by rw [← hw.2.2]; omega
          have HW := Lib.hid hw
          clear hw hw1 hw2 hw3 hs1 hwg HO2
          have hFk : F < wk.heap.size := heap_ltE HF2.out
          have HXX : Hid (EuX F (.bool ab) (.slice A1 k c1) (.slice A2 np c2) (.slice A3 nf c3) (.bool ou) wk wk) :=
            ⟨Lib.cell_of_heap HF2.out 0, Lib.cell_of_heap HF2.out 1, Lib.cell_of_heap HF2.out 2, Lib.cell_of_heap HF2.out 3, Lib.cell_of_heap HF2.out 4, Below.refl _ _⟩
          have hki0 : ((k : Int) == 0) = false := by rw [beq_eq_false_iff_ne]; omega
          have hj0 : j = 0 ∨ 0 < j := by omega
          rcases hj0 with hj0 | hj0
          · have dj0 : decide (0 < j) = false := decide_eq_false (by omega)
            have dj1 : decide ((0 : Int) < (j : Int)) = false := decide_eq_false (by omega)
            go_wp2_with fail
            clear f0 f1
            refine wp_region_held_drew (S := fun w' => w'.cell? ⟨F, 0, none⟩ = some (.bool ab) ∧ w'.cell? ⟨F, 1, none⟩ = some (.slice A1 k c1) ∧ w'.cell? ⟨F, 2, none⟩ = some (.slice A2 np c2) ∧ w'.cell? ⟨F, 3, none⟩ = some (.slice A3 nf c3) ∧ w'.cell? ⟨F, 4, none⟩ = some (.bool ou) ∧ Below wk.heap.size wk w') (by kernel_rfl) (EuX.of hFk HXX.out (Below.refl _ _).drew) (fun hHeld => ?_)
            (refine wpAnyH_take (i := 0) (oi := { dst := some 119, op := Op.fieldAddr 45 (Operand.tmp 10) 1, type := 0, pos := "law.go:119", after := #[], guard := none }) (v := ?_) rfl (by kernel_rfl) (by kernel_rfl) (by kernel_rfl) (fun _ _ _ h => h) (Or.inl ⟨by rfl, ?_⟩) (by assumption) ?_; rotate_left; (focus (intro w hSw; (try dsimp only at hSw); go_simp; (try with_reducible rfl))); (try simp only [Act.put, List.setIfInBounds_toArray, List.set_cons_zero, List.set_cons_succ]))
            (refine wpAnyH_take (i := 1) (oi := { dst := some 120, op := Op.load 28 (Operand.tmp 119), type := 28, pos := "law.go:119", after := #[{ on := 0, ground := Ground.data }], guard := none }) (v := ?_) rfl (by kernel_rfl) (by kernel_rfl) (by kernel_rfl) (fun _ _ _ h => h) (Or.inl ⟨by rfl, ?_⟩) (by assumption) ?_; rotate_left; (focus (intro w hSw; (try dsimp only at hSw); go_simp; (try with_reducible rfl))); (try simp only [Act.put, List.setIfInBounds_toArray, List.set_cons_zero, List.set_cons_succ]))
            (refine wpAnyH_take (i := 2) (oi := { dst := some 121, op := Op.call { callee := Callee.builtin Builtin.len, args := #[Operand.tmp 120], argTypes := #[28] }, type := 3, pos := "law.go:119", after := #[{ on := 1, ground := Ground.data }], guard := none }) (v := ?_) rfl (by kernel_rfl) (by kernel_rfl) (by kernel_rfl) (fun _ _ _ h => h) (Or.inl ⟨by rfl, ?_⟩) (by assumption) ?_; rotate_left; (focus (intro w hSw; (try dsimp only at hSw); go_simp; (try with_reducible rfl))); (try simp only [Act.put, List.setIfInBounds_toArray, List.set_cons_zero, List.set_cons_succ]))
            (refine wpAnyH_take (i := 3) (oi := { dst := some 122, op := Op.binOp BinOp.eql 3 (Operand.tmp 121) (Operand.const (Value.int IntKind.i64 0)) 3, type := 4, pos := "law.go:119", after := #[{ on := 2, ground := Ground.data }], guard := none }) (v := ?_) rfl (by kernel_rfl) (by kernel_rfl) (by kernel_rfl) (fun _ _ _ h => h) (Or.inl ⟨by rfl, ?_⟩) (by assumption) ?_; rotate_left; (focus (intro w hSw; (try dsimp only at hSw); go_simp; (try with_reducible rfl))); (try simp only [Act.put, List.setIfInBounds_toArray, List.set_cons_zero, List.set_cons_succ]))
            (refine wpAnyH_take (i := 4) (oi := { dst := some 123, op := Op.move (Operand.tmp 122), type := 4, pos := "law.go:119", after := #[{ on := 3, ground := Ground.data }], guard := none }) (v := ?_) rfl (by kernel_rfl) (by kernel_rfl) (by kernel_rfl) (fun _ _ _ h => h) (Or.inl ⟨by rfl, ?_⟩) (by assumption) ?_; rotate_left; (focus (intro w hSw; (try dsimp only at hSw); go_simp; (try with_reducible rfl))); (try simp only [Act.put, List.setIfInBounds_toArray, List.set_cons_zero, List.set_cons_succ]))
            (refine wpAnyH_take (i := 5) (oi := { dst := some 124, op := Op.move (Operand.tmp 9), type := 3, pos := "law.go:119", after := #[{ on := 4, ground := Ground.guard }], guard := some (4, false) }) (v := ?_) rfl (by kernel_rfl) (by kernel_rfl) (by kernel_rfl) (fun _ _ _ h => h) (Or.inl ⟨by rfl, ?_⟩) (by assumption) ?_; rotate_left; (focus (intro w hSw; (try dsimp only at hSw); go_simp; (try with_reducible rfl))); (try simp only [Act.put, List.setIfInBounds_toArray, List.set_cons_zero, List.set_cons_succ]))
            (refine wpAnyH_take (i := 6) (oi := { dst := some 125, op := Op.binOp BinOp.gtr 3 (Operand.tmp 124) (Operand.const (Value.int IntKind.i64 0)) 3, type := 4, pos := "law.go:119", after := #[{ on := 5, ground := Ground.data }, { on := 4, ground := Ground.guard }], guard := some (4, false) }) (v := ?_) rfl (by kernel_rfl) (by kernel_rfl) (by kernel_rfl) (fun _ _ _ h => h) (Or.inl ⟨by rfl, ?_⟩) (by assumption) ?_; rotate_left; (focus (intro w hSw; (try dsimp only at hSw); go_simp; (try with_reducible rfl))); (try simp only [Act.put, List.setIfInBounds_toArray, List.set_cons_zero, List.set_cons_succ]))
            (refine wpAnyH_take (i := 7) (oi := { dst := some 126, op := Op.move (Operand.tmp 125), type := 4, pos := "law.go:119", after := #[{ on := 6, ground := Ground.data }, { on := 4, ground := Ground.chain }, { on := 4, ground := Ground.guard }], guard := some (4, false) }) (v := ?_) rfl (by kernel_rfl) (by kernel_rfl) (by kernel_rfl) (fun _ _ _ h => h) (Or.inl ⟨by rfl, ?_⟩) (by assumption) ?_; rotate_left; (focus (intro w hSw; (try dsimp only at hSw); go_simp; (try with_reducible rfl))); (try simp only [Act.put, List.setIfInBounds_toArray, List.set_cons_zero, List.set_cons_succ]))
            (refine wpAnyH_take (i := 8) (oi := { dst := some 127, op := Op.move (Operand.tmp 3), type := 37, pos := "law.go:119", after := #[{ on := 7, ground := Ground.guard }], guard := some (7, true) }) (v := undef) rfl (by kernel_rfl) (by kernel_rfl) (by kernel_rfl) (fun _ _ _ h => h) (Or.inr ⟨by rfl, rfl⟩) (by assumption) ?_; (try simp only [Act.put, List.setIfInBounds_toArray, List.set_cons_zero, List.set_cons_succ]))
            (refine wpAnyH_take (i := 9) (oi := { dst := some 128, op := Op.move (Operand.tmp 9), type := 3, pos := "law.go:119", after := #[{ on := 7, ground := Ground.guard }], guard := some (7, true) }) (v := undef) rfl (by kernel_rfl) (by kernel_rfl) (by kernel_rfl) (fun _ _ _ h => h) (Or.inr ⟨by rfl, rfl⟩) (by assumption) ?_; (try simp only [Act.put, List.setIfInBounds_toArray, List.set_cons_zero, List.set_cons_succ]))
            (refine wpAnyH_take (i := 10) (oi := { dst := some 129, op := Op.binOp BinOp.sub 3 (Operand.tmp 128) (Operand.const (Value.int IntKind.i64 1)) 3, type := 3, pos := "law.go:119", after := #[{ on := 9, ground := Ground.data }, { on := 7, ground := Ground.guard }], guard := some (7, true) }) (v := undef) rfl (by kernel_rfl) (by kernel_rfl) (by kernel_rfl) (fun _ _ _ h => h) (Or.inr ⟨by rfl, rfl⟩) (by assumption) ?_; (try simp only [Act.put, List.setIfInBounds_toArray, List.set_cons_zero, List.set_cons_succ]))
            (refine wpAnyH_take (i := 11) (oi := { dst := some 130, op := Op.indexAddr 37 (Operand.tmp 127) (Operand.tmp 129), type := 0, pos := "law.go:119", after := #[{ on := 8, ground := Ground.data }, { on := 10, ground := Ground.data }, { on := 7, ground := Ground.guard }], guard := some (7, true) }) (v := undef) rfl (by kernel_rfl) (by kernel_rfl) (by kernel_rfl) (fun _ _ _ h => h) (Or.inr ⟨by rfl, rfl⟩) (by assumption) ?_; (try simp only [Act.put, List.setIfInBounds_toArray, List.set_cons_zero, List.set_cons_succ]))
            (refine wpAnyH_take (i := 12) (oi := { dst := some 131, op := Op.fieldAddr 45 (Operand.tmp 130) 1, type := 0, pos := "law.go:119", after := #[{ on := 11, ground := Ground.data }, { on := 7, ground := Ground.guard }], guard := some (7, true) }) (v := undef) rfl (by kernel_rfl) (by kernel_rfl) (by kernel_rfl) (fun _ _ _ h => h) (Or.inr ⟨by rfl, rfl⟩) (by assumption) ?_; (try simp only [Act.put, List.setIfInBounds_toArray, List.set_cons_zero, List.set_cons_succ]))
            (refine wpAnyH_take (i := 13) (oi := { dst := some 132, op := Op.load 28 (Operand.tmp 131), type := 28, pos := "law.go:119", after := #[{ on := 12, ground := Ground.data }, { on := 7, ground := Ground.guard }], guard := some (7, true) }) (v := undef) rfl (by kernel_rfl) (by kernel_rfl) (by kernel_rfl) (fun _ _ _ h => h) (Or.inr ⟨by rfl, rfl⟩) (by assumption) ?_; (try simp only [Act.put, List.setIfInBounds_toArray, List.set_cons_zero, List.set_cons_succ]))
            (refine wpAnyH_take (i := 14) (oi := { dst := some 133, op := Op.indexAddr 28 (Operand.tmp 132) (Operand.const (Value.int IntKind.i64 0)), type := 0, pos := "law.go:119", after := #[{ on := 13, ground := Ground.data }, { on := 7, ground := Ground.guard }], guard := some (7, true) }) (v := undef) rfl (by kernel_rfl) (by kernel_rfl) (by kernel_rfl) (fun _ _ _ h => h) (Or.inr ⟨by rfl, rfl⟩) (by assumption) ?_; (try simp only [Act.put, List.setIfInBounds_toArray, List.set_cons_zero, List.set_cons_succ]))
            (refine wpAnyH_take (i := 15) (oi := { dst := some 134, op := Op.load 3 (Operand.tmp 133), type := 3, pos := "law.go:119", after := #[{ on := 14, ground := Ground.data }, { on := 7, ground := Ground.guard }], guard := some (7, true) }) (v := undef) rfl (by kernel_rfl) (by kernel_rfl) (by kernel_rfl) (fun _ _ _ h => h) (Or.inr ⟨by rfl, rfl⟩) (by assumption) ?_; (try simp only [Act.put, List.setIfInBounds_toArray, List.set_cons_zero, List.set_cons_succ]))
            (refine wpAnyH_take (i := 16) (oi := { dst := some 135, op := Op.fieldAddr 45 (Operand.tmp 10) 1, type := 0, pos := "law.go:119", after := #[{ on := 7, ground := Ground.guard }], guard := some (7, true) }) (v := undef) rfl (by kernel_rfl) (by kernel_rfl) (by kernel_rfl) (fun _ _ _ h => h) (Or.inr ⟨by rfl, rfl⟩) (by assumption) ?_; (try simp only [Act.put, List.setIfInBounds_toArray, List.set_cons_zero, List.set_cons_succ]))
            (refine wpAnyH_take (i := 17) (oi := { dst := some 136, op := Op.load 28 (Operand.tmp 135), type := 28, pos := "law.go:119", after := #[{ on := 16, ground := Ground.data }, { on := 7, ground := Ground.guard }], guard := some (7, true) }) (v := undef) rfl (by kernel_rfl) (by kernel_rfl) (by kernel_rfl) (fun _ _ _ h => h) (Or.inr ⟨by rfl, rfl⟩) (by assumption) ?_; (try simp only [Act.put, List.setIfInBounds_toArray, List.set_cons_zero, List.set_cons_succ]))
            (refine wpAnyH_take (i := 18) (oi := { dst := some 137, op := Op.indexAddr 28 (Operand.tmp 136) (Operand.const (Value.int IntKind.i64 0)), type := 0, pos := "law.go:119", after := #[{ on := 17, ground := Ground.data }, { on := 7, ground := Ground.guard }], guard := some (7, true) }) (v := undef) rfl (by kernel_rfl) (by kernel_rfl) (by kernel_rfl) (fun _ _ _ h => h) (Or.inr ⟨by rfl, rfl⟩) (by assumption) ?_; (try simp only [Act.put, List.setIfInBounds_toArray, List.set_cons_zero, List.set_cons_succ]))
            (refine wpAnyH_take (i := 19) (oi := { dst := some 138, op := Op.load 3 (Operand.tmp 137), type := 3, pos := "law.go:119", after := #[{ on := 18, ground := Ground.data }, { on := 7, ground := Ground.guard }], guard := some (7, true) }) (v := undef) rfl (by kernel_rfl) (by kernel_rfl) (by kernel_rfl) (fun _ _ _ h => h) (Or.inr ⟨by rfl, rfl⟩) (by assumption) ?_; (try simp only [Act.put, List.setIfInBounds_toArray, List.set_cons_zero, List.set_cons_succ]))
            (refine wpAnyH_take (i := 20) (oi := { dst := some 139, op := Op.binOp BinOp.geq 3 (Operand.tmp 134) (Operand.tmp 138) 3, type := 4, pos := "law.go:119", after := #[{ on := 15, ground := Ground.data }, { on := 19, ground := Ground.data }, { on := 7, ground := Ground.guard }], guard := some (7, true) }) (v := undef) rfl (by kernel_rfl) (by kernel_rfl) (by kernel_rfl) (fun _ _ _ h => h) (Or.inr ⟨by rfl, rfl⟩) (by assumption) ?_; (try simp only [Act.put, List.setIfInBounds_toArray, List.set_cons_zero, List.set_cons_succ]))
            (refine wpAnyH_take (i := 21) (oi := { dst := some 140, op := Op.pick (Operand.tmp 126) (Operand.tmp 139) (Operand.const (Value.bool false)), type := 4, pos := "law.go:119", after := #[{ on := 7, ground := Ground.data }, { on := 20, ground := Ground.data }, { on := 4, ground := Ground.guard }], guard := some (4, false) }) (v := ?_) rfl (by kernel_rfl) (by kernel_rfl) (by kernel_rfl) (fun _ _ _ h => h) (Or.inl ⟨by rfl, ?_⟩) (by assumption) ?_; rotate_left; (focus (intro w hSw; (try dsimp only at hSw); go_simp; (try with_reducible rfl))); (try simp only [Act.put, List.setIfInBounds_toArray, List.set_cons_zero, List.set_cons_succ]))
            (refine wpAnyH_take (i := 22) (oi := { dst := some 141, op := Op.pick (Operand.tmp 123) (Operand.const (Value.bool true)) (Operand.tmp 140), type := 4, pos := "law.go:119", after := #[{ on := 4, ground := Ground.data }, { on := 21, ground := Ground.data }], guard := none }) (v := ?_) rfl (by kernel_rfl) (by kernel_rfl) (by kernel_rfl) (fun _ _ _ h => h) (Or.inl ⟨by rfl, ?_⟩) (by assumption) ?_; rotate_left; (focus (intro w hSw; (try dsimp only at hSw); go_simp; (try with_reducible rfl))); (try simp only [Act.put, List.setIfInBounds_toArray, List.set_cons_zero, List.set_cons_succ]))
            refine wpAnyH_done (by kernel_rfl) ?_ _
            have hbd : Below wk.heap.size wk wk.drew := (Below.refl _ _).drew
            obtain ⟨wd, hwd⟩ : ∃ V, V = wk.drew := ⟨_, rfl⟩
            rw [← hwd] at hbd
            rw [← hwd]
            obtain ⟨x0, x1, x2, x3, x4, _⟩ := EuX.of hFk HXX.out hbd
            have HRR := Lib.hid (HOk.out.below hbd)
            have HBR : Hid (Below w2.heap.size w2 wd) := HB2.out.trans (hbd.mono HB2.out.size)
            clear hwd hbd hFk HXX HOk HB2 HF2 hHeld HM HME HD HDR HMEM HMD HPL HFN HOU HO HB HSP HSF HSO HGF HZk
            cases ab <;> cases ou <;> simp only [reduceIte, Bool.false_eq_true] at hbp hbf hbo
            all_goals
              go_wp2_with fail
              go_roundw
              case rel => exact ⟨j + 1, by rw [HNN.out]; omega, eulI (by have h := HW.out.1; simp at h; omega), eulI (by have h := HW.out.2.1; simp at h; omega), eulI (by have h := HW.out.2.2; simp at h; omega), eulI (by omega), HRR.out, HBR.out⟩
              case measure => simp [intOf]; omega
          · obtain ⟨i1, hi1⟩ : ∃ i, j = i + 1 := ⟨j - 1, by omega⟩
            have di0 : decide (0 < j) = true := decide_eq_true hj0
            have di1 : decide ((0 : Int) < (j : Int)) = true := decide_eq_true (by omega)
            have hjj : (j : Int) - 1 = (i1 : Int) := by omega
            have hjw : IntKind.i64.wrap ((j : Int) - 1) = (i1 : Int) := by rw [hjj]; exact wrapI (by omega) (by omega)
            have hjw2 : IntKind.i64.wrap (i1 : Int) = (i1 : Int) := wrapI (by omega) (by omega)
            have hi10 : (0 : Int) ≤ (i1 : Int) := by omega
            have hil : (i1 : Int) < N := by omega
            obtain ⟨d', hd'⟩ : ∃ d, Q[i1]? = some d := ⟨_, List.getElem?_eq_getElem (by rw [← HPU.out.leq, HNN.out]; omega)⟩
            obtain ⟨M', h', r', hM', hMd', hdr', _, _⟩ := HPU.out.get i1 d' hd'
            obtain ⟨A1', c1', A2', c2', A3', c3', _, f1', _, _, _, hsl'⟩ := HFS5.out.2 i1 M' hM'
            have hlt' : h' < h0 := HPU.out.asc i1 h' h0 r' r0 (by rw [hd', hdr']) (by rw [← hi1, HD.out, HDR.out])
            obtain ⟨m', hm'⟩ : ∃ m', M'.darts.length = m' := ⟨_, rfl⟩
            rw [hm'] at f1' hsl'
            rw [hMd'] at hsl'
            have hm0' : 0 < m' := by rw [← hm', hMd', List.length_map, hdr']; simp
            have hm0i : (0 : Int) < m' := by omega
            have hk0i : (0 : Int) < k := by omega
            obtain ⟨bE, oE, _, rfl, _, _, _⟩ := hsl'.at_ hm0'
            obtain ⟨bD, oD, _, rfl, _, _, _⟩ := HSL.out.at_ hm0
            obtain ⟨hEk, cE⟩ := sl_nat (k := 0) (y := h') (hsl'.below HB2.out) (by rw [hdr']; rfl)
            obtain ⟨hDk, cD⟩ := sl_nat (k := 0) (y := h0) (HSL.out.below HB2.out) (by rw [HDR.out]; rfl)
            rw [Nat.add_zero] at cE cD
            have hGk : G < wk.heap.size := Nat.lt_of_lt_of_le HFS5.out.1 HB2.out.size
            have cGE := (HB2.out.cell (p := ⟨G, i1 * 5 + 1, none⟩) HFS5.out.1).trans f1'
            have HYY : Hid (EuY F (.bool ab) (.slice (some ⟨bD, oD, none⟩) k c1) (.slice A2 np c2) (.slice A3 nf c3) (.bool ou) G (i1 * 5 + 1) (.slice (some ⟨bE, oE, none⟩) m' c1') bE oE (.int .i64 (h' : Int)) bD oD (.int .i64 (h0 : Int)) wk wk) :=
              ⟨HXX.out.1, HXX.out.2.1, HXX.out.2.2.1, HXX.out.2.2.2.1, HXX.out.2.2.2.2.1, cGE, cE, cD, Below.refl _ _⟩
            have dhh : decide (h0 ≤ h') = false := decide_eq_false (by omega)
            clear hd' hM' hMd' hdr' hsl' hm' hlt' cE cD cGE f1' hi1
            go_wp2_with fail
            clear f0 f1
            go_region_held3 (fun w' => w'.cell? ⟨F, 0, none⟩ = some (.bool ab) ∧ w'.cell? ⟨F, 1, none⟩ = some (.slice (some ⟨bD, oD, none⟩) k c1) ∧ w'.cell? ⟨F, 2, none⟩ = some (.slice A2 np c2) ∧ w'.cell? ⟨F, 3, none⟩ = some (.slice A3 nf c3) ∧ w'.cell? ⟨F, 4, none⟩ = some (.bool ou) ∧ w'.cell? ⟨G, i1 * 5 + 1, none⟩ = some (.slice (some ⟨bE, oE, none⟩) m' c1') ∧ w'.cell? ⟨bE, oE, none⟩ = some (.int .i64 (h' : Int)) ∧ w'.cell? ⟨bD, oD, none⟩ = some (.int .i64 (h0 : Int)) ∧ Below wk.heap.size wk w')
              (exact EuY.of hFk hGk hEk hDk HYY.out (Below.refl _ _).drew)
              (fail)
            have hbd : Below wk.heap.size wk wk.drew := (Below.refl _ _).drew
            obtain ⟨wd, hwd⟩ : ∃ V, V = wk.drew := ⟨_, rfl⟩
            rw [← hwd] at hbd
            rw [← hwd]
            obtain ⟨x0, x1, x2, x3, x4, _⟩ := EuX.of hFk HXX.out hbd
            have HRR := Lib.hid (HOk.out.below hbd)
            have HBR : Hid (Below w2.heap.size w2 wd) := HB2.out.trans (hbd.mono HB2.out.size)
            clear hwd hbd hFk HXX HOk HB2 HF2 HM HME HD HDR HMEM HMD HPL HFN HOU HO HB HSP HSF HSO HGF HZk
            cases ab <;> cases ou <;> simp only [reduceIte, Bool.false_eq_true] at hbp hbf hbo
            all_goals
              go_wp2_with fail
              go_roundw
              case rel => exact ⟨j + 1, by rw [HNN.out]; omega, eulI (by have h := HW.out.1; simp at h; omega), eulI (by have h := HW.out.2.1; simp at h; omega), eulI (by have h := HW.out.2.2; simp at h; omega), eulI (by omega), HRR.out, HBR.out⟩
              case measure => simp [intOf]; omega
    · obtain rfl : j = N := by omega
      have hfull : L.take j = L := List.take_of_length_le (by rw [HNN.out]; exact Nat.le_refl _)
      have hqf : Q.take j = Q := List.take_of_length_le (by rw [← HPU.out.leq, HNN.out]; exact Nat.le_refl _)
      have e1 : sp = 1001 * (p + f + 1) := by rw [← HSP.out, hfull, HPU.out.pl]
      have e2 : sf = 1001 * f := by rw [← HSF.out, hfull, HPU.out.fn]
      have e3 : so = 1001 := by rw [← HSO.out, hfull, HPU.out.ou]
      have HOF : Hid (OwnV wr w2.heap.size 3 (.slice (some ⟨g, 0, none⟩) K K) ((cnts K Q.flatten).map (Value.int .i64))) := by
        have h := HO.out
        rw [hqf] at h
        exact h
      have HZr := Lib.hid (HZ5.out.below HB.out)
      rw [e1, e2, e3]
      have w3' : IntKind.i64.wrap (p + f) = p + f := wrapI (by omega) (by omega)
      have w4' : IntKind.i64.wrap (p + f + 1) = p + f + 1 := wrapI (by omega) (by omega)
      have w5' : IntKind.i64.wrap (1001 * (p + f + 1)) = 1001 * (p + f + 1) := wrapI (by omega) (by omega)
      have w6' : IntKind.i64.wrap (1001 * f) = 1001 * f := wrapI (by omega) (by omega)
      have HST3 : Hid (Below wr.heap.size wr wr) := Below.refl _ _
      clear hfull hqf e1 e2 e3 HO HB HSP HSF HSO HPL HFN HOU hlt hj
      go_wp2_with fail
      go_loopw [13] (fun qv w' => ∃ q : Nat, q ≤ K ∧ qv = .int .i64 (q : Int) ∧ Below wr.heap.size wr w') (fun qv _ => K - (intOf qv).toNat)
      case atStart => exact ⟨0, Nat.zero_le _, rfl, HST3.out⟩
      case round =>
        obtain ⟨q, hq, rfl, hb⟩ := hrel
        rename World => wq
        have HB3 := Lib.hid hb
        clear hb
        by_cases hqK : q < K
        · have hqi : (q : Int) < K := by omega
          obtain ⟨v, hv, cv, _⟩ := (HOF.out.below HB3.out).cell (k := q) hqK
          rw [List.getElem?_map, cnts_get hqK, HPU.out.one q (by rw [HLN.out, HKE.out]; exact hqK)] at hv
          injection hv with hv
          rw [← hv] at cv
          clear hv
          go_wp2_with fail
          go_roundw
          case rel => exact ⟨q + 1, by omega, eulI (by omega), HB3.out⟩
          case measure => simp [intOf]; omega
        · obtain rfl : q = K := by omega
          have HZq := Lib.hid (HZr.out.below HB3.out)
          have a0 := Lib.cell_of_heap HZq.out.2.1 0
          have a1 := Lib.cell_of_heap HZq.out.2.1 1
          have hPq : P < wq.heap.size := heap_ltE HZq.out.2.1
          have HS1 : Hid (CkB P f (.slice A n c) wq wq) := ⟨a0, a1, Below.refl _ _⟩
          have HBV := Lib.hid HZq.out.1
          clear a0 a1
          go_wp2_with fail
          go_region_held3 (fun w' => w'.cell? ⟨P, 0, none⟩ = some (.int .i64 f) ∧ w'.cell? ⟨P, 1, none⟩ = some (.slice A n c) ∧ Below wq.heap.size wq w')
            (first
              | exact CkB.of hPq HS1.out (Below.refl _ _).drew
              | exact CkB.of hPq HS1.out ((CkB.last (P := P) (f := f) (v := .slice A n c) (by assumption)).trans (hbw.mono (CkB.last (P := P) (f := f) (v := .slice A n c) (by assumption)).size)))
            (first
              | (go_at_call 20; (with_reducible refine (HRP.out _ ?hbx).mono ?_); (case hbx => exact HBV.out.trans ((CkB.last (P := P) (f := f) (v := .slice A n c) (V := wq) (by assumption)).mono HBV.out.size)); rintro e w8 ⟨rfl, hbw⟩))
          have hS : CkB P f (.slice A n c) wq w8 := by assumption
          have HZ8 := Lib.hid (HZq.out.below hS.last)
          clear hS HS1 hPq HBV HZq
          have a0 := Lib.cell_of_heap HZ8.out.2.1 0
          have a1 := Lib.cell_of_heap HZ8.out.2.1 1
          go_wp2_with (first
            | (go_at_call 13; refine (HKN.out _ HZ8.out.1).mono ?_; rintro e w9 ⟨rfl, hb⟩; have HF9 : Hid (Below w.heap.size w w9) := HZ8.out.1.trans (hb.mono HZ8.out.1.size); clear hb))
          go_ret
          exact ⟨rfl, HF9.out⟩

theorem codeEuler_walk (f : Int) (A : Option Addr) (n c : Nat) (ls : List Lt) (w : World) (_hf : I64 f) (hL : LS w A n ls) (_hn : n ≤ maxLen) (_hI : ∀ l, l ∈ ls → LtAll l) (_hz : A = none → c = 0) (_hs : n ≤ c) (hA : ∀ b off, A = some ⟨b, off, none⟩ → b < w.heap.size) (hT : ItoaAll w) :
    Calls Tryd.prog 5 #[.agg #[.int .i64 f, .slice A n c]] w fun e w' => e = .returned (.bool true) ∧ Below w.heap.size w w' := by
  by_cases hn : n ≤ 60
  · have hRC : ∀ W, Below w.heap.size w W → Calls Tryd.prog 12 #[.agg #[.int .i64 f, .slice A n c]] W fun e w' => e = .returned (.int .i64 (checkE f ls)) ∧ Below W.heap.size W w' :=
      fun W hW => refCheck_full f A n c ls W (hL.below hW)
    by_cases hv0 : checkE f ls = 0
    · rw [hv0] at hRC
      by_cases hn0 : n = 0
      · subst hn0
        exact codeEuler_nil f A c w hRC hT
      · exact codeEuler_main f A n c ls w (by omega) hn hL hv0 hA hRC hT
    · exact codeEuler_bad f A n c (checkE f ls) w hn hv0 hRC hT
  · exact codeEuler_big f A n c w hn hT

end Go.Proofs.YtbbpockkafbfmaaDoor
