/-
  Kn2 Kn3, one after the other.
-/
import Derived.Test.YtbbpockkafbfmaaDoorKn
import Derived.Test.YtbbpockkafbfmaaDoorKn1
import Derived.Test.YtbbpockkafbfmaaDoorForget2
import Derived.Test.YtbbpockkafbfmaaDoorPrintC
import Derived.Test.YtbbpockkafbfmaaDoorLEq
import Derived.Laws.StructEq

/-
  Faces and Forget at the law's circle.
-/
namespace Go.Proofs.YtbbpockkafbfmaaDoor
open Go.RowKit

theorem ownsRow_form {w : World} {B : Nat} {T : TypeId} {sz n : Nat} {v : Value} {xs : List Value} (h : w.ownsRow B T sz v n xs) (hn : 0 < n) : ∃ g c, v = .slice (some ⟨g, 0, none⟩) n c := by
  rcases h.2 with ⟨_, h0⟩ | ⟨g, cap, _, hv, _⟩
  · omega
  · exact ⟨g, cap, hv⟩
theorem ownZ_sl {w : World} {B g n c : Nat} {xs : List Int} (h : OwnZ w B (.slice (some ⟨g, 0, none⟩) n c) xs) (hn : xs.length = n) : SL w (some ⟨g, 0, none⟩) n xs := by
  subst hn
  have h' : w.ownsRow B 3 1 (.slice (some ⟨g, 0, none⟩) xs.length c) xs.length (xs.map (Value.int .i64)) := h
  refine ⟨rfl, fun hn => ⟨g, 0, rfl, (World.ownsRow.lt h' g rfl).2, fun k hk => ?_⟩⟩
  have hx : xs[k]? = some xs[k] := List.getElem?_eq_getElem hk
  have := (ownsRow_cell h' (o := k) (x := .int .i64 xs[k]) (by rw [List.getElem?_map, hx]; rfl)).1
  rw [Nat.zero_add, this, List.getElem?_eq_getElem hk]
  rfl

theorem circ_ids : ∀ l, l ∈ circL 0 1 → I64 l.id := by
  intro l hl
  have : l = passLt 0 1 ∨ l = passLt 1 1 := by simpa [circL] using hl
  rcases this with rfl | rfl <;> exact ⟨by decide, by decide⟩
theorem circ_ranks : ∀ l, l ∈ circL 0 1 → l.kind = 1 → 0 ≤ l.rank ∧ l.rank ≤ 1000000 := by
  intro l hl _
  have : l = passLt 0 1 ∨ l = passLt 1 1 := by simpa [circL] using hl
  rcases this with rfl | rfl <;> exact ⟨by decide, by decide⟩

/-- What Faces of the circle leaves. -/
def CircFacesPost (w : World) (e : Ending) (w' : World) : Prop :=
  ∃ g cap gd cd gp cp gf cf, e = .returned (.tuple #[.slice (some ⟨g, 0, none⟩) 4 cap, .int .i64 0]) ∧ w'.cell? ⟨g, 5, none⟩ = some (.bool false) ∧ w'.cell? ⟨g, 6, none⟩ = some (.slice (some ⟨gd, 0, none⟩) 1 cd) ∧
    w'.cell? ⟨g, 7, none⟩ = some (.slice (some ⟨gp, 0, none⟩) 3 cp) ∧ w'.cell? ⟨g, 8, none⟩ = some (.slice (some ⟨gf, 0, none⟩) 1 cf) ∧ w'.cell? ⟨g, 9, none⟩ = some (.bool true) ∧ w'.cell? ⟨g, 15, none⟩ = some (.bool true) ∧
    SL w' (some ⟨gd, 0, none⟩) 1 [1] ∧ SL w' (some ⟨gf, 0, none⟩) 1 [2] ∧ w'.cell? ⟨gp, 2, none⟩ = some (.int .i64 2) ∧ w'.cell? ⟨gp, 3, none⟩ = some (.int .i64 0) ∧ g < w'.heap.size ∧ gp < w'.heap.size ∧ Below w.heap.size w w'

theorem circFaces_calls (A : Option Addr) (c : Nat) (w : World) (hL : LS w A 2 (circL 0 1)) (hA : ∀ b off, A = some ⟨b, off, none⟩ → b < w.heap.size) :
    Calls Tryd.prog 14 #[.agg #[.int .i64 2, .slice A 2 c]] w (CircFacesPost w) := by
  refine (faces_calls 2 A 2 c (circL 0 1) w hL hA circ_ids circle_ok (by decide)).mono ?_
  rintro e w' ⟨st, pt, h1, h2, v, ts, rfl, h3, h4, h5⟩
  have hf : (dmOf 2 (circL 0 1) st pt).faces 2 = [⟨false, [0], [(1, 0), (0, 1)], [1], false⟩, ⟨false, [1], [(0, 0), (2, 0), (1, 1)], [2], true⟩, ⟨true, [2], [(0, 1), (1, 0)], [1], false⟩, ⟨true, [3], [(1, 1), (2, 0), (0, 0)], [2], true⟩] := by
    have h := circ_faces
    unfold circFaces at h
    rw [h1] at h
    dsimp only at h
    rw [h2] at h
    dsimp only at h
    injection h
  rw [hf] at h3 h4
  have hl := h4.1
  match ts, hl with
  | [t0, t1, t2, t3], _ =>
    obtain ⟨q1, q2, q3⟩ := h4.2 1 _ t1 rfl rfl
    unfold OwnF at h3
    obtain ⟨g, cap, rfl⟩ := ownsRow_form h3 (by decide)
    obtain ⟨gd, cd, e1⟩ := ownsRow_form (show w'.ownsRow _ _ 1 t1.1 1 _ from q1) (by decide)
    obtain ⟨gp, cp, e2⟩ := ownsRow_form (show w'.ownsRow _ _ 2 t1.2.1 3 _ from q2) (by decide)
    obtain ⟨gf, cf, e3⟩ := ownsRow_form (show w'.ownsRow _ _ 1 t1.2.2 1 _ from q3) (by decide)
    have k5 := ownsRow_cell h3 (o := 5) (x := .bool false) rfl
    have k6 := ownsRow_cell h3 (o := 6) (x := t1.1) rfl
    have k7 := ownsRow_cell h3 (o := 7) (x := t1.2.1) rfl
    have k8 := ownsRow_cell h3 (o := 8) (x := t1.2.2) rfl
    have k9 := ownsRow_cell h3 (o := 9) (x := .bool true) rfl
    have k15 := ownsRow_cell h3 (o := 15) (x := .bool true) rfl
    rw [e1] at k6 q1
    rw [e2] at k7 q2
    rw [e3] at k8 q3
    have p2 := ownsRow_cell (show w'.ownsRow _ 69 2 (.slice (some ⟨gp, 0, none⟩) 3 cp) 3 _ from q2) (o := 2) (x := .int .i64 2) rfl
    have p3 := ownsRow_cell (show w'.ownsRow _ 69 2 (.slice (some ⟨gp, 0, none⟩) 3 cp) 3 _ from q2) (o := 3) (x := .int .i64 0) rfl
    exact ⟨g, cap, gd, cd, gp, cp, gf, cf, rfl, k5.1, k6.1, k7.1, k8.1, k9.1, k15.1, ownZ_sl q1 rfl, ownZ_sl q3 rfl, p2.1, p3.1, k5.2.2.2, p2.2.2.2, h5⟩

theorem OwnL.ls {w : World} {B g n c : Nat} {ls : List Lt} (h : OwnL w B (.slice (some ⟨g, 0, none⟩) n c) ls) (hn : ls.length = n) : LS w (some ⟨g, 0, none⟩) n ls := by
  subst hn
  have h' : w.ownsRow B 50 6 (.slice (some ⟨g, 0, none⟩) ls.length c) ls.length (ls.flatMap ltCells) := h
  refine ⟨rfl, fun hp => ⟨g, 0, rfl, (World.ownsRow.lt h' g rfl).2, fun k l hk => ?_⟩⟩
  rw [Nat.zero_add]
  exact ⟨(ownsRow_cell h' (o := k * 6) (letters_at hk 0 _ rfl)).1, (ownsRow_cell h' (o := k * 6 + 1) (letters_at hk 1 _ rfl)).1, (ownsRow_cell h' (o := k * 6 + 2) (letters_at hk 2 _ rfl)).1,
    (ownsRow_cell h' (o := k * 6 + 3) (letters_at hk 3 _ rfl)).1, (ownsRow_cell h' (o := k * 6 + 4) (letters_at hk 4 _ rfl)).1, (ownsRow_cell h' (o := k * 6 + 5) (letters_at hk 5 _ rfl)).1⟩
theorem circ_forgot : (circL 0 1).map (forgL 1 (cntB (inGate (1 - 1)) (circL 0 1))) = [passLt 0 1, passLt 0 2] := by decide +kernel
/-- What Forget of the circle leaves. -/
theorem circForget_calls (A : Option Addr) (c : Nat) (w : World) (hL : LS w A 2 (circL 0 1)) (hA : ∀ b off, A = some ⟨b, off, none⟩ → b < w.heap.size) :
    Calls Tryd.prog 42 #[.agg #[.int .i64 2, .slice A 2 c], .int .i64 1] w fun e w' => ∃ g, e = .returned (.tuple #[.agg #[.int .i64 1, .slice (some ⟨g, 0, none⟩) 2 2], .int .i64 0]) ∧
      LS w' (some ⟨g, 0, none⟩) 2 [passLt 0 1, passLt 0 2] ∧ g < w'.heap.size ∧ Below w.heap.size w w' := by
  refine (forget_calls 2 1 A 2 c (circL 0 1) w hL hA circ_ids circ_ranks).mono ?_
  rintro e w' (⟨h, _⟩ | ⟨_, h, _⟩ | ⟨_, _, g, rfl, h, hb⟩)
  · exact absurd circle_ok h
  · exact absurd ⟨by decide, by decide⟩ h
  · rw [circ_forgot] at h
    exact ⟨g, rfl, h.ls rfl, (World.ownsRow.lt (show w'.ownsRow _ _ 6 (.slice (some ⟨g, 0, none⟩) 2 2) 2 _ from h) g rfl).2, hb⟩

end Go.Proofs.YtbbpockkafbfmaaDoor

/-
  The walk of the law's examples.
-/
namespace Go.Proofs.YtbbpockkafbfmaaDoor
open Go.RowKit

theorem sl_one (w : World) (T : TypeId) (x : Int) : SL (w.alloc (.cells #[.int .i64 x] T)) (some ⟨w.heap.size, 0, none⟩) 1 [x] := by
  refine ⟨rfl, fun _ => ⟨w.heap.size, 0, rfl, by simp, fun k hk => ?_⟩⟩
  obtain rfl : k = 0 := by omega
  exact Lib.cell_of_heap (heap_alloc_new w (.cells #[.int .i64 x] T)) 0
theorem kink_print : printC 2 kinkL = [50, 58, 32, 48, 46, 49, 32, 49, 117, 43, 32, 49, 111, 43, 32, 49, 46, 49] := by decide +kernel
theorem forgot_print : printC 1 [passLt 0 1, passLt 0 2] = [49, 58, 32, 48, 46, 49, 32, 48, 46, 50] := by decide +kernel
theorem lt_four {p : Lt → Prop} {a b c d : Lt} (ha : p a) (hb : p b) (hc : p c) (hd : p d) : ∀ l, l ∈ [a, b, c, d] → p l := by
  intro l hl
  simp only [List.mem_cons, List.not_mem_nil, or_false] at hl
  rcases hl with rfl | rfl | rfl | rfl <;> assumption
theorem passLt_i (g r : Int) (h1 : I64 g) (h2 : I64 r) : LtI (passLt g r) := by
  exact ⟨h1, h2, (⟨by decide, by decide⟩ : I64 0)⟩
theorem crossLt_i (i s : Int) (o : Bool) (h1 : I64 i) : LtI (crossLt i o s) := ⟨(⟨by decide, by decide⟩ : I64 0), (⟨by decide, by decide⟩ : I64 0), h1⟩
theorem kink_lti : ∀ l, l ∈ kinkL → LtI l := lt_four (passLt_i 0 1 ⟨by decide, by decide⟩ ⟨by decide, by decide⟩) (crossLt_i 1 1 false ⟨by decide, by decide⟩) (crossLt_i 1 1 true ⟨by decide, by decide⟩) (passLt_i 1 1 ⟨by decide, by decide⟩ ⟨by decide, by decide⟩)
theorem apart_lti : ∀ l, l ∈ apartL → LtI l := lt_four (passLt_i 0 1 ⟨by decide, by decide⟩ ⟨by decide, by decide⟩) (crossLt_i 1 1 false ⟨by decide, by decide⟩) (passLt_i 1 1 ⟨by decide, by decide⟩ ⟨by decide, by decide⟩) (crossLt_i 1 1 true ⟨by decide, by decide⟩)
theorem forgot_lti : ∀ l, l ∈ [passLt 0 1, passLt 0 2] → LtI l := by
  intro l hl
  simp only [List.mem_cons, List.not_mem_nil, or_false] at hl
  rcases hl with rfl | rfl
  · exact passLt_i 0 1 ⟨by decide, by decide⟩ ⟨by decide, by decide⟩
  · exact passLt_i 0 2 ⟨by decide, by decide⟩ ⟨by decide, by decide⟩
/-- A code of four letters, laid. -/
theorem four_made (w : World) (f : Int) (a b c d : Lt) : ∃ W, W = (w.alloc (.cells #[.int .i64 a.kind, .int .i64 a.gate, .int .i64 a.rank, .int .i64 a.id, .int .i64 a.sign, .bool a.over, .int .i64 b.kind, .int .i64 b.gate, .int .i64 b.rank, .int .i64 b.id, .int .i64 b.sign, .bool b.over,
    .int .i64 c.kind, .int .i64 c.gate, .int .i64 c.rank, .int .i64 c.id, .int .i64 c.sign, .bool c.over, .int .i64 d.kind, .int .i64 d.gate, .int .i64 d.rank, .int .i64 d.id, .int .i64 d.sign, .bool d.over] 50)).alloc (.cells #[.int .i64 f, .slice (some ⟨w.heap.size, 0, none⟩) 4 4] 33) ∧
    CBox W (w.heap.size + 1) f (some ⟨w.heap.size, 0, none⟩) 4 4 [a, b, c, d] ∧ Below w.heap.size w W := by
  obtain ⟨V, hV⟩ : ∃ V, V = w.alloc (.cells #[.int .i64 a.kind, .int .i64 a.gate, .int .i64 a.rank, .int .i64 a.id, .int .i64 a.sign, .bool a.over, .int .i64 b.kind, .int .i64 b.gate, .int .i64 b.rank, .int .i64 b.id, .int .i64 b.sign, .bool b.over,
    .int .i64 c.kind, .int .i64 c.gate, .int .i64 c.rank, .int .i64 c.id, .int .i64 c.sign, .bool c.over, .int .i64 d.kind, .int .i64 d.gate, .int .i64 d.rank, .int .i64 d.id, .int .i64 d.sign, .bool d.over] 50) := ⟨_, rfl⟩
  have hs : V.heap.size = w.heap.size + 1 := by rw [hV, World.size_alloc]
  have hl : LS V (some ⟨w.heap.size, 0, none⟩) 4 [a, b, c, d] := by rw [hV]; exact ls_four w a b c d 50
  have hb : Below w.heap.size w V := by rw [hV]; exact (Below.refl _ _).alloc (Nat.le_refl _) _
  refine ⟨_, rfl, ?_, ?_⟩
  · rw [← hV, ← hs]
    exact CBox.made (f := f) (c := 4) hl (fun b off e => by injection e with e; injection e with e; omega) 33
  · rw [← hV]
    exact hb.alloc hb.size _
/-- What is read of the circle's faces. -/
def CF (W : World) (g gd cd gp cp gf cf : Nat) : Prop :=
  g < W.heap.size ∧ gp < W.heap.size ∧ W.cell? ⟨g, 5, none⟩ = some (.bool false) ∧ W.cell? ⟨g, 6, none⟩ = some (.slice (some ⟨gd, 0, none⟩) 1 cd) ∧
    W.cell? ⟨g, 7, none⟩ = some (.slice (some ⟨gp, 0, none⟩) 3 cp) ∧ W.cell? ⟨g, 8, none⟩ = some (.slice (some ⟨gf, 0, none⟩) 1 cf) ∧ W.cell? ⟨g, 9, none⟩ = some (.bool true) ∧ W.cell? ⟨g, 15, none⟩ = some (.bool true) ∧
    W.cell? ⟨gp, 2, none⟩ = some (.int .i64 2) ∧ W.cell? ⟨gp, 3, none⟩ = some (.int .i64 0) ∧ SL W (some ⟨gd, 0, none⟩) 1 [1] ∧ SL W (some ⟨gf, 0, none⟩) 1 [2]
theorem CF.below {W W' : World} {g gd cd gp cp gf cf : Nat} (h : CF W g gd cd gp cp gf cf) (hb : Below W.heap.size W W') : CF W' g gd cd gp cp gf cf := by
  obtain ⟨h1, h2, a1, a2, a3, a4, a5, a6, a7, a8, s1, s2⟩ := h
  have e : ∀ q x, q < W.heap.size → W'.cell? ⟨q, x, none⟩ = W.cell? ⟨q, x, none⟩ := fun q x hq => hb.cell (p := ⟨q, x, none⟩) hq
  exact ⟨Nat.lt_of_lt_of_le h1 hb.size, Nat.lt_of_lt_of_le h2 hb.size, (e _ _ h1).trans a1, (e _ _ h1).trans a2, (e _ _ h1).trans a3, (e _ _ h1).trans a4, (e _ _ h1).trans a5, (e _ _ h1).trans a6, (e _ _ h2).trans a7, (e _ _ h2).trans a8, s1.below hb, s2.below hb⟩

set_option maxHeartbeats 16000000 in
set_option maxRecDepth 100000 in
theorem known_calls (w : World) (hT : ItoaAll w) : Calls Tryd.prog 13 #[] w fun e w' => e = .returned (.bool true) ∧ Below w.heap.size w w' := by
  have HT := Lib.hid hT
  clear hT
  go_enter Tryd.func13, Tryd.ntmps13
  go_wp2_with fail
  refine (lawPass_calls 0 1 w).mono ?_
  rintro e w1 ⟨rfl, hb1⟩
  unfold Lt.val
  go_wp2_with fail
  refine (lawCross_calls 1 1 false w1).mono ?_
  rintro e w2 ⟨rfl, hb2⟩
  unfold Lt.val
  go_wp2_with fail
  refine (lawCross_calls 1 1 true w2).mono ?_
  rintro e w3 ⟨rfl, hb3⟩
  unfold Lt.val
  go_wp2_with fail
  refine (lawPass_calls 1 1 w3).mono ?_
  rintro e w4 ⟨rfl, hb4⟩
  unfold Lt.val
  have HB4 : Hid (Below w.heap.size w w4) := hb1.trans ((hb2.trans ((hb3.trans (hb4.mono hb3.size)).mono hb2.size)).mono hb1.size)
  clear hb1 hb2 hb3 hb4
  go_wp2_with fail
  obtain ⟨V1, hV1, hk1, hv1⟩ := four_made w4 2 (passLt 0 1) (crossLt 1 false 1) (crossLt 1 true 1) (passLt 1 1)
  simp only [passLt, crossLt] at hV1
  rw [← hV1]
  obtain ⟨P1, hP1⟩ : ∃ P1, w4.heap.size + 1 = P1 := ⟨_, rfl⟩
  obtain ⟨L1, hL1⟩ : ∃ L1, w4.heap.size = L1 := ⟨_, rfl⟩
  rw [hL1] at hk1
  rw [show L1 + 1 = P1 by omega] at hk1
  rw [hP1, hL1]
  have HK1 : Hid (CBox V1 P1 2 (some ⟨L1, 0, none⟩) 4 4 kinkL) := hk1
  have HB5 : Hid (Below w.heap.size w V1) := HB4.out.trans (hv1.mono HB4.out.size)
  clear hV1 hk1 hv1 hP1 hL1 HB4
  refine (lawPass_calls 0 1 V1).mono ?_
  rintro e u1 ⟨rfl, hb1⟩
  unfold Lt.val
  go_wp2_with fail
  refine (lawCross_calls 1 1 false u1).mono ?_
  rintro e u2 ⟨rfl, hb2⟩
  unfold Lt.val
  go_wp2_with fail
  refine (lawPass_calls 1 1 u2).mono ?_
  rintro e u3 ⟨rfl, hb3⟩
  unfold Lt.val
  go_wp2_with fail
  refine (lawCross_calls 1 1 true u3).mono ?_
  rintro e u4 ⟨rfl, hb4⟩
  unfold Lt.val
  have HC4 : Hid (Below V1.heap.size V1 u4) := hb1.trans ((hb2.trans ((hb3.trans (hb4.mono hb3.size)).mono hb2.size)).mono hb1.size)
  clear hb1 hb2 hb3 hb4
  obtain ⟨V2, hV2, hk2, hv2⟩ := four_made u4 1 (passLt 0 1) (crossLt 1 false 1) (passLt 1 1) (crossLt 1 true 1)
  simp only [passLt, crossLt] at hV2
  have HK2 : Hid (CBox V2 (u4.heap.size + 1) 1 (some ⟨u4.heap.size, 0, none⟩) 4 4 apartL) := hk2
  have HB6 : Hid (Below V1.heap.size V1 V2) := HC4.out.trans (hv2.mono HC4.out.size)
  obtain ⟨_, a0, a1, _, _⟩ := HK1.out.below HB6.out
  have HV2 := Lib.hid hV2
  rw [hV2] at a0 a1
  clear hk2 hv2 HC4 hV2
  go_wp2_with fail
  rw [← HV2.out]
  clear HV2 a0 a1
  have LK := fun W (hb : Below V2.heap.size V2 W) => (HK1.out.below HB6.out).below hb
  have LKH := Lib.hid LK
  clear LK
  obtain ⟨_, _, _, k3, k4⟩ := LKH.out V2 (Below.refl _ _)
  refine (check_calls 2 _ 4 4 kinkL V2 k3 k4 (fun l hl => (kink_lti l hl).2.2)).mono ?_
  rintro e w5 ⟨rfl, hb5⟩
  rw [kink_ok]
  obtain ⟨_, a0, a1, k3', k4'⟩ := HK2.out.below hb5
  have HD5 : Hid (Below V2.heap.size V2 w5) := hb5
  have K3 := Lib.hid (And.intro k3' k4')
  clear k3 k4 hb5 k3' k4'
  go_wp2_with fail
  refine (check_calls 1 _ 4 4 apartL w5 K3.out.1 K3.out.2 (fun l hl => (apart_lti l hl).2.2)).mono ?_
  rintro e w6 ⟨rfl, hb6⟩
  rw [apart_no]
  have HD6 : Hid (Below V2.heap.size V2 w6) := HD5.out.trans (hb6.mono HD5.out.size)
  obtain ⟨_, c0, c1, k3, k4⟩ := LKH.out w6 HD6.out
  have K4 := Lib.hid (And.intro k3 k4)
  clear a0 a1 hb6 k3 k4 K3 HD5
  go_wp2_with fail
  have HW6 : Hid (Below w.heap.size w w6) := HB5.out.trans ((HB6.out.trans (HD6.out.mono HB6.out.size)).mono HB5.out.size)
  refine (codePrint_calls 2 _ 4 4 kinkL w6 (HT.out.below HW6.out) K4.out.1 (by omega) ⟨by decide, by decide⟩ kink_lti).mono ?_
  rintro e w7 ⟨rfl, hb7⟩
  rw [kink_print]
  have HW7 : Hid (Below w.heap.size w w7) := HW6.out.trans (hb7.mono HW6.out.size)
  clear c0 c1 K4 hb7 HW6 HD6 LKH HK1 HK2 HB5 HB6
  go_wp2_with fail
  refine (lawCircle_calls w7).mono ?_
  rintro e w8 ⟨A8, c8, rfl, hA8, hL8, hb8⟩
  have HW8 : Hid (Below w.heap.size w w8) := HW7.out.trans (hb8.mono HW7.out.size)
  have HL8 := Lib.hid (And.intro hL8 hA8)
  clear hA8 hL8 hb8 HW7
  go_wp2_with fail
  refine (circFaces_calls A8 c8 w8 HL8.out.1 HL8.out.2).mono ?_
  rintro e w9 ⟨g, cap, gd, cd, gp, cp, gf, cf, rfl, f5, f6, f7, f8, f9, f15, fsd, fsf, fp2, fp3, flg, flp, hb9⟩
  have HCF : Hid (CF w9 g gd cd gp cp gf cf) := ⟨flg, flp, f5, f6, f7, f8, f9, f15, fp2, fp3, fsd, fsf⟩
  have HW9 : Hid (Below w.heap.size w w9) := HW8.out.trans (hb9.mono HW8.out.size)
  clear fsd fsf fp2 fp3 flg flp hb9 HL8 HW8 f7 f8
  go_wp2_with fail
  have hY : Hid (Below w9.heap.size w9 (w9.alloc (.cells #[.int .i64 1] 3))) := (Below.refl _ _).alloc (Nat.le_refl _) _
  refine (equalI_calls _ _ 1 cd 1 1 [1] [1] _ (HCF.out.below hY.out).2.2.2.2.2.2.2.2.2.2.1 (sl_one w9 3 1) (by unfold maxLen; omega)).mono ?_
  rintro e w10 ⟨rfl, hb10⟩
  have HZ10 : Hid (Below w9.heap.size w9 w10) := hY.out.trans (hb10.mono hY.out.size)
  obtain ⟨_, _, _, _, f7, f8, _, _, _, _, _, _⟩ := HCF.out.below HZ10.out
  clear hb10 hY f5 f6 f9 f15
  go_wp2_with fail
  have hY : Hid (Below w10.heap.size w10 (w10.alloc (.cells #[.int .i64 2] 3))) := (Below.refl _ _).alloc (Nat.le_refl _) _
  refine (equalI_calls _ _ 1 cf 1 1 [2] [2] _ ((HCF.out.below HZ10.out).below hY.out).2.2.2.2.2.2.2.2.2.2.2 (sl_one w10 3 2) (by unfold maxLen; omega)).mono ?_
  rintro e w11 ⟨rfl, hb11⟩
  have HZ11 : Hid (Below w9.heap.size w9 w11) := HZ10.out.trans ((hY.out.trans (hb11.mono hY.out.size)).mono HZ10.out.size)
  clear f7 f8
  obtain ⟨_, _, _, _, f7, _, _, _, fp2, fp3, _, _⟩ := HCF.out.below HZ11.out
  clear hb11 hY HZ10
  go_wp2_with fail
  have HW11 : Hid (Below w.heap.size w w11) := HW9.out.trans (HZ11.out.mono HW9.out.size)
  clear f7 fp2 fp3 HCF HZ11 HW9
  refine (lawCircle_calls w11).mono ?_
  rintro e w12 ⟨A12, c12, rfl, hA12, hL12, hb12⟩
  have HW12 : Hid (Below w.heap.size w w12) := HW11.out.trans (hb12.mono HW11.out.size)
  have HL12 := Lib.hid (And.intro hL12 hA12)
  clear hA12 hL12 hb12 HW11
  go_wp2_with fail
  refine (circForget_calls A12 c12 w12 HL12.out.1 HL12.out.2).mono ?_
  rintro e w13 ⟨gq, rfl, hL13, hlt13, hb13⟩
  have HW13 : Hid (Below w.heap.size w w13) := HW12.out.trans (hb13.mono HW12.out.size)
  have HL13 := Lib.hid hL13
  have HWA : Hid (∀ o, Below w13.heap.size w13 (w13.alloc o)) := fun o => (Below.refl _ _).alloc (Nat.le_refl _) o
  clear hL13 hb13 HL12 HW12
  go_wp2_with fail
  refine (codePrint_calls 1 _ 2 2 _ _ (HT.out.below (HW13.out.trans ((HWA.out _).mono HW13.out.size))) (HL13.out.below (HWA.out _)) (by omega) ⟨by decide, by decide⟩ forgot_lti).mono ?_
  rintro e w14 ⟨rfl, hb14⟩
  rw [forgot_print]
  have HW14 : Hid (Below w.heap.size w w14) := HW13.out.trans (((HWA.out _).trans (hb14.mono (HWA.out _).size)).mono HW13.out.size)
  clear hb14 HL13 HWA HW13
  go_wp2_with fail
  go_ret
  exact ⟨rfl, HW14.out⟩

end Go.Proofs.YtbbpockkafbfmaaDoor
