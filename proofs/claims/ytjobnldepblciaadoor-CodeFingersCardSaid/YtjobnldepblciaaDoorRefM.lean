/-
  The walk of the reference's Mirror.
-/
import Derived.Test.YtjobnldepblciaaDoorRefS
import Derived.Deep.RegionHeld3
namespace Go.Proofs.YtjobnldepblciaaDoor
open Go.RowKit

theorem letters_set12 {ls : List Lt} : ∀ {k : Nat} {l : Lt} {x y : Int}, ls[k]? = some l → ((ls.flatMap ltCells).set (k * 6 + 1) (.int .i64 x)).set (k * 6 + 2) (.int .i64 y) = (ls.set k ⟨l.kind, x, y, l.id, l.sign, l.over⟩).flatMap ltCells := by
  induction ls with
  | nil => intro k l x y h; cases h
  | cons p ps ih =>
    intro k l x y h
    cases k with
    | zero =>
      injection h with h
      subst h
      rfl
    | succ k =>
      have := ih (k := k) (l := l) (x := x) (y := y) (by simpa using h)
      rw [show (k + 1) * 6 + 1 = k * 6 + 1 + 6 by omega, show (k + 1) * 6 + 2 = k * 6 + 2 + 6 by omega, List.set_cons_succ, List.flatMap_cons, List.flatMap_cons, ← this]
      rfl
theorem letters_set4 {ls : List Lt} : ∀ {k : Nat} {l : Lt} {y : Int}, ls[k]? = some l → (ls.flatMap ltCells).set (k * 6 + 4) (.int .i64 y) = (ls.set k ⟨l.kind, l.gate, l.rank, l.id, y, l.over⟩).flatMap ltCells := by
  induction ls with
  | nil => intro k l y h; cases h
  | cons p ps ih =>
    intro k l y h
    cases k with
    | zero =>
      injection h with h
      subst h
      rfl
    | succ k =>
      have := ih (k := k) (l := l) (y := y) (by simpa using h)
      rw [show (k + 1) * 6 + 4 = k * 6 + 4 + 6 by omega, List.set_cons_succ, List.flatMap_cons, List.flatMap_cons, ← this]
      rfl
theorem letters_set5 {ls : List Lt} : ∀ {k : Nat} {l : Lt} {y : Bool}, ls[k]? = some l → (ls.flatMap ltCells).set (k * 6 + 5) (.bool y) = (ls.set k ⟨l.kind, l.gate, l.rank, l.id, l.sign, y⟩).flatMap ltCells := by
  induction ls with
  | nil => intro k l y h; cases h
  | cons p ps ih =>
    intro k l y h
    cases k with
    | zero =>
      injection h with h
      subst h
      rfl
    | succ k =>
      have := ih (k := k) (l := l) (y := y) (by simpa using h)
      rw [show (k + 1) * 6 + 5 = k * 6 + 5 + 6 by omega, List.set_cons_succ, List.flatMap_cons, List.flatMap_cons, ← this]
      rfl
theorem RsRel.below {P r1 R : Nat} {f f2 : Int} {vc v : Value} {B n : Nat} {h : Lt → Lt} {ls : List Lt} {w X Y : World} {iv : Value} (k : RsRel P r1 R f f2 vc v B n h ls w iv X) (hb : Below X.heap.size X Y) : RsRel P r1 R f f2 vc v B n h ls w iv Y := by
  obtain ⟨j, h1, h2, h3, h4, h5, h6, h7⟩ := k
  exact ⟨j, h1, h2, (hb.block _ (heap_lt h3)).trans h3, (hb.block _ (heap_lt h4)).trans h4, (hb.block _ (heap_lt h5)).trans h5, ownsRow_below h6 hb, h7.trans (hb.mono h7.size)⟩
/-- What the reference's Mirror makes of a letter. -/
def rmirL (f : Int) (ls : List Lt) (l : Lt) : Lt := if l.kind = 1 then ⟨l.kind, f - l.gate, cntB (inGate l.gate) ls + 1 - l.rank, l.id, l.sign, l.over⟩ else ⟨l.kind, l.gate, l.rank, l.id, -l.sign, l.over⟩
/-- What the rank's store reads. -/
def McS (P R B : Nat) (f : Int) (vc v : Value) (l : Lt) (w w' : World) : Prop :=
  w'.cell? ⟨P, 0, none⟩ = some (.int .i64 f) ∧ w'.cell? ⟨P, 1, none⟩ = some vc ∧ w'.cell? ⟨R, 1, none⟩ = some v ∧ w'.cell? ⟨B, 1, none⟩ = some (.int .i64 l.gate) ∧ w'.cell? ⟨B, 2, none⟩ = some (.int .i64 l.rank) ∧
  w'.heap[P]? = some (.cells #[.int .i64 f, vc] 24 (0, 0)) ∧ w'.heap[R]? = some (.cells #[.int .i64 f, v] 24 (0, 0)) ∧ w'.heap[B]? = some (.cells #[.int .i64 l.kind, .int .i64 l.gate, .int .i64 l.rank, .int .i64 l.id, .int .i64 l.sign, .bool l.over] 58 (0, 0)) ∧ Below w.heap.size w w'
theorem McS.of {P R B : Nat} {f : Int} {vc v : Value} {l : Lt} {w w' : World} (h1 : w'.heap[P]? = some (.cells #[.int .i64 f, vc] 24 (0, 0))) (h2 : w'.heap[R]? = some (.cells #[.int .i64 f, v] 24 (0, 0)))
    (h3 : w'.heap[B]? = some (.cells #[.int .i64 l.kind, .int .i64 l.gate, .int .i64 l.rank, .int .i64 l.id, .int .i64 l.sign, .bool l.over] 58 (0, 0))) (hb : Below w.heap.size w w') : McS P R B f vc v l w w' :=
  ⟨Lib.cell_of_heap h1 0, Lib.cell_of_heap h1 1, Lib.cell_of_heap h2 1, Lib.cell_of_heap h3 1, Lib.cell_of_heap h3 2, h1, h2, h3, hb⟩

set_option maxHeartbeats 4000000 in
set_option maxRecDepth 100000 in
theorem refMirror_calls (f : Int) (A : Option Addr) (n c : Nat) (ls : List Lt) (w : World) (hL : LS w A n ls) (hz : A = none → c = 0) (hsp : ∀ a, A = some a → a.spot = none) (hn : n ≤ 1000) (hs : ∀ l, l ∈ ls → -1000 ≤ l.sign ∧ l.sign ≤ 1000)
    (hf : 0 ≤ f ∧ f ≤ 1000) (hg : ∀ l, l ∈ ls → l.kind = 1 → (0 ≤ l.gate ∧ l.gate ≤ 1000) ∧ 0 ≤ l.rank ∧ l.rank ≤ 1000000) :
    Calls Tryd.prog 35 #[.agg #[.int .i64 f, .slice A n c]] w (OkC f n (ls.map (rmirL f ls)) w) := by
  have HLN : Hid (ls.length = n) := hL.1
  have HLL := Lib.hid hL
  have HCP : Hid (∀ W, Below w.heap.size w W → Calls Tryd.prog 71 #[.agg #[.int .i64 f, .slice A n c]] W fun e w' => ∃ Av cv, e = .returned (.agg #[.int .i64 f, .slice Av n cv]) ∧ w'.ownsRow W.heap.size 58 6 (.slice Av n cv) n (ls.flatMap ltCells) ∧ Below W.heap.size W w') :=
    fun W hW => refCopy2 f A n c ls W (hL.below hW) hz hsp (by omega)
  have HIN : Hid (∀ W g, Below w.heap.size w W → Calls Tryd.prog 72 #[.agg #[.int .i64 f, .slice A n c], .int .i64 g] W fun e w' => e = .returned (.int .i64 (cntB (inGate g) ls)) ∧ Below W.heap.size W w') :=
    fun W g hW => in_calls f A n c ls g W (hL.below hW) (by omega)
  have HS := Lib.hid hs
  have HG := Lib.hid hg
  clear hL hz hsp hs hg
  go_enter Tryd.func35, Tryd.ntmps35
  go_wp2_with fail
  obtain ⟨W0, hW0⟩ : ∃ W0, W0 = (w.alloc (.cells #[.int .i64 f, .slice A n c] 24)).alloc (.cells #[.int .i64 0, .slice none 0 0] 24) := ⟨_, rfl⟩
  have HF0 := Lib.hid (two_mem w _ _ W0 hW0)
  have HWS : Hid (W0.heap.size = w.heap.size + 2) := by rw [hW0]; unfold Hid; simp
  rw [← hW0]
  clear hW0
  refine (HCP.out _ HF0.out.2.2.2).mono ?_
  rintro e w1 ⟨Av, cv, rfl, ho, hb1⟩
  go_wp2_with fail
  obtain ⟨W1, hW1⟩ : ∃ W1, W1 = w1.alloc (.cells #[.int .i64 f, .slice Av n cv] 24) := ⟨_, rfl⟩
  have hba : Below w1.heap.size w1 W1 := by rw [hW1]; exact (Below.refl _ _).alloc (Nat.le_refl _) _
  have HM1 := Lib.hid (two_next (two_next HF0.out hb1) hba)
  obtain ⟨R, hR⟩ : ∃ R, R = w1.heap.size := ⟨_, rfl⟩
  obtain ⟨P, hP⟩ : ∃ P, P = w.heap.size := ⟨_, rfl⟩
  obtain ⟨r1, hr1⟩ : ∃ r1, r1 = w.heap.size + 1 := ⟨_, rfl⟩
  have HST : Hid (RsRel P r1 R f f (.slice A n c) (.slice Av n cv) (w.heap.size + 2) n (rmirL f ls) ls w (.int .i64 0) W1) := by
    refine ⟨0, Nat.zero_le _, rfl, by rw [hP]; exact HM1.out.1, by rw [hr1]; exact HM1.out.2.1, by rw [hW1, hR]; exact heap_alloc_new w1 _, ?_, HM1.out.2.2.2⟩
    rw [MapL_zero, ← HWS.out]
    exact ownsRow_below ho hba
  have hRw : w.heap.size + 1 < R := by have := (two_next HF0.out hb1).2.2.1; omega
  rw [← hW1, ← hR, ← hr1, ← hP]
  have HPP := Lib.hid (And.intro hP hr1)
  have hPr : P < w.heap.size + 2 := by omega
  have hrr : r1 < w.heap.size + 2 := by omega
  have hPR : P ≠ R := by omega
  have hwP : w.heap.size ≤ P := by omega
  have hwr1 : w.heap.size ≤ r1 := by omega
  have hrR : r1 ≠ R := by omega
  have hPr1 : P ≠ r1 := by omega
  clear hba hW1 hR ho hb1 HM1 hP hr1
  go_loopw [4] (fun iv wr => RsRel P r1 R f f (.slice A n c) (.slice Av n cv) (w.heap.size + 2) n (rmirL f ls) ls w iv wr) (fun iv _ => n - (intOf iv).toNat)
  case atStart => exact HST.out
  case round =>
    obtain ⟨j, hj, rfl, q1, q2, q3, q4, q5⟩ := hrel
    have HQ := Lib.hid (And.intro q1 (And.intro q2 (And.intro q3 (And.intro q4 q5))))
    have x0 := Lib.cell_of_heap q3 0
    have x1 := Lib.cell_of_heap q3 1
    by_cases hlt : j < n
    · obtain ⟨b, off, l, rfl, hbl, hl, e0, e1, e2, e3, e4, e5⟩ := (HLL.out.below q5).at_ hlt
      obtain ⟨gL, rfl⟩ : ∃ gL, Av = some ⟨gL, 0, none⟩ := by
        rcases q4.2 with ⟨_, h0⟩ | ⟨g, cap, cur, hv, _⟩
        · omega
        · injection hv with e1; exact ⟨g, e1⟩
      have y0 := Lib.cell_of_heap q1 0
      have y1 := Lib.cell_of_heap q1 1
      have hgR := row_code_ne q4 q3
      have HAT := Lib.hid (letters_at (MapL_at (h := rmirL f ls) hl))
      have d1 := ownsRow_cell q4 (HAT.out 1 _ rfl)
      have d2 := ownsRow_cell q4 (HAT.out 2 _ rfl)
      have d4 := ownsRow_cell q4 (HAT.out 4 _ rfl)
      have c1 : wr.cell? ⟨gL, j * 6 + 1, none⟩ = some (.int .i64 l.gate) := d1.1
      have c4 : wr.cell? ⟨gL, j * 6 + 4, none⟩ = some (.int .i64 l.sign) := d4.1
      have g1 : wr.frozen? ⟨gL, j * 6 + 1, none⟩ = false := d1.2.1
      have g4 : wr.frozen? ⟨gL, j * 6 + 4, none⟩ = false := d4.2.1
      have hgb := d1.2.2
      have hji : (j : Int) < n := by omega
      have HL := Lib.hid hl
      have hRl := heap_lt q3
      have hPl := heap_lt q1
      have hne1 : ¬ gL = wr.heap.size := by omega
      have hne2 : ¬ R = wr.heap.size := by omega
      have hne3 : ¬ P = wr.heap.size := by omega
      have hRP : ¬ R = gL := fun e => hgR e.symm
      have hPg : ¬ P = gL := by omega
      have hsb := HS.out l (List.mem_of_getElem? hl)
      have hwr : IntKind.i64.wrap (-l.sign) = -l.sign := wrapI (by omega) (by omega)
      clear d1 d2 d4
      by_cases hk : l.kind = 1
      · have hke : (l.kind == 1) = true := by rw [beq_iff_eq]; exact hk
        have HK := Lib.hid hk
        obtain ⟨⟨k0, k1⟩, k2, k3⟩ := HG.out l (List.mem_of_getElem? hl) hk
        have w1' : IntKind.i64.wrap (f - l.gate) = f - l.gate := wrapI (by omega) (by omega)
        have p0 := cntB_nonneg (inGate l.gate) ls
        have p1 : cntB (inGate l.gate) ls ≤ 1000 := by
          have h1 := cntB_take_le (inGate l.gate) ls ls.length
          rw [List.take_of_length_le (Nat.le_refl _)] at h1
          have := HLN.out
          omega
        obtain ⟨q, hq⟩ : ∃ q, cntB (inGate l.gate) ls = q := ⟨_, rfl⟩
        have HIG : Hid (∀ W, Below w.heap.size w W → Calls Tryd.prog 72 #[.agg #[.int .i64 f, .slice (some ⟨b, off, none⟩) n c], .int .i64 l.gate] W fun e w' => e = .returned (.int .i64 q) ∧ Below W.heap.size W w') := by
          rw [← hq]
          exact fun W hW => HIN.out W l.gate hW
        rw [hq] at p0 p1
        have HQQ := Lib.hid hq
        have w2' : IntKind.i64.wrap (q + 1) = q + 1 := wrapI (by omega) (by omega)
        have w3' : IntKind.i64.wrap (q + 1 - l.rank) = q + 1 - l.rank := wrapI (by omega) (by omega)
        clear hk hq hl q1 q2 q3 q4 q5
        go_wp2_with fail
        obtain ⟨Y, hY⟩ : ∃ Y, Y = wr.setCell ⟨gL, j * 6 + 1, none⟩ (.int .i64 (f - l.gate)) := ⟨_, rfl⟩
        obtain ⟨V, hV⟩ : ∃ V, V = Y.alloc (.cells #[.int .i64 l.kind, .int .i64 l.gate, .int .i64 l.rank, .int .i64 l.id, .int .i64 l.sign, .bool l.over] 58) := ⟨_, rfl⟩
        obtain ⟨B, hB⟩ : ∃ B, B = wr.heap.size := ⟨_, rfl⟩
        rw [← hY, ← hV, ← hB]
        obtain ⟨q1, q2, q3, q4, q5⟩ := HQ.out
        have ys : Y.heap.size = wr.heap.size := by rw [hY]; simp
        have yk : ∀ q, q ≠ gL → Y.heap[q]? = wr.heap[q]? := fun q hq => by rw [hY]; exact Below.heap_setCell _ _ _ q hq
        have hYV : Below Y.heap.size Y V := by rw [hV]; exact (Below.refl _ _).alloc (Nat.le_refl _) _
        have rowV := ownsRow_below (by have h := ownsRow_set q4 (j * 6 + 1) (.int .i64 (f - l.gate)); rw [← hY] at h; exact h) hYV
        have hPV : V.heap[P]? = _ := ((hYV.block P (by omega)).trans (yk P hPg)).trans q1
        have hrV : V.heap[r1]? = _ := ((hYV.block r1 (by omega)).trans (yk r1 (by omega))).trans q2
        have hRV : V.heap[R]? = _ := ((hYV.block R (by omega)).trans (yk R hRP)).trans q3
        have hBV : V.heap[B]? = some (.cells #[.int .i64 l.kind, .int .i64 l.gate, .int .i64 l.rank, .int .i64 l.id, .int .i64 l.sign, .bool l.over] 58 (0, 0)) := by rw [hV, hB, ← ys]; exact heap_alloc_new Y _
        have hwV : Below w.heap.size w V := by
          have h1 : Below w.heap.size w Y := by rw [hY]; exact q5.setCell (p := ⟨gL, j * 6 + 1, none⟩) (by show w.heap.size ≤ gL; omega) _
          exact h1.trans (hYV.mono h1.size)
        have hVs : V.heap.size = wr.heap.size + 1 := by rw [hV]; simp; exact ys
        have hBg : B ≠ gL := by omega
        have HV := Lib.hid (And.intro hPV (And.intro hrV (And.intro hRV (And.intro hBV (And.intro hwV rowV)))))
        have hBv : B < V.heap.size := by omega
        have hPv : P < V.heap.size := by omega
        have hrv : r1 < V.heap.size := by omega
        have hRv : R < V.heap.size := by omega
        clear hY hV hB ys yk hYV rowV hPV hrV hRV hBV hwV q1 q2 q3 q4 q5 x0 x1 y0 y1 c1 c4 g1 g4 e0 e1 e2 e3 e4 e5
        go_region_held3 (fun w' => w'.cell? ⟨P, 0, none⟩ = some (.int .i64 f) ∧ w'.cell? ⟨P, 1, none⟩ = some (.slice (some ⟨b, off, none⟩) n c) ∧ w'.cell? ⟨R, 1, none⟩ = some (.slice (some ⟨gL, 0, none⟩) n cv) ∧ w'.cell? ⟨B, 1, none⟩ = some (.int .i64 l.gate) ∧ w'.cell? ⟨B, 2, none⟩ = some (.int .i64 l.rank) ∧
            w'.heap[P]? = some (.cells #[.int .i64 f, .slice (some ⟨b, off, none⟩) n c] 24 (0, 0)) ∧ w'.heap[R]? = some (.cells #[.int .i64 f, .slice (some ⟨gL, 0, none⟩) n cv] 24 (0, 0)) ∧ w'.heap[B]? = some (.cells #[.int .i64 l.kind, .int .i64 l.gate, .int .i64 l.rank, .int .i64 l.id, .int .i64 l.sign, .bool l.over] 58 (0, 0)) ∧ Below w.heap.size w w')
          (first
            | exact McS.of HV.out.1 HV.out.2.2.1 HV.out.2.2.2.1 HV.out.2.2.2.2.1.drew
            | exact McS.of hP2 hR2 hB2 hw2
            | exact McS.of ((Below.heap_setCell _ _ _ P hPg).trans hP2) ((Below.heap_setCell _ _ _ R hRP).trans hR2) ((Below.heap_setCell _ _ _ B hBg).trans hB2) (hw2.setCell (p := ⟨gL, j * 6 + 2, none⟩) (by show w.heap.size ≤ gL; omega) _))
          (first
            | (go_at_call 72; (with_reducible refine (HIG.out _ HV.out.2.2.2.2.1.drew).mono ?_); rintro e w2 ⟨rfl, hb⟩; have hb' : Below V.heap.size V w2 := ((Below.refl V.heap.size V).drew).trans hb; have hP2 := (hb'.block P hPv).trans HV.out.1; have hr2 := (hb'.block r1 hrv).trans HV.out.2.1; have hR2 := (hb'.block R hRv).trans HV.out.2.2.1; have hB2 := (hb'.block B hBv).trans HV.out.2.2.2.1; have hw2 := HV.out.2.2.2.2.1.trans (hb'.mono HV.out.2.2.2.2.1.size); have HROW2 := Lib.hid (ownsRow_below HV.out.2.2.2.2.2 hb'); have t2 := ownsRow_cell HROW2.out (o := j * 6 + 2) (x := .int .i64 l.rank) (by rw [List.getElem?_set_ne (by omega)]; exact HAT.out 2 _ rfl); have t20 := t2.1; have t21 := t2.2.1; clear hb t2))
        go_wp2_with fail
        go_roundw
        case rel =>
          have z1 := ownsRow_set HROW2.out (j * 6 + 2) (.int .i64 (q + 1 - l.rank))
          have hh : rmirL f ls l = ⟨l.kind, f - l.gate, q + 1 - l.rank, l.id, l.sign, l.over⟩ := by unfold rmirL; rw [if_pos HK.out, HQQ.out]
          rw [letters_set12 (MapL_at HL.out), ← hh, MapL_set HL.out] at z1
          exact RsRel.step (P := P) (r1 := r1) (w := w) (by omega) hP2 hr2 hR2 hPg (by omega) hRP (fun q hq => (Below.heap_setCell _ _ _ q hq)) z1 (hw2.setCell (p := ⟨gL, j * 6 + 2, none⟩) (by show w.heap.size ≤ gL; omega) _)
        case measure => simp [intOf]; omega
      · have hke : (l.kind == 1) = false := by rw [beq_eq_false_iff_ne]; exact hk
        have HK := Lib.hid hk
        clear hk hl q1 q2 q3 q4 q5
        go_wp2_with fail
        go_roundw
        case rel =>
          obtain ⟨q1, q2, q3, q4, q5⟩ := HQ.out
          have z1 := ownsRow_set q4 (j * 6 + 4) (.int .i64 (-l.sign))
          have hh : rmirL f ls l = ⟨l.kind, l.gate, l.rank, l.id, -l.sign, l.over⟩ := by unfold rmirL; rw [if_neg HK.out]
          rw [letters_set4 (MapL_at HL.out), ← hh, MapL_set HL.out] at z1
          have z2 := RsRel.step (P := P) (r1 := r1) (w := w) (by omega) q1 q2 q3 hPg (by omega) hRP (fun q hq => (Below.heap_setCell _ _ _ q hq)) z1 (q5.setCell (p := ⟨gL, j * 6 + 4, none⟩) (by show w.heap.size ≤ gL; omega) _)
          exact z2.below ((Below.refl _ _).alloc (Nat.le_refl _) _)
        case measure => simp [intOf]; omega
    · obtain rfl : j = n := by omega
      have z0 := Lib.cell_of_heap q2 0
      have z1 := Lib.cell_of_heap q2 1
      have zf : ∀ k, wr.frozen? ⟨r1, k, none⟩ = false := fun k => by simp [World.frozen?, q2]
      clear q1 q2 q3 q4 q5
      go_wp2_with fail
      obtain ⟨X, hX⟩ : ∃ X, X = (wr.setCell ⟨r1, 0, none⟩ (.int .i64 f)).setCell ⟨r1, 1, none⟩ (.slice Av j cv) := ⟨_, rfl⟩
      obtain ⟨k0, k1, hXB, _, hXK⟩ := res_end HQ.out.2.1 hwr1 HQ.out.2.2.2.2 _ _ hX
      rw [← hX]
      refine bodyPost_ret (v := .agg #[.int .i64 f, .slice Av j cv]) (by simp [results, Tryd.results35, go_sem, k0, k1]) rfl ⟨Av, cv, rfl, ?_, hXB⟩
      have h1 := own_kept2' HQ.out.2.2.2.1 (w' := X) (fun g e => hXK g (by have := (World.ownsRow.lt HQ.out.2.2.2.1 g e).1; omega))
      have hm := MapL_all (rmirL f ls) ls
      rw [HLN.out] at hm
      rw [hm] at h1
      exact own_base' h1 (by omega)

end Go.Proofs.YtjobnldepblciaaDoor
