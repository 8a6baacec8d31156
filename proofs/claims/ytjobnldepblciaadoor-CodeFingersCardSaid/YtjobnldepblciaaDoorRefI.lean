/-
  The walks of the reference's Insert, Forget and Place.
-/
import Derived.Test.YtjobnldepblciaaDoorRefM
import Derived.Test.YtjobnldepblciaaDoorInsA
namespace Go.Proofs.YtjobnldepblciaaDoor
open Go.RowKit

theorem letters_set1 {ls : List Lt} {k : Nat} {l : Lt} {x : Int} (h : ls[k]? = some l) : (ls.flatMap ltCells).set (k * 6 + 1) (.int .i64 x) = (ls.set k ⟨l.kind, x, l.rank, l.id, l.sign, l.over⟩).flatMap ltCells := by
  have h1 := letters_set12 (x := x) (y := l.rank) h
  have h2 := letters_at h 2 _ rfl
  rw [← h1]
  have h3 : ((ls.flatMap ltCells).set (k * 6 + 1) (.int .i64 x))[k * 6 + 2]? = some (.int .i64 l.rank) := by rw [List.getElem?_set_ne (by omega)]; exact h2
  refine List.ext_getElem? fun i => ?_
  by_cases e : i = k * 6 + 2
  · subst e
    rw [h3, List.getElem?_set_self (by have := List.getElem?_eq_some_iff.1 h3; exact this.1)]
  · rw [List.getElem?_set_ne (l := (ls.flatMap ltCells).set (k * 6 + 1) (.int .i64 x)) (fun c => e c.symm)]

set_option maxHeartbeats 4000000 in
set_option maxRecDepth 100000 in
theorem refInsert_calls (f g v : Int) (A : Option Addr) (n c : Nat) (ls : List Lt) (w : World) (hL : LS w A n ls) (hz : A = none → c = 0) (hsp : ∀ a, A = some a → a.spot = none) (hn : n ≤ 1000)
    (hf : 0 ≤ f ∧ f ≤ 1000) (hgv : (0 ≤ g ∧ g ≤ 1000) ∧ 0 ≤ v ∧ v ≤ 1000000) (hg : ∀ l, l ∈ ls → l.kind = 1 → (0 ≤ l.gate ∧ l.gate ≤ 1000) ∧ 0 ≤ l.rank ∧ l.rank ≤ 1000000) :
    Calls Tryd.prog 39 #[.agg #[.int .i64 f, .slice A n c], .agg #[.int .i64 g, .int .i64 v]] w (OkC (f + 1) n (ls.map (insL g v)) w) := by
  have HLN : Hid (ls.length = n) := hL.1
  have HLL := Lib.hid hL
  have HCP : Hid (∀ W, Below w.heap.size w W → Calls Tryd.prog 71 #[.agg #[.int .i64 f, .slice A n c]] W fun e w' => ∃ Av cv, e = .returned (.agg #[.int .i64 f, .slice Av n cv]) ∧ w'.ownsRow W.heap.size 58 6 (.slice Av n cv) n (ls.flatMap ltCells) ∧ Below W.heap.size W w') :=
    fun W hW => refCopy2 f A n c ls W (hL.below hW) hz hsp (by omega)
  have HG := Lib.hid hg
  have u0 : IntKind.i64.wrap (f + 1) = f + 1 := wrapI (by omega) (by omega)
  clear hL hz hsp hg
  go_enter Tryd.func39, Tryd.ntmps39
  go_wp2_with fail
  obtain ⟨W0, hW0⟩ : ∃ W0, W0 = ((w.alloc (.cells #[.int .i64 f, .slice A n c] 24)).alloc (.cells #[.int .i64 g, .int .i64 v] 31)).alloc (.cells #[.int .i64 0, .slice none 0 0] 24) := ⟨_, rfl⟩
  have HF0 := Lib.hid (forget_mem w _ _ _ W0 hW0)
  have HWS : Hid (W0.heap.size = w.heap.size + 3) := by rw [hW0]; unfold Hid; simp
  rw [← hW0]
  clear hW0
  refine (HCP.out _ HF0.out.2.2.2.2).mono ?_
  rintro e w1 ⟨Av, cv, rfl, ho, hb1⟩
  go_wp2_with fail
  obtain ⟨W1, hW1⟩ : ∃ W1, W1 = w1.alloc (.cells #[.int .i64 (f + 1), .slice Av n cv] 24) := ⟨_, rfl⟩
  have hRB : W1.heap[w1.heap.size]? = some (.cells #[.int .i64 (f + 1), .slice Av n cv] 24 (0, 0)) := by rw [hW1]; exact heap_alloc_new w1 _
  have hba : Below w1.heap.size w1 W1 := by rw [hW1]; exact (Below.refl _ _).alloc (Nat.le_refl _) _
  have HM1 := Lib.hid (forget_next (forget_next HF0.out hb1) hba)
  obtain ⟨R, hR⟩ : ∃ R, R = w1.heap.size := ⟨_, rfl⟩
  obtain ⟨P, hP⟩ : ∃ P, P = w.heap.size := ⟨_, rfl⟩
  obtain ⟨Q, hQ⟩ : ∃ Q, Q = w.heap.size + 1 := ⟨_, rfl⟩
  obtain ⟨r1, hr1⟩ : ∃ r1, r1 = w.heap.size + 1 + 1 := ⟨_, rfl⟩
  have HST : Hid (RsRel P r1 R f (f + 1) (.slice A n c) (.slice Av n cv) (w.heap.size + 3) n (insL g v) ls w (.int .i64 0) W1 ∧ W1.heap[Q]? = some (.cells #[.int .i64 g, .int .i64 v] 31 (0, 0))) := by
    refine ⟨⟨0, Nat.zero_le _, rfl, by rw [hP]; exact HM1.out.1, by rw [hr1]; exact HM1.out.2.2.1, by rw [hR]; exact hRB, ?_, HM1.out.2.2.2.2⟩, by rw [hQ]; exact HM1.out.2.1⟩
    rw [MapL_zero, ← HWS.out]
    exact ownsRow_below ho hba
  have hRw : w.heap.size + 1 + 1 < R := by have := (forget_next HF0.out hb1).2.2.2.1; omega
  rw [← hW1, ← hR, ← hr1, ← hQ, ← hP]
  have hPr : P < w.heap.size + 3 := by omega
  have hQr : Q < w.heap.size + 3 := by omega
  have hrr : r1 < w.heap.size + 3 := by omega
  have hPR : P ≠ R := by omega
  have hQR : Q ≠ R := by omega
  have hwP : w.heap.size ≤ P := by omega
  have hwr1 : w.heap.size ≤ r1 := by omega
  have hrR : r1 ≠ R := by omega
  have hQr1 : Q ≠ r1 := by omega
  have hPr1 : P ≠ r1 := by omega
  clear hba hW1 hR ho hb1 HM1 hP hr1 hQ hRB
  go_loopw [6] (fun iv wr => RsRel P r1 R f (f + 1) (.slice A n c) (.slice Av n cv) (w.heap.size + 3) n (insL g v) ls w iv wr ∧ wr.heap[Q]? = some (.cells #[.int .i64 g, .int .i64 v] 31 (0, 0))) (fun iv _ => n - (intOf iv).toNat)
  case atStart => exact HST.out
  case round =>
    obtain ⟨⟨j, hj, rfl, q1, q2, q3, q4, q5⟩, q6⟩ := hrel
    have HQ := Lib.hid (And.intro q1 (And.intro q2 (And.intro q3 (And.intro q4 (And.intro q5 q6)))))
    have x0 := Lib.cell_of_heap q3 0
    have x1 := Lib.cell_of_heap q3 1
    by_cases hlt : j < n
    · obtain ⟨b, off, l, rfl, hbl, hl, e0, e1, e2, e3, e4, e5⟩ := (HLL.out.below q5).at_ hlt
      obtain ⟨gL, rfl⟩ : ∃ gL, Av = some ⟨gL, 0, none⟩ := by
        rcases q4.2 with ⟨_, h0⟩ | ⟨g, cap, cur, hv, _⟩
        · omega
        · injection hv with e1; exact ⟨g, e1⟩
      have y1 := Lib.cell_of_heap q1 1
      have p0 := Lib.cell_of_heap q6 0
      have p1 := Lib.cell_of_heap q6 1
      have hgR := row_code_ne q4 q3
      have HAT := Lib.hid (letters_at (MapL_at (h := insL g v) hl))
      have d1 := ownsRow_cell q4 (HAT.out 1 _ rfl)
      have d2 := ownsRow_cell q4 (HAT.out 2 _ rfl)
      have c1 : wr.cell? ⟨gL, j * 6 + 1, none⟩ = some (.int .i64 l.gate) := d1.1
      have c2 : wr.cell? ⟨gL, j * 6 + 2, none⟩ = some (.int .i64 l.rank) := d2.1
      have g1 : wr.frozen? ⟨gL, j * 6 + 1, none⟩ = false := d1.2.1
      have g2 : wr.frozen? ⟨gL, j * 6 + 2, none⟩ = false := d2.2.1
      have hgb := d1.2.2
      have hji : (j : Int) < n := by omega
      have HL := Lib.hid hl
      have hRl := heap_lt q3
      have hPl := heap_lt q1
      have hQl := heap_lt q6
      have hne1 : ¬ gL = wr.heap.size := by omega
      have hne2 : ¬ R = wr.heap.size := by omega
      have hne3 : ¬ P = wr.heap.size := by omega
      have hne4 : ¬ Q = wr.heap.size := by omega
      have hRP : ¬ R = gL := fun e => hgR e.symm
      have hPg : ¬ P = gL := by omega
      have hQg : ¬ Q = gL := by omega
      clear d1 d2
      by_cases hk : l.kind = 1
      · have hke : (l.kind == 1) = true := by rw [beq_iff_eq]; exact hk
        have hkn : (l.kind != 1) = false := by simp [hk]
        have HK := Lib.hid hk
        obtain ⟨⟨k0, k1⟩, k2, k3⟩ := HG.out l (List.mem_of_getElem? hl) hk
        have u1 : IntKind.i64.wrap (l.gate + 1) = l.gate + 1 := wrapI (by omega) (by omega)
        have u2 : IntKind.i64.wrap (l.rank - v) = l.rank - v := wrapI (by omega) (by omega)
        by_cases h1 : g < l.gate
        · have t1 : decide (g < l.gate) = true := decide_eq_true h1
          have t2 : (l.gate == g) = false := by rw [beq_eq_false_iff_ne]; omega
          have HH : Hid (insL g v l = ⟨l.kind, l.gate + 1, l.rank, l.id, l.sign, l.over⟩) := by unfold Hid insL; rw [if_pos ⟨hk, .inl h1⟩, if_neg (by omega)]
          clear hk hl h1 q1 q2 q3 q4 q5 q6
          go_wp2_with fail
          go_roundw
          case rel =>
            obtain ⟨q1, q2, q3, q4, q5, q6⟩ := HQ.out
            have z1 := ownsRow_set q4 (j * 6 + 1) (.int .i64 (l.gate + 1))
            rw [letters_set1 (MapL_at HL.out), ← HH.out, MapL_set HL.out] at z1
            have z2 := RsRel.step (P := P) (r1 := r1) (w := w) (by omega) q1 q2 q3 hPg (by omega) hRP (fun q hq => (Below.heap_setCell _ _ _ q hq)) z1 (q5.setCell (p := ⟨gL, j * 6 + 1, none⟩) (by show w.heap.size ≤ gL; omega) _)
            exact ⟨z2.below ((Below.refl _ _).alloc (Nat.le_refl _) _), (((Below.refl _ _).alloc (Nat.le_refl _) _).block Q (by simp; omega)).trans ((Below.heap_setCell _ _ _ Q hQg).trans q6)⟩
          case measure => simp [intOf]; omega
        · have t1 : decide (g < l.gate) = false := decide_eq_false h1
          by_cases h2 : l.gate = g
          · have t2 : (l.gate == g) = true := by rw [beq_iff_eq]; exact h2
            by_cases h3 : v < l.rank
            · have t3 : decide (v < l.rank) = true := decide_eq_true h3
              have HH : Hid (insL g v l = ⟨l.kind, l.gate + 1, l.rank - v, l.id, l.sign, l.over⟩) := by unfold Hid insL; rw [if_pos ⟨hk, .inr ⟨h2, h3⟩⟩, if_pos h2]
              clear hk hl h1 h2 h3 q1 q2 q3 q4 q5 q6
              go_wp2_with fail
              go_roundw
              case rel =>
                obtain ⟨q1, q2, q3, q4, q5, q6⟩ := HQ.out
                have z0 := ownsRow_set q4 (j * 6 + 1) (.int .i64 (l.gate + 1))
                have z1 := ownsRow_set z0 (j * 6 + 2) (.int .i64 (l.rank - v))
                rw [letters_set12 (MapL_at HL.out), ← HH.out, MapL_set HL.out] at z1
                have z2 := RsRel.step (P := P) (r1 := r1) (w := w) (by omega) q1 q2 q3 hPg (by omega) hRP (fun q hq => (Below.heap_setCell _ _ _ q hq).trans (Below.heap_setCell _ _ _ q hq)) z1 ((q5.setCell (p := ⟨gL, j * 6 + 1, none⟩) (by show w.heap.size ≤ gL; omega) _).setCell (p := ⟨gL, j * 6 + 2, none⟩) (by show w.heap.size ≤ gL; omega) _)
                exact ⟨z2.below ((Below.refl _ _).alloc (Nat.le_refl _) _), (((Below.refl _ _).alloc (Nat.le_refl _) _).block Q (by simp; omega)).trans ((Below.heap_setCell _ _ _ Q hQg).trans ((Below.heap_setCell _ _ _ Q hQg).trans q6))⟩
              case measure => simp [intOf]; omega
            · have t3 : decide (v < l.rank) = false := decide_eq_false h3
              have HH : Hid (insL g v l = l) := by unfold Hid insL; rw [if_neg (by omega)]
              clear hk hl h1 h2 h3 q1 q2 q3 q4 q5 q6
              go_wp2_with fail
              go_roundw
              case rel =>
                obtain ⟨q1, q2, q3, q4, q5, q6⟩ := HQ.out
                rw [← MapL_same HL.out HH.out] at q4
                have z2 := RsRel.step (P := P) (r1 := r1) (w := w) (by omega) q1 q2 q3 hPg (by omega) hRP (fun q hq => rfl) q4 q5
                exact ⟨z2.below ((Below.refl _ _).alloc (Nat.le_refl _) _), (((Below.refl _ _).alloc (Nat.le_refl _) _).block Q (by omega)).trans q6⟩
              case measure => simp [intOf]; omega
          · have t2 : (l.gate == g) = false := by rw [beq_eq_false_iff_ne]; exact h2
            have HH : Hid (insL g v l = l) := by unfold Hid insL; rw [if_neg (by omega)]
            clear hk hl h1 h2 q1 q2 q3 q4 q5 q6
            go_wp2_with fail
            go_roundw
            case rel =>
              obtain ⟨q1, q2, q3, q4, q5, q6⟩ := HQ.out
              rw [← MapL_same HL.out HH.out] at q4
              have z2 := RsRel.step (P := P) (r1 := r1) (w := w) (by omega) q1 q2 q3 hPg (by omega) hRP (fun q hq => rfl) q4 q5
              exact ⟨z2.below ((Below.refl _ _).alloc (Nat.le_refl _) _), (((Below.refl _ _).alloc (Nat.le_refl _) _).block Q (by omega)).trans q6⟩
            case measure => simp [intOf]; omega
      · have hke : (l.kind == 1) = false := by rw [beq_eq_false_iff_ne]; exact hk
        have hkn : (l.kind != 1) = true := by simp [hk]
        have HH : Hid (insL g v l = l) := by unfold Hid insL; rw [if_neg (fun c => hk c.1)]
        clear hk hl q1 q2 q3 q4 q5 q6
        go_wp2_with fail
        go_roundw
        case rel =>
          obtain ⟨q1, q2, q3, q4, q5, q6⟩ := HQ.out
          rw [← MapL_same HL.out HH.out] at q4
          have z2 := RsRel.step (P := P) (r1 := r1) (w := w) (by omega) q1 q2 q3 hPg (by omega) hRP (fun q hq => rfl) q4 q5
          exact ⟨z2.below ((Below.refl _ _).alloc (Nat.le_refl _) _), (((Below.refl _ _).alloc (Nat.le_refl _) _).block Q (by omega)).trans q6⟩
        case measure => simp [intOf]; omega
    · obtain rfl : j = n := by omega
      have z0 := Lib.cell_of_heap q2 0
      have z1 := Lib.cell_of_heap q2 1
      have zf : ∀ k, wr.frozen? ⟨r1, k, none⟩ = false := fun k => by simp [World.frozen?, q2]
      clear q1 q2 q3 q4 q5 q6
      go_wp2_with fail
      obtain ⟨X, hX⟩ : ∃ X, X = (wr.setCell ⟨r1, 0, none⟩ (.int .i64 (f + 1))).setCell ⟨r1, 1, none⟩ (.slice Av j cv) := ⟨_, rfl⟩
      obtain ⟨k0, k1, hXB, _, hXK⟩ := res_end HQ.out.2.1 hwr1 HQ.out.2.2.2.2.1 _ _ hX
      rw [← hX]
      refine bodyPost_ret (v := .agg #[.int .i64 (f + 1), .slice Av j cv]) (by simp [results, Tryd.results39, go_sem, k0, k1]) rfl ⟨Av, cv, rfl, ?_, hXB⟩
      have h1 := own_kept2' HQ.out.2.2.2.1 (w' := X) (fun g e => hXK g (by have := (World.ownsRow.lt HQ.out.2.2.2.1 g e).1; omega))
      have hm := MapL_all (insL g v) ls
      rw [HLN.out] at hm
      rw [hm] at h1
      exact own_base' h1 (by omega)

end Go.Proofs.YtjobnldepblciaaDoor
