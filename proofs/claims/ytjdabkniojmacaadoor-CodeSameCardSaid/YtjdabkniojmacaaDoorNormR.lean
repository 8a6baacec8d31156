/-
  StartR LessR NormR, one after the other.
-/
import Derived.Test.YtjdabkniojmacaaDoorRefO
import Derived.Test.YtjdabkniojmacaaDoorLet4
import Derived.Deep.RegionHeld3
import Derived.Test.YtjdabkniojmacaaDoorNormP
import Derived.Test.YtjdabkniojmacaaDoorRenR
import Derived.Test.YtjdabkniojmacaaDoorRefBk

/-
  The walk of the reference's Start.
-/
namespace Go.Proofs.YtjdabkniojmacaaDoor
open Go.RowKit

set_option maxHeartbeats 8000000 in
set_option maxRecDepth 100000 in
theorem refStart_calls (f : Int) (b off n c I : Nat) (xs : List Lt) (w : World) (hL : LS w (some ⟨b, off, none⟩) n xs) (hc : n ≤ c) (hn : n ≤ 1000) (hI : I < n) :
    Calls Tryd.prog 35 #[.agg #[.int .i64 f, .slice (some ⟨b, off, none⟩) n c], .int .i64 (I : Int)] w (OkC f n (xs.drop I ++ xs.take I) w) := by
  have HLN : Hid (xs.length = n) := hL.1
  go_enter Tryd.func35, Tryd.ntmps35
  go_wp2_with fail
  obtain ⟨W0, hW0⟩ : ∃ W0, W0 = (w.alloc (.cells #[.int .i64 f, .slice (some ⟨b, off, none⟩) n c] 24)).alloc (.cells #[.int .i64 0, .slice none 0 0] 24) := ⟨_, rfl⟩
  have HF0 := Lib.hid (two_mem w _ _ W0 hW0)
  rw [← hW0]
  clear hW0
  have HLW := Lib.hid (hL.below HF0.out.2.2.2)
  have x0 := Lib.cell_of_heap HF0.out.1 0
  have x1 := Lib.cell_of_heap HF0.out.1 1
  obtain ⟨P, hP⟩ : ∃ P, P = w.heap.size := ⟨_, rfl⟩
  obtain ⟨r1, hr1⟩ : ∃ r1, r1 = w.heap.size + 1 := ⟨_, rfl⟩
  rw [← hP] at x0 x1
  have hwr1 : w.heap.size ≤ r1 := by omega
  have HDR := Lib.hid (HLW.out.dropL (k := I) (by omega))
  have HTK := Lib.hid (HLW.out.takeL (k := I) (by omega))
  have hb1 : ([] : List Lt).length + (n - I) ≤ 1000000 := by simp; omega
  have hb2 : (xs.drop I).length + I ≤ 1000000 := by rw [List.length_drop, HLN.out]; omega
  have hnc : (n : Int) ≤ c := by omega
  have hjc : ¬ c = I := by omega
  have hjn : (I : Int) ≤ n := by omega
  have hjc2 : (I : Int) ≤ c := by omega
  have hlen2 : (xs.drop I ++ xs.take I).length = n := by rw [List.length_append, List.length_drop, List.length_take, HLN.out]; omega
  have HB1 := Lib.hid hb1
  have HB2 := Lib.hid hb2
  have HL2 := Lib.hid hlen2
  have hPl := heap_lt HF0.out.1
  have hrl := heap_lt HF0.out.2.1
  have HC : Hid (∀ W (hW : Below W0.heap.size W0 W), W.heap[P]? = some (.cells #[.int .i64 f, .slice (some ⟨b, off, none⟩) n c] 24 (0, 0)) ∧ W.heap[r1]? = some (.cells #[.int .i64 0, .slice none 0 0] 24 (0, 0))) := fun W hW => by
    rw [hP, hr1]
    exact ⟨(hW.block _ hPl).trans HF0.out.1, (hW.block _ hrl).trans HF0.out.2.1⟩
  have HR1E := Lib.hid hr1
  rw [← hr1, ← hP]
  clear hb1 hb2 hlen2 hP hr1 hPl hrl
  go_region_law (first
    | (refine step_append_lts rfl (.const (.slice none 0 0)) (.tmp 10) rfl W0.heap.size (.slice none 0 0) [] (by kernel_rfl) (OwnL.nil _ _) b (off + I * 6) (n - I) (c - I) (xs.drop I) (by kernel_rfl) HDR.out HB1.out (Nat.le_refl _) ?_; intro v1 w1 hown1 hg1; rw [List.nil_append] at hown1; have hbb : Below W0.heap.size W0 w1 := ((Below.refl W0.heap.size W0).drew).grown hg1 (Nat.le_refl _) (fun q hq => by cases hq); have K1 := Lib.hid (And.intro hown1 hbb); have y0 := Lib.cell_of_heap (HC.out w1 hbb).1 0; have y1 := Lib.cell_of_heap (HC.out w1 hbb).1 1; clear hown1 hg1 hbb)
    | (refine step_append_lts rfl (.tmp 11) (.tmp 15) rfl W0.heap.size v1 (xs.drop I) (by kernel_rfl) K1.out.1 b off I c (xs.take I) (by kernel_rfl) (HTK.out.below K1.out.2) HB2.out K1.out.2.size ?_; intro v2 w2 hown2 hg2; have hbb : Below W0.heap.size W0 w2 := K1.out.2.grown hg2 K1.out.2.size (fun q hq => (World.ownsRow.lt K1.out.1 q hq).1); unfold OwnL at hown2; rw [HL2.out] at hown2; obtain ⟨Av, cv, rfl⟩ := own_form hown2; have K2 := Lib.hid (And.intro hown2 hbb); have z0 := Lib.cell_of_heap (HC.out w2 hbb).1 0; have z1 := Lib.cell_of_heap (HC.out w2 hbb).1 1; have r0 := Lib.cell_of_heap (HC.out w2 hbb).2 0; have r1' := Lib.cell_of_heap (HC.out w2 hbb).2 1; have rf : ∀ x, w2.frozen? ⟨r1, x, none⟩ = false := (by intro x; have h1 := (HC.out w2 hbb).2; simp [World.frozen?, h1]); clear hown2 hg2 hbb))
  all_goals
    go_wp2_with fail
    obtain ⟨X, hX⟩ : ∃ X, X = (w2.setCell ⟨r1, 0, none⟩ (.int .i64 f)).setCell ⟨r1, 1, none⟩ (.slice Av n cv) := ⟨_, rfl⟩
    have hw2 : Below w.heap.size w w2 := HF0.out.2.2.2.trans (K2.out.2.mono HF0.out.2.2.2.size)
    obtain ⟨k0, k1, hXB, _, hXK⟩ := res_end (HC.out w2 K2.out.2).2 hwr1 hw2 _ _ hX
    rw [← hX]
    refine bodyPost_ret (v := .agg #[.int .i64 f, .slice Av n cv]) (by simp [results, Tryd.results35, go_sem, k0, k1]) rfl ⟨Av, cv, rfl, ?_, by first | exact hXB | exact hXB.drew⟩
    have h1 := own_kept2' K2.out.1 (w' := X) (fun g e => hXK g (by have := (World.ownsRow.lt K2.out.1 g e).1; have := HF0.out.2.2.1; have := HR1E.out; omega))
    exact own_base' h1 HF0.out.2.2.2.size

end Go.Proofs.YtjdabkniojmacaaDoor

/-
  The walks of the reference's Less of lists, number and Less of codes.
-/
namespace Go.Proofs.YtjdabkniojmacaaDoor
open Go.RowKit

/-- The first place where two lists differ decides. -/
def LessIPost (xs ys : List Int) (n : Nat) (w : World) (e : Ending) (w' : World) : Prop :=
  ∃ b, e = .returned (.bool b) ∧ ((∃ (k : Nat) (x y : Int), (∀ i, i < k → xs[i]? = ys[i]?) ∧ xs[k]? = some x ∧ ys[k]? = some y ∧ x ≠ y ∧ b = decide (x < y)) ∨ ((∀ i, i < n → xs[i]? = ys[i]?) ∧ b = false)) ∧ Below w.heap.size w w'
def LessIRel (xs ys : List Int) (n : Nat) (w : World) (i : Value) (wr : World) : Prop :=
  ∃ j q : Nat, j ≤ n ∧ i = .int .i64 j ∧ (∀ i, i < j → xs[i]? = ys[i]?) ∧ wr = w.drewN q

set_option maxHeartbeats 1000000 in
theorem lessI_calls (A1 A2 : Option Addr) (n c1 c2 : Nat) (xs ys : List Int) (w : World) (h1 : SL w A1 n xs) (h2 : SL w A2 n ys) (hn : n ≤ 1000000) :
    Calls Tryd.prog 109 #[.slice A1 n c1, .slice A2 n c2] w (LessIPost xs ys n w) := by
  go_enter Tryd.func109, Tryd.ntmps109
  go_wp2_with fail
  go_loopw [5] (fun i wr => LessIRel xs ys n w i wr) (fun i _ => n - (intOf i).toNat)
  case atStart => exact ⟨0, 0, Nat.zero_le _, rfl, fun i hi => by omega, rfl⟩
  case round =>
    obtain ⟨j, q, hj, rfl, hall, rfl⟩ := hrel
    have HALL := Lib.hid hall
    clear hall
    by_cases hlt : j < n
    · obtain ⟨b, off, x, rfl, _, hx, hc⟩ := h1.at_ hlt
      obtain ⟨b', off', y, rfl, _, hy, hd⟩ := h2.at_ hlt
      have hi1 : (j : Int) < n := by omega
      have HX := Lib.hid hx
      have HY := Lib.hid hy
      clear hx hy
      by_cases hxy : x = y
      · have hne2 : (x != y) = false := by rw [bne_eq_false_iff_eq]; exact hxy
        have HXY := Lib.hid hxy
        clear hxy
        go_wp2_with fail
        go_quiet (fail)
        go_wp2_with fail
        go_roundw
        case rel => exact ⟨j + 1, _, by omega, by rw [Int.natCast_add]; rfl, fun i hi => by
          by_cases e : i = j
          · subst e; rw [HX.out, HY.out, HXY.out]
          · exact HALL.out i (by omega), rfl⟩
        case measure => simp [intOf]; omega
      · have hne2 : (x != y) = true := by rw [bne_iff_ne]; exact hxy
        have HXY := Lib.hid hxy
        obtain ⟨r, hr⟩ : ∃ r, decide (x < y) = r := ⟨_, rfl⟩
        have HR := Lib.hid hr
        clear hxy
        go_wp2_with fail
        go_quiet (fail)
        go_wp2_with fail
        go_quiet (fail)
        go_wp2_with fail
        go_ret
        exact ⟨_, rfl, .inl ⟨j, x, y, HALL.out, HX.out, HY.out, HXY.out, HR.out.symm⟩, below_drewN (below_drewN (below_drewN (Below.refl _ _) _) _) _⟩
    · go_wp2_with fail
      go_ret
      exact ⟨_, rfl, .inr ⟨fun i hi => HALL.out i (by omega), rfl⟩, below_drewN (Below.refl _ _) _⟩

/-- The numbers of a letter. -/
def numL (l : Lt) : List Int := [l.kind, l.gate, l.rank, l.id, if l.over = true then 1 else 0, l.sign]
theorem sl_six (w : World) (a b c d e f : Int) (T : TypeId) : SL (w.alloc (.cells #[.int .i64 a, .int .i64 b, .int .i64 c, .int .i64 d, .int .i64 e, .int .i64 f] T)) (some ⟨w.heap.size, 0, none⟩) 6 [a, b, c, d, e, f] := by
  have h := heap_alloc_new w (.cells #[.int .i64 a, .int .i64 b, .int .i64 c, .int .i64 d, .int .i64 e, .int .i64 f] T)
  refine ⟨rfl, fun _ => ⟨w.heap.size, 0, rfl, by simp, fun k hk => ?_⟩⟩
  rcases (show k = 0 ∨ k = 1 ∨ k = 2 ∨ k = 3 ∨ k = 4 ∨ k = 5 by omega) with rfl | rfl | rfl | rfl | rfl | rfl
  · exact Lib.cell_of_heap h 0
  · exact Lib.cell_of_heap h 1
  · exact Lib.cell_of_heap h 2
  · exact Lib.cell_of_heap h 3
  · exact Lib.cell_of_heap h 4
  · exact Lib.cell_of_heap h 5
def NumPost (l : Lt) (w : World) (e : Ending) (w' : World) : Prop := ∃ g, e = .returned (.slice (some ⟨g, 0, none⟩) 6 6) ∧ SL w' (some ⟨g, 0, none⟩) 6 (numL l) ∧ Below w.heap.size w w'
theorem NumPost.of (l : Lt) (w : World) (o : Obj) (q : Int) (hq : q = if l.over = true then 1 else 0) (T : TypeId) : NumPost l w (.returned (.slice (some ⟨w.heap.size + 1, 0, none⟩) 6 6)) ((w.alloc o).alloc (.cells #[.int .i64 l.kind, .int .i64 l.gate, .int .i64 l.rank, .int .i64 l.id, .int .i64 q, .int .i64 l.sign] T)) := by
  have hb := ((Below.refl w.heap.size w).alloc (Nat.le_refl _) o).alloc (o := .cells #[.int .i64 l.kind, .int .i64 l.gate, .int .i64 l.rank, .int .i64 l.id, .int .i64 q, .int .i64 l.sign] T) (by simp)
  have h := sl_six (w.alloc o) l.kind l.gate l.rank l.id q l.sign T
  rw [World.size_alloc] at h
  exact ⟨w.heap.size + 1, rfl, by unfold numL; rw [← hq]; exact h, hb⟩
set_option maxHeartbeats 1000000 in
theorem number_calls (l : Lt) (w : World) : Calls Tryd.prog 110 #[l.val] w (NumPost l w) := by
  unfold Lt.val
  have HP := Lib.hid (fun o q hq T => NumPost.of l w o q hq T)
  cases ho : l.over with
  | false =>
    have HO := Lib.hid ho
    clear ho
    go_enter Tryd.func110, Tryd.ntmps110
    go_wp2_with fail
    go_ret
    exact HP.out _ _ (by rw [HO.out]; rfl) _
  | true =>
    have HO := Lib.hid ho
    clear ho
    go_enter Tryd.func110, Tryd.ntmps110
    go_wp2_with fail
    go_ret
    exact HP.out _ _ (by rw [HO.out]; rfl) _

set_option maxHeartbeats 4000000 in
set_option maxRecDepth 100000 in
/-- A code is not less than one with the same letters. -/
theorem less_same (f1 f2 : Int) (A1 A2 : Option Addr) (n c1 c2 : Nat) (ls : List Lt) (w : World) (h1 : LS w A1 n ls) (h2 : LS w A2 n ls) (hn : n ≤ 1000000) :
    Calls Tryd.prog 69 #[.agg #[.int .i64 f1, .slice A1 n c1], .agg #[.int .i64 f2, .slice A2 n c2]] w fun e w' => e = .returned (.bool false) ∧ Below w.heap.size w w' := by
  have HB1 : Hid (Below w.heap.size w (w.alloc (.cells #[.int .i64 f1, .slice A1 n c1] 24))) := (Below.refl _ _).alloc (Nat.le_refl _) _
  have hx2 := Box.made (w.alloc (.cells #[.int .i64 f1, .slice A1 n c1] 24)) f2 A2 n c2 24
  have hb2 : Below (w.alloc (.cells #[.int .i64 f1, .slice A1 n c1] 24)).heap.size (w.alloc (.cells #[.int .i64 f1, .slice A1 n c1] 24)) ((w.alloc (.cells #[.int .i64 f1, .slice A1 n c1] 24)).alloc (.cells #[.int .i64 f2, .slice A2 n c2] 24)) := (Below.refl _ _).alloc (Nat.le_refl _) _
  have HX1 := Lib.hid ((Box.made w f1 A1 n c1 24).below hb2)
  have HX2 := Lib.hid hx2
  have HB := Lib.hid (HB1.out.trans (hb2.mono HB1.out.size))
  rw [World.size_alloc] at HX2
  clear hx2 hb2 HB1
  go_enter Tryd.func69, Tryd.ntmps69
  go_wp2_with fail
  obtain ⟨W0, hW0⟩ : ∃ W0, W0 = (w.alloc (.cells #[.int .i64 f1, .slice A1 n c1] 24)).alloc (.cells #[.int .i64 f2, .slice A2 n c2] 24) := ⟨_, rfl⟩
  obtain ⟨P, hP⟩ : ∃ P, P = w.heap.size := ⟨_, rfl⟩
  obtain ⟨Q, hQ⟩ : ∃ Q, Q = w.heap.size + 1 := ⟨_, rfl⟩
  rw [← hW0] at HX1 HX2 HB ⊢
  rw [← hQ] at HX2 ⊢
  rw [← hP] at HX1 ⊢
  clear hW0 hP hQ
  obtain ⟨p0, p1, p2⟩ := HX1.out
  obtain ⟨q0, q1, q2⟩ := HX2.out
  go_loopw [5] (fun i wr => EqRel ls ls n W0 i wr) (fun i _ => n - (intOf i).toNat)
  case atStart => exact ⟨0, 0, Nat.zero_le _, rfl, fun k hk => by omega, rfl⟩
  case round =>
    obtain ⟨j, q, hj, rfl, hall, rfl⟩ := hrel
    clear hall
    by_cases hlt : j < n
    · obtain ⟨b, off, l, rfl, hbl, hl, c0, c1, c2, c3, c4, c5⟩ := (h1.below HB.out).at_ hlt
      obtain ⟨b', off', l', rfl, hbl', hl', d0, d1, d2, d3, d4, d5⟩ := (h2.below HB.out).at_ hlt
      have hj1 : (j : Int) < n := by omega
      rw [hl] at hl'
      injection hl' with hl'
      subst hl'
      clear hl
      go_wp2_with fail
      go_quiet (fail)
      go_wp2_with fail
      go_roundw
      case rel => exact ⟨j + 1, _, by omega, by rw [Int.natCast_add]; rfl, fun k hk => rfl, rfl⟩
      case measure => simp [intOf]; omega
    · obtain rfl : j = n := by omega
      go_wp2_with fail
      go_ret
      exact ⟨rfl, below_drewN HB.out _⟩

/-- Two codes that begin with different passes. -/
theorem num_first {a b : Lt} {r : Bool} (ha : a.kind = 1) (hb : b.kind = 1) (hd : ¬ (a.gate = b.gate ∧ a.rank = b.rank)) (h : (∃ (k : Nat) (x y : Int), (∀ i, i < k → (numL a)[i]? = (numL b)[i]?) ∧ (numL a)[k]? = some x ∧ (numL b)[k]? = some y ∧ x ≠ y ∧ r = decide (x < y)) ∨ ((∀ i, i < 6 → (numL a)[i]? = (numL b)[i]?) ∧ r = false)) :
    r = decide (a.gate < b.gate ∨ a.gate = b.gate ∧ a.rank < b.rank) := by
  rcases h with ⟨k, x, y, hall, hx, hy, hne, rfl⟩ | ⟨hall, rfl⟩
  · rcases (show k = 0 ∨ k = 1 ∨ k = 2 ∨ 3 ≤ k by omega) with rfl | rfl | rfl | hk
    · simp only [numL, List.getElem?_cons_zero, Option.some.injEq] at hx hy
      omega
    · simp only [numL, List.getElem?_cons_succ, List.getElem?_cons_zero, Option.some.injEq] at hx hy
      subst hx; subst hy
      rw [decide_eq_decide]; omega
    · have h1 := hall 1 (by omega)
      simp only [numL, List.getElem?_cons_succ, List.getElem?_cons_zero, Option.some.injEq] at hx hy h1
      subst hx; subst hy
      rw [decide_eq_decide]; omega
    · have h1 := hall 1 (by omega)
      have h2 := hall 2 (by omega)
      simp only [numL, List.getElem?_cons_succ, List.getElem?_cons_zero, Option.some.injEq] at h1 h2
      exact absurd ⟨h1, h2⟩ hd
  · have h1 := hall 1 (by omega)
    have h2 := hall 2 (by omega)
    simp only [numL, List.getElem?_cons_succ, List.getElem?_cons_zero, Option.some.injEq] at h1 h2
    exact absurd ⟨h1, h2⟩ hd

/-- What the comparison of two first letters reads. -/
def LfS (P Q : Nat) (v1 v2 : Value) (b1 o1 b2 o2 : Nat) (a b : Lt) (V w' : World) : Prop :=
  w'.cell? ⟨P, 1, none⟩ = some v1 ∧ w'.cell? ⟨Q, 1, none⟩ = some v2 ∧ w'.cell? ⟨b1, o1, none⟩ = some (.int .i64 a.kind) ∧ w'.cell? ⟨b1, o1 + 1, none⟩ = some (.int .i64 a.gate) ∧ w'.cell? ⟨b1, o1 + 2, none⟩ = some (.int .i64 a.rank) ∧ w'.cell? ⟨b1, o1 + 3, none⟩ = some (.int .i64 a.id) ∧ w'.cell? ⟨b1, o1 + 4, none⟩ = some (.int .i64 a.sign) ∧ w'.cell? ⟨b1, o1 + 5, none⟩ = some (.bool a.over) ∧
  w'.cell? ⟨b2, o2, none⟩ = some (.int .i64 b.kind) ∧ w'.cell? ⟨b2, o2 + 1, none⟩ = some (.int .i64 b.gate) ∧ w'.cell? ⟨b2, o2 + 2, none⟩ = some (.int .i64 b.rank) ∧ w'.cell? ⟨b2, o2 + 3, none⟩ = some (.int .i64 b.id) ∧ w'.cell? ⟨b2, o2 + 4, none⟩ = some (.int .i64 b.sign) ∧ w'.cell? ⟨b2, o2 + 5, none⟩ = some (.bool b.over) ∧ Below V.heap.size V w'
theorem LfS.last {P Q : Nat} {v1 v2 : Value} {b1 o1 b2 o2 : Nat} {a b : Lt} {V w' : World} (h : LfS P Q v1 v2 b1 o1 b2 o2 a b V w') : Below V.heap.size V w' := h.2.2.2.2.2.2.2.2.2.2.2.2.2.2
theorem LfS.of {P Q : Nat} {v1 v2 : Value} {b1 o1 b2 o2 : Nat} {a b : Lt} {V w' : World} (hP : P < V.heap.size) (hQ : Q < V.heap.size) (h1 : b1 < V.heap.size) (h2 : b2 < V.heap.size) (p : V.cell? ⟨P, 1, none⟩ = some v1) (q : V.cell? ⟨Q, 1, none⟩ = some v2) (ha : LtAt V b1 o1 a) (hb : LtAt V b2 o2 b) (hw : Below V.heap.size V w') : LfS P Q v1 v2 b1 o1 b2 o2 a b V w' := by
  obtain ⟨a0, a1, a2, a3, a4, a5⟩ := ha
  obtain ⟨c0, c1, c2, c3, c4, c5⟩ := hb
  have e1 : ∀ o, w'.cell? ⟨b1, o, none⟩ = V.cell? ⟨b1, o, none⟩ := fun o => hw.cell (p := ⟨b1, o, none⟩) h1
  have e2 : ∀ o, w'.cell? ⟨b2, o, none⟩ = V.cell? ⟨b2, o, none⟩ := fun o => hw.cell (p := ⟨b2, o, none⟩) h2
  exact ⟨(hw.cell (p := ⟨P, 1, none⟩) hP).trans p, (hw.cell (p := ⟨Q, 1, none⟩) hQ).trans q, (e1 _).trans a0, (e1 _).trans a1, (e1 _).trans a2, (e1 _).trans a3, (e1 _).trans a4, (e1 _).trans a5, (e2 _).trans c0, (e2 _).trans c1, (e2 _).trans c2, (e2 _).trans c3, (e2 _).trans c4, (e2 _).trans c5, hw⟩

set_option maxHeartbeats 4000000 in
set_option maxRecDepth 100000 in
theorem less_first (f1 f2 : Int) (A1 A2 : Option Addr) (n k1 k2 : Nat) (ls ms : List Lt) (a b : Lt) (w : World) (h1 : LS w A1 n ls) (h2 : LS w A2 n ms) (hn : n ≤ 1000000) (hn0 : 0 < n) (ha : ls[0]? = some a) (hb : ms[0]? = some b) (ka : a.kind = 1) (kb : b.kind = 1) (hd : ¬ (a.gate = b.gate ∧ a.rank = b.rank)) :
    Calls Tryd.prog 69 #[.agg #[.int .i64 f1, .slice A1 n k1], .agg #[.int .i64 f2, .slice A2 n k2]] w fun e w' => e = .returned (.bool (decide (a.gate < b.gate ∨ a.gate = b.gate ∧ a.rank < b.rank))) ∧ Below w.heap.size w w' := by
  have HB1 : Hid (Below w.heap.size w (w.alloc (.cells #[.int .i64 f1, .slice A1 n k1] 24))) := (Below.refl _ _).alloc (Nat.le_refl _) _
  have hx2 := Box.made (w.alloc (.cells #[.int .i64 f1, .slice A1 n k1] 24)) f2 A2 n k2 24
  have hb2 : Below (w.alloc (.cells #[.int .i64 f1, .slice A1 n k1] 24)).heap.size (w.alloc (.cells #[.int .i64 f1, .slice A1 n k1] 24)) ((w.alloc (.cells #[.int .i64 f1, .slice A1 n k1] 24)).alloc (.cells #[.int .i64 f2, .slice A2 n k2] 24)) := (Below.refl _ _).alloc (Nat.le_refl _) _
  have HX1 := Lib.hid ((Box.made w f1 A1 n k1 24).below hb2)
  have HX2 := Lib.hid hx2
  have HB := Lib.hid (HB1.out.trans (hb2.mono HB1.out.size))
  rw [World.size_alloc] at HX2
  clear hx2 hb2 HB1
  obtain ⟨r, hr⟩ : ∃ r, decide (a.gate < b.gate ∨ a.gate = b.gate ∧ a.rank < b.rank) = r := ⟨_, rfl⟩
  rw [hr]
  have HR : Hid (∀ q, ((∃ (k : Nat) (x y : Int), (∀ i, i < k → (numL a)[i]? = (numL b)[i]?) ∧ (numL a)[k]? = some x ∧ (numL b)[k]? = some y ∧ x ≠ y ∧ q = decide (x < y)) ∨ ((∀ i, i < 6 → (numL a)[i]? = (numL b)[i]?) ∧ q = false)) → q = r) := fun q h => by rw [← hr]; exact num_first ka kb hd h
  have hne : a.gate ≠ b.gate ∨ (a.gate = b.gate ∧ a.rank ≠ b.rank) := by
    by_cases e : a.gate = b.gate
    · exact .inr ⟨e, fun c => hd ⟨e, c⟩⟩
    · exact .inl e
  have HN := Lib.hid hne
  have hn0i : (0 : Int) < n := by omega
  clear hr hd hne
  go_enter Tryd.func69, Tryd.ntmps69
  go_wp2_with fail
  obtain ⟨W0, hW0⟩ : ∃ W0, W0 = (w.alloc (.cells #[.int .i64 f1, .slice A1 n k1] 24)).alloc (.cells #[.int .i64 f2, .slice A2 n k2] 24) := ⟨_, rfl⟩
  obtain ⟨P, hP⟩ : ∃ P, P = w.heap.size := ⟨_, rfl⟩
  obtain ⟨Q, hQ⟩ : ∃ Q, Q = w.heap.size + 1 := ⟨_, rfl⟩
  rw [← hW0] at HX1 HX2 HB ⊢
  rw [← hQ] at HX2 ⊢
  rw [← hP] at HX1 ⊢
  clear hW0 hP hQ
  obtain ⟨p0, p1, p2⟩ := HX1.out
  obtain ⟨q0, q1, q2⟩ := HX2.out
  go_loopw [5] (fun i wr => i = .int .i64 0 ∧ wr = W0) (fun i _ => n - (intOf i).toNat)
  case atStart => exact ⟨rfl, rfl⟩
  case round =>
    obtain ⟨rfl, rfl⟩ := hrel
    obtain ⟨b1, off, l, rfl, hbl, hl, c0, c1, c2, c3, c4, c5⟩ := (h1.below HB.out).at_ hn0
    obtain ⟨b2, off', l', rfl, hbl', hl', d0, d1, d2, d3, d4, d5⟩ := (h2.below HB.out).at_ hn0
    rw [ha] at hl
    rw [hb] at hl'
    injection hl with hl
    injection hl' with hl'
    subst hl
    subst hl'
    rw [Nat.zero_mul, Nat.add_zero] at c0 c1 c2 c3 c4 c5 d0 d1 d2 d3 d4 d5
    have HLA : Hid (LtAt wr b1 off a) := ⟨c0, c1, c2, c3, c4, c5⟩
    have HLB : Hid (LtAt wr b2 off' b) := ⟨d0, d1, d2, d3, d4, d5⟩
    rw [ka] at c0
    rw [kb] at d0
    have HNA : Hid (∀ W, Calls Tryd.prog 110 #[.agg #[.int .i64 a.kind, .int .i64 a.gate, .int .i64 a.rank, .int .i64 a.id, .int .i64 a.sign, .bool a.over]] W (NumPost a W)) := fun W => by
      have h := number_calls a W
      unfold Lt.val at h
      exact h
    have HNB : Hid (∀ W, Calls Tryd.prog 110 #[.agg #[.int .i64 b.kind, .int .i64 b.gate, .int .i64 b.rank, .int .i64 b.id, .int .i64 b.sign, .bool b.over]] W (NumPost b W)) := fun W => by
      have h := number_calls b W
      unfold Lt.val at h
      exact h
    have HKA := Lib.hid ka
    have HKB := Lib.hid kb
    clear ka kb
    rcases HN.out with e | ⟨e1, e⟩
    all_goals
      try clear e1
      go_wp2_with fail
      go_quiet (fail)
      go_wp2_with fail
      obtain ⟨V, hV⟩ : ∃ V, V = wr.drewN nq := ⟨_, rfl⟩
      have HPQ : Hid (P < V.heap.size ∧ Q < V.heap.size ∧ b1 < V.heap.size ∧ b2 < V.heap.size ∧ V.cell? ⟨P, 1, none⟩ = some (.slice (some ⟨b1, off, none⟩) n k1) ∧ V.cell? ⟨Q, 1, none⟩ = some (.slice (some ⟨b2, off', none⟩) n k2) ∧ LtAt V b1 off a ∧ LtAt V b2 off' b) := by
        rw [hV]; exact ⟨p0, q0, hbl, hbl', p2, q2, HLA.out, HLB.out⟩
      have HBV : Hid (Below w.heap.size w V) := by rw [hV]; exact below_drewN HB.out _
      have g0 : V.cell? ⟨b1, off, none⟩ = some (.int .i64 1) := by rw [hV]; exact c0
      have g1 : V.cell? ⟨b2, off', none⟩ = some (.int .i64 1) := by rw [hV]; exact d0
      have HKP : Hid (∀ w', Below V.heap.size V w' → LfS P Q (.slice (some ⟨b1, off, none⟩) n k1) (.slice (some ⟨b2, off', none⟩) n k2) b1 off b2 off' a b V w') := fun w' h => LfS.of HPQ.out.1 HPQ.out.2.1 HPQ.out.2.2.1 HPQ.out.2.2.2.1 HPQ.out.2.2.2.2.1 HPQ.out.2.2.2.2.2.1 HPQ.out.2.2.2.2.2.2.1 HPQ.out.2.2.2.2.2.2.2 h
      rw [← hV]
      clear hV p1 p2 q1 q2 c0 c1 c2 c3 c4 c5 d0 d1 d2 d3 d4 d5 e
      go_region_held3 (fun w' => w'.cell? ⟨P, 1, none⟩ = some (.slice (some ⟨b1, off, none⟩) n k1) ∧ w'.cell? ⟨Q, 1, none⟩ = some (.slice (some ⟨b2, off', none⟩) n k2) ∧ w'.cell? ⟨b1, off, none⟩ = some (.int .i64 a.kind) ∧ w'.cell? ⟨b1, off + 1, none⟩ = some (.int .i64 a.gate) ∧ w'.cell? ⟨b1, off + 2, none⟩ = some (.int .i64 a.rank) ∧ w'.cell? ⟨b1, off + 3, none⟩ = some (.int .i64 a.id) ∧ w'.cell? ⟨b1, off + 4, none⟩ = some (.int .i64 a.sign) ∧ w'.cell? ⟨b1, off + 5, none⟩ = some (.bool a.over) ∧ w'.cell? ⟨b2, off', none⟩ = some (.int .i64 b.kind) ∧ w'.cell? ⟨b2, off' + 1, none⟩ = some (.int .i64 b.gate) ∧ w'.cell? ⟨b2, off' + 2, none⟩ = some (.int .i64 b.rank) ∧ w'.cell? ⟨b2, off' + 3, none⟩ = some (.int .i64 b.id) ∧ w'.cell? ⟨b2, off' + 4, none⟩ = some (.int .i64 b.sign) ∧ w'.cell? ⟨b2, off' + 5, none⟩ = some (.bool b.over) ∧ Below V.heap.size V w')
        (first
          | exact HKP.out _ (Below.refl _ _).drew
          | exact HKP.out _ ((LfS.last (P := P) (Q := Q) (v1 := (.slice (some ⟨b1, off, none⟩) n k1)) (v2 := (.slice (some ⟨b2, off', none⟩) n k2)) (b1 := b1) (o1 := off) (b2 := b2) (o2 := off') (a := a) (b := b) (V := V) (by assumption)).trans (hbw.mono (LfS.last (P := P) (Q := Q) (v1 := (.slice (some ⟨b1, off, none⟩) n k1)) (v2 := (.slice (some ⟨b2, off', none⟩) n k2)) (b1 := b1) (o1 := off) (b2 := b2) (o2 := off') (a := a) (b := b) (V := V) (by assumption)).size)))
        (first
          | (go_at_call 110; (with_reducible refine (HNA.out _).mono ?_); rintro e w2 ⟨g2, rfl, hs2, hbw⟩; have K2 := Lib.hid hs2; clear hs2)
          | (go_at_call 110; (with_reducible refine (HNB.out _).mono ?_); rintro e w3 ⟨g3, rfl, hs3, hbw⟩; have K3 := Lib.hid hs3; have K23 := Lib.hid (K2.out.below hbw); clear hs3)
          | (go_at_call 109; (with_reducible refine (lessI_calls _ _ 6 6 6 (numL a) (numL b) _ K23.out K3.out (by decide)).mono ?_); rintro e w4 ⟨bb, rfl, hbb, hbw⟩; have K4 := Lib.hid hbb; clear hbb))
      have hS : LfS P Q (.slice (some ⟨b1, off, none⟩) n k1) (.slice (some ⟨b2, off', none⟩) n k2) b1 off b2 off' a b V w4 := by assumption
      have HF : Hid (Below w.heap.size w w4) := HBV.out.trans (hS.last.mono HBV.out.size)
      obtain rfl := HR.out bb K4.out
      clear hS
      go_wp2_with fail
      go_ret
      exact ⟨rfl, HF.out⟩

end Go.Proofs.YtjdabkniojmacaaDoor

/-
  The walk of the reference's Normal.
-/
namespace Go.Proofs.YtjdabkniojmacaaDoor
open Go.RowKit

/-- The code, the result, the best code so far, the two codes, in memory. -/
def NrS (P r1 B G : Nat) (f : Int) (vc v1 : Value) (n : Nat) (L1 : List Lt) (w : World) (vb : Value) (bL : List Lt) (W : World) : Prop :=
  W.heap[P]? = some (.cells #[.int .i64 f, vc] 24 (0, 0)) ∧ W.heap[r1]? = some (.cells #[.int .i64 0, .slice none 0 0] 24 (0, 0)) ∧ W.heap[B]? = some (.cells #[.int .i64 f, vb] 24 (0, 0)) ∧
    W.heap[G]? = some (.cells #[.int .i64 f, vc, .int .i64 f, v1] 24 (0, 0)) ∧ W.ownsRow w.heap.size 48 6 v1 n (L1.flatMap ltCells) ∧ W.ownsRow w.heap.size 48 6 vb n (bL.flatMap ltCells) ∧ Below w.heap.size w W
theorem NrS.below {P r1 B G : Nat} {f : Int} {vc v1 : Value} {n : Nat} {L1 : List Lt} {w : World} {vb : Value} {bL : List Lt} {W W' : World} (k : NrS P r1 B G f vc v1 n L1 w vb bL W) (hb : Below W.heap.size W W') : NrS P r1 B G f vc v1 n L1 w vb bL W' := by
  obtain ⟨h1, h2, h3, h4, h5, h6, h7⟩ := k
  exact ⟨(hb.block _ (heap_lt h1)).trans h1, (hb.block _ (heap_lt h2)).trans h2, (hb.block _ (heap_lt h3)).trans h3, (hb.block _ (heap_lt h4)).trans h4, ownsRow_below h5 hb, ownsRow_below h6 hb, h7.trans (hb.mono h7.size)⟩
theorem NrS.set {P r1 B G : Nat} {f : Int} {vc v1 : Value} {n : Nat} {L1 : List Lt} {w : World} {vb vy : Value} {bL yL : List Lt} {W : World} (k : NrS P r1 B G f vc v1 n L1 w vb bL W) (hP : P ≠ B) (hr : r1 ≠ B) (hG : G ≠ B) (hw : w.heap.size ≤ B) (hy : W.ownsRow w.heap.size 48 6 vy n (yL.flatMap ltCells)) :
    NrS P r1 B G f vc v1 n L1 w vy yL ((W.setCell ⟨B, 0, none⟩ (.int .i64 f)).setCell ⟨B, 1, none⟩ vy) := by
  obtain ⟨h1, h2, h3, h4, h5, h6, h7⟩ := k
  have e : ∀ q, q ≠ B → ((W.setCell ⟨B, 0, none⟩ (.int .i64 f)).setCell ⟨B, 1, none⟩ vy).heap[q]? = W.heap[q]? := fun q hq => (Below.heap_setCell _ _ _ q hq).trans (Below.heap_setCell _ _ _ q hq)
  refine ⟨(e _ hP).trans h1, (e _ hr).trans h2, ?_, (e _ hG).trans h4, own_kept2' h5 (fun g e1 => e g (own_obj_ne h5 h3 (by decide) g e1)), own_kept2' hy (fun g e1 => e g (own_obj_ne hy h3 (by decide) g e1)), (h7.setCell (p := ⟨B, 0, none⟩) hw _).setCell (p := ⟨B, 1, none⟩) hw _⟩
  simp [World.setCell, Array.getElem?_modify, h3]

theorem LeP.refl_first {ls : List Lt} {q : Nat} {l : Lt} (h1 : ls[q]? = some l) (h2 : l.kind = 1) : (candL ls q)[0]? = some l := by
  have hq : q < ls.length := lt_len h1
  unfold candL
  have h5 : (followL ls (q : Int) (if downB ls q = true then 1 else -1))[0]? = some l := by
    rw [followL_get (by omega)]
    split
    · rw [stepM_pos hq (by omega), if_pos (by omega)]; exact h1
    · rw [stepM_neg hq (by omega), if_pos (by omega)]; exact h1
  exact renL_pass h5 (by omega)
/-- The two codes' letters. -/
def xsM (ls L1 : List Lt) (k : Nat) : List Lt := if k = 0 then ls else L1
def NrRel (P r1 B G : Nat) (f : Int) (vc v1 : Value) (n R : Nat) (ls L1 : List Lt) (w : World) (kv : Value) (W : World) : Prop :=
  ∃ (k : Nat) (vb : Value) (bL : List Lt), k ≤ 2 ∧ kv = .int .i64 (k : Int) ∧ bL.length = n ∧ (0 < n → BestQ ls R k 0 bL) ∧ (n = 0 → bL = []) ∧ NrS P r1 B G f vc v1 n L1 w vb bL W

def NiRel (P r1 B G X : Nat) (f : Int) (vc v1 vx : Value) (n R k : Nat) (ls L1 : List Lt) (w : World) (iv : Value) (W : World) : Prop :=
  ∃ (i : Nat) (vb : Value) (bL : List Lt), i ≤ n ∧ iv = .int .i64 (i : Int) ∧ bL.length = n ∧ (0 < n → BestQ ls R k i bL) ∧ (n = 0 → bL = []) ∧ NrS P r1 B G f vc v1 n L1 w vb bL W ∧ W.heap[X]? = some (.cells #[.int .i64 f, vx] 24 (0, 0))

set_option maxHeartbeats 16000000 in
set_option maxRecDepth 100000 in
theorem refNormal_calls (f : Int) (A : Option Addr) (n c R : Nat) (ls L1 BL : List Lt) (w : World) (hL : LS w A n ls) (hz : A = none → c = 0) (hsp : ∀ a, A = some a → a.spot = none) (hc : n ≤ c) (hn : n ≤ 1000) (hln1 : L1.length = n)
    (hRN : ∀ W, Below w.heap.size w W → Calls Tryd.prog 26 #[.agg #[.int .i64 f, .slice A n c]] W (OkC f n (renL ls) W))
    (hBK : ∀ W, Below w.heap.size w W → Calls Tryd.prog 68 #[.agg #[.int .i64 f, .slice A n c]] W (OkC f n L1 W))
    (h0 : 0 < n → R < n ∧ L1 = followL ls (R : Int) (-1) ∧ cntB isPass ls % 2 = 0 ∧ downB ls (R + 1) = true ∧ (∃ l : Lt, ls[0]? = some l ∧ l.kind = 1) ∧ (∀ (i j : Nat) (a b : Lt), ls[i]? = some a → ls[j]? = some b → a.kind = 1 → b.kind = 1 → a.gate = b.gate → a.rank = b.rank → i = j) ∧
      (∀ q, q < n → ∀ l, l ∈ followL ls (q : Int) (if downB ls q = true then 1 else -1) → l.kind = 2 → 0 ≤ l.id ∧ l.id ≤ cntK 2 (followL ls (q : Int) (if downB ls q = true then 1 else -1)) / 2))
    (hend : (0 < n → ∀ bL, BestQ ls R 2 0 bL → bL = BL) ∧ (n = 0 → BL = [])) :
    Calls Tryd.prog 25 #[.agg #[.int .i64 f, .slice A n c]] w (OkC f n BL w) := by
  have HLN : Hid (ls.length = n) := hL.1
  have HLL := Lib.hid hL
  have HLN1 := Lib.hid hln1
  have HRN := Lib.hid hRN
  have HBK := Lib.hid hBK
  have H0 := Lib.hid h0
  have HEND := Lib.hid hend
  have HZ := Lib.hid hz
  have HSP := Lib.hid hsp
  clear hL hln1 hRN hBK h0 hend hz hsp
  go_enter Tryd.func25, Tryd.ntmps25
  go_wp2_with fail
  obtain ⟨W0, hW0⟩ : ∃ W0, W0 = (w.alloc (.cells #[.int .i64 f, .slice A n c] 24)).alloc (.cells #[.int .i64 0, .slice none 0 0] 24) := ⟨_, rfl⟩
  have HF0 := Lib.hid (two_mem w _ _ W0 hW0)
  rw [← hW0]
  clear hW0
  have a0 := Lib.cell_of_heap HF0.out.1 0
  have a1 := Lib.cell_of_heap HF0.out.1 1
  refine (HRN.out _ HF0.out.2.2.2).mono ?_
  rintro e w1 ⟨Av, cv, rfl, ho, hb1⟩
  have HM1 := Lib.hid (two_next HF0.out hb1)
  have HO1 := Lib.hid ho
  have HB1 := Lib.hid hb1
  clear a0 a1 ho hb1
  have a0 := Lib.cell_of_heap HM1.out.1 0
  have a1 := Lib.cell_of_heap HM1.out.1 1
  go_wp2_with fail
  obtain ⟨V, hV⟩ : ∃ V, V = w1.alloc (.cells #[.int .i64 f, .slice Av n cv] 24) := ⟨_, rfl⟩
  obtain ⟨B, hB⟩ : ∃ B, B = w1.heap.size := ⟨_, rfl⟩
  obtain ⟨P, hP⟩ : ∃ P, P = w.heap.size := ⟨_, rfl⟩
  obtain ⟨r1, hr1⟩ : ∃ r1, r1 = w.heap.size + 1 := ⟨_, rfl⟩
  have hbV : Below w1.heap.size w1 V := by rw [hV]; exact (Below.refl _ _).alloc (Nat.le_refl _) _
  have HBV := Lib.hid (two_next HM1.out hbV)
  have HPV : Hid (V.heap[P]? = some (.cells #[.int .i64 f, .slice A n c] 24 (0, 0))) := by rw [hP]; exact HBV.out.1
  have HRV : Hid (V.heap[r1]? = some (.cells #[.int .i64 0, .slice none 0 0] 24 (0, 0))) := by rw [hr1]; exact HBV.out.2.1
  have HBBV : Hid (V.heap[B]? = some (.cells #[.int .i64 f, .slice Av n cv] 24 (0, 0))) := by rw [hV, hB]; exact heap_alloc_new w1 _
  have HOV := Lib.hid (own_base' (ownsRow_below HO1.out hbV) HF0.out.2.2.2.size)
  have hPr : P < r1 := by omega
  have hrB : r1 < B := by have := HM1.out.2.2.1; omega
  have hwP : w.heap.size = P := hP.symm
  have hPl := heap_lt HPV.out
  have HKP : Hid (∀ w', Below V.heap.size V w' → BoxS P f (.slice A n c) V w') := fun w' h => ⟨(h.cell (p := ⟨P, 0, none⟩) hPl).trans (Lib.cell_of_heap HPV.out 0), (h.cell (p := ⟨P, 1, none⟩) hPl).trans (Lib.cell_of_heap HPV.out 1), h⟩
  have HWV := Lib.hid HBV.out.2.2.2
  have HWP := Lib.hid hwP
  rw [← hV, ← hB, ← hr1, ← hP]
  clear hV hB hr1 hP hbV a0 a1 hPl hwP HBV HM1 HF0 HO1 HB1
  go_region_held3 (fun w' => w'.cell? ⟨P, 0, none⟩ = some (.int .i64 f) ∧ w'.cell? ⟨P, 1, none⟩ = some (.slice A n c) ∧ Below V.heap.size V w')
    (first
      | exact HKP.out _ (Below.refl _ _).drew
      | exact HKP.out _ ((BoxS.last (P := P) (f := f) (v := .slice A n c) (w := V) (by assumption)).alloc (BoxS.last (P := P) (f := f) (v := .slice A n c) (w := V) (by assumption)).size _)
      | exact HKP.out _ ((BoxS.last (P := P) (f := f) (v := .slice A n c) (w := V) (by assumption)).trans (hbw.mono (BoxS.last (P := P) (f := f) (v := .slice A n c) (w := V) (by assumption)).size)))
    (first
      | (go_at_call 68; (with_reducible refine (HBK.out _ ?hbx).mono ?_); (case hbx => exact HWV.out.trans ((BoxS.last (P := P) (f := f) (v := .slice A n c) (w := V) (by assumption)).mono HWV.out.size)); rintro e w2 ⟨A1, c1, rfl, hrow1, hbw⟩; have HR1 := Lib.hid hrow1; clear hrow1))
  go_wp2_with fail
  obtain ⟨G, hG⟩ : ∃ G, G = w2.heap.size := ⟨_, rfl⟩
  obtain ⟨W3, hW3⟩ : ∃ W3, W3 = w2.alloc (.cells #[.int .i64 f, .slice A n c, .int .i64 f, .slice A1 n c1] 24) := ⟨_, rfl⟩
  have hS : BoxS P f (.slice A n c) V W3 := by rw [hW3]; assumption
  have hbV3 : Below V.heap.size V W3 := hS.last
  have hb23 : Below w2.heap.size w2 W3 := by rw [hW3]; exact (Below.refl _ _).alloc (Nat.le_refl _) _
  have hVs := HWV.out.size
  have hBV := heap_lt HBBV.out
  have hPV := heap_lt HPV.out
  have hrV := heap_lt HRV.out
  have HNR : Hid (NrS P r1 B G f (.slice A n c) (.slice A1 n c1) n L1 w (.slice Av n cv) (renL ls) W3) := by
    refine ⟨(hbV3.block _ hPV).trans HPV.out, (hbV3.block _ hrV).trans HRV.out, (hbV3.block _ hBV).trans HBBV.out, ?_, own_base' (ownsRow_below HR1.out hb23) hVs, ownsRow_below HOV.out hbV3, HWV.out.trans (hbV3.mono hVs)⟩
    rw [hW3, hG]; exact heap_alloc_new w2 _
  have hBG : B < G := by
    have h1 : V.heap.size ≤ w2.heap.size := hbw.size
    omega
  rw [← hW3, ← hG]
  have HST : Hid (NrRel P r1 B G f (.slice A n c) (.slice A1 n c1) n R ls L1 w (.int .i64 0) W3) := by
    refine ⟨0, .slice Av n cv, renL ls, by omega, rfl, by rw [renL_len, HLN.out], fun h => ?_, fun h => ?_, HNR.out⟩
    · obtain ⟨_, _, _, _, ⟨l, h5, h6⟩, _⟩ := H0.out h
      exact best_zero h5 h6
    · have e : ls = [] := List.eq_nil_of_length_eq_zero (by rw [HLN.out]; exact h)
      rw [e]; rfl
  have hwB : w.heap.size ≤ B := by have := HWP.out; omega
  have HPG : Hid (P ≠ B ∧ r1 ≠ B ∧ G ≠ B ∧ P < B ∧ B < G) := ⟨by omega, by omega, by omega, by omega, by omega⟩
  clear hG hW3 hS hbV3 hb23 hVs hBV hPV hrV HNR hbw HPV HRV HBBV HOV HKP HRN HBK HR1
  go_loopw [5] (fun kv wr => NrRel P r1 B G f (.slice A n c) (.slice A1 n c1) n R ls L1 w kv wr) (fun kv _ => 2 - (intOf kv).toNat)
  case atStart => exact HST.out
  case round =>
    obtain ⟨k, vb, bL, hk2, rfl, hbl, hbq, hbn, hnr⟩ := hrel
    have HNR := Lib.hid hnr
    have HBQ := Lib.hid hbq
    have HBN := Lib.hid hbn
    have HBL := Lib.hid hbl
    obtain ⟨n1, n2, n3, n4, n5, n6, n7⟩ := hnr
    have HL0 : Hid (LS wr A n ls) := HLL.out.below n7
    have HL1 : Hid (LS wr A1 n L1) := row_ls n5 HLN1.out
    have hc1 : n ≤ c1 := by
      rcases n5.2 with ⟨hv, h0⟩ | ⟨g, cap, cur, hv, _, _, hcap, _⟩
      · omega
      · injection hv with _ _ e3; rw [e3]; exact hcap
    clear hbq hbn hbl
    rcases (show k = 2 ∨ k = 0 ∨ k = 1 by omega) with rfl | rfl | rfl
    · have z0 := Lib.cell_of_heap n2 0
      have z1 := Lib.cell_of_heap n2 1
      have y0 := Lib.cell_of_heap n3 0
      have y1 := Lib.cell_of_heap n3 1
      have zf : ∀ k, wr.frozen? ⟨r1, k, none⟩ = false := fun k => by simp [World.frozen?, n2]
      obtain ⟨Ab, cb, rfl⟩ := own_form n6
      clear n1 n2 n3 n4 n5 n6 n7
      go_wp2_with fail
      obtain ⟨X, hX⟩ : ∃ X, X = (wr.setCell ⟨r1, 0, none⟩ (.int .i64 f)).setCell ⟨r1, 1, none⟩ (.slice Ab n cb) := ⟨_, rfl⟩
      obtain ⟨k0, k1, hXB, _, hXK⟩ := res_end HNR.out.2.1 (by have := HWP.out; omega) HNR.out.2.2.2.2.2.2 _ _ hX
      rw [← hX]
      have hbe : bL = BL := by
        rcases Nat.eq_zero_or_pos n with e | e
        · rw [HBN.out e, HEND.out.2 e]
        · exact HEND.out.1 e _ (HBQ.out e)
      refine bodyPost_ret (v := .agg #[.int .i64 f, .slice Ab n cb]) (by simp [results, Tryd.results25, go_sem, k0, k1]) rfl ⟨Ab, cb, rfl, ?_, hXB⟩
      rw [← hbe]
      exact own_kept2' HNR.out.2.2.2.2.2.1 (w' := X) (fun g e => hXK g (own_obj_ne HNR.out.2.2.2.2.2.1 HNR.out.2.1 (by decide) g e))
    · have g0 := Lib.cell_of_heap n4 0
      have g1 := Lib.cell_of_heap n4 1
      have hBwr := heap_lt n3
      have HN7 := Lib.hid n7
      clear n1 n2 n3 n4 n5 n6 n7
      go_wp2_with fail
      obtain ⟨X, hX⟩ : ∃ X, X = wr.heap.size := ⟨_, rfl⟩
      obtain ⟨W4, hW4⟩ : ∃ W4, W4 = wr.alloc (.cells #[.int .i64 f, .slice A n c] 24) := ⟨_, rfl⟩
      have hb4 : Below wr.heap.size wr W4 := by rw [hW4]; exact (Below.refl _ _).alloc (Nat.le_refl _) _
      have HI0 : Hid (NiRel P r1 B G X f (.slice A n c) (.slice A1 n c1) (.slice A n c) n R 0 ls L1 w (.int .i64 0) W4) :=
        ⟨0, vb, bL, Nat.zero_le _, rfl, HBL.out, HBQ.out, HBN.out, HNR.out.below hb4, by rw [hW4, hX]; exact heap_alloc_new wr _⟩
      have hBX : B < X := by omega
      rw [← hW4, ← hX]
      clear hW4 hX hb4 g0 g1
      go_loopw [7] (fun iv wq => NiRel P r1 B G X f (.slice A n c) (.slice A1 n c1) (.slice A n c) n R 0 ls L1 w iv wq) (fun iv _ => n - (intOf iv).toNat)
      case atStart => exact HI0.out
      case round =>
        obtain ⟨i, vb2, bL2, hi, rfl, hbl2, hbq2, hbn2, hnr2, hxx⟩ := hrel
        have HNR2 := Lib.hid hnr2
        have HBQ2 := Lib.hid hbq2
        have HBN2 := Lib.hid hbn2
        have HBL2 := Lib.hid hbl2
        have HXX := Lib.hid hxx
        have x0 := Lib.cell_of_heap hxx 0
        have x1 := Lib.cell_of_heap hxx 1
        clear hnr2 hbq2 hbn2 hbl2 hxx
        by_cases hlt : i < n
        · have hn0 : 0 < n := by omega
          have HH := Lib.hid (H0.out hn0)
          have HLQ : Hid (LS wr A n ls) := HLL.out.below HNR2.out.2.2.2.2.2.2
          obtain ⟨b, off, l, rfl, hbl, hl, d0, d1, d2, d3, d4, d5⟩ := HLQ.out.at_ hlt
          obtain ⟨ix, hix⟩ : ∃ ix, ixM n R 0 i = ix := ⟨_, rfl⟩
          have hixl : ls[ix]? = some l := by rw [← hix]; exact hl
          have HIX := Lib.hid hix
          have HLI := Lib.hid hixl
          have hii : (i : Int) < n := by omega
          have Hc : Hid (n ≤ c) := hc
          clear hl hixl hix d1 d2 d3 d4 d5
          by_cases hk : l.kind = 1
          · have hke : (l.kind == 1) = true := by rw [beq_iff_eq]; exact hk
            have HK := Lib.hid hk
            clear hk
            go_wp2_with fail
            refine (down_calls f (some ⟨b, off, none⟩) n c ls i wr HLQ.out (by omega) (by omega)).mono ?_
            rintro e w5 ⟨rfl, hb5⟩
            have HNR5 := Lib.hid (HNR2.out.below hb5)
            have hx5 := (hb5.block X (heap_lt HXX.out)).trans HXX.out
            have HX5 := Lib.hid hx5
            have HL5 := Lib.hid (HLQ.out.below hb5)
            clear x0 x1 d0
            have x0 := Lib.cell_of_heap hx5 0
            have x1 := Lib.cell_of_heap hx5 1
            clear hb5 hx5
            have hdn : downB ls i = (downB ls ix == decide (0 = 0)) := by rw [← HIX.out]; unfold ixM; rw [if_pos rfl]; cases downB ls i <;> rfl
            obtain ⟨dn, hdd⟩ : ∃ dn, downB ls i = dn := ⟨_, rfl⟩
            rw [hdd] at hdn ⊢
            have HDN := Lib.hid hdn
            clear hdd hdn
            cases dn with
            | true =>
              have hdx : downB ls ix = decide (0 = 0) := by
                have h1 := HDN.out
                revert h1
                cases downB ls ix <;> simp
              have HDX := Lib.hid hdx
              clear hdx
              go_wp2_with fail
              refine (refStart_calls f b off n c i ls w5 HL5.out Hc.out hn hlt).mono ?_
              rintro e w6 ⟨A6, c6, rfl, ho6, hb6⟩
              have HNR6 := Lib.hid (HNR5.out.below hb6)
              have HX6 := Lib.hid ((hb6.block X (heap_lt HX5.out)).trans HX5.out)
              have hfo : ls.drop i ++ ls.take i = followL ls (ix : Int) (if downB ls ix = true then 1 else -1) := by
                rw [rot_follow (by rw [HLN.out]; exact hlt), HDX.out, ← HIX.out]
                unfold ixM
                rfl
              rw [hfo] at ho6
              have hlen6 : (followL ls (ix : Int) (if downB ls ix = true then 1 else -1)).length = n := by rw [followL_len, HLN.out]
              have hixn : ix < n := by have := lt_len HLI.out; have := HLN.out; omega
              have HR6 : Hid (∀ W, Below w6.heap.size w6 W → Calls Tryd.prog 26 #[.agg #[.int .i64 f, .slice A6 n c6]] W (OkC f n (candL ls ix) W)) := by
                intro W hW
                refine refRename_calls f A6 n c6 _ W ((row_ls ho6 hlen6).below hW) (fun e => ?_) (fun a e => ?_) hn (HH.out.2.2.2.2.2.2 ix hixn)
                · rcases ho6.2 with ⟨hv, h0⟩ | ⟨g, cap, cur, hv, _⟩
                  · omega
                  · injection hv with e1; rw [e1] at e; cases e
                · rcases ho6.2 with ⟨hv, h0⟩ | ⟨g, cap, cur, hv, _⟩
                  · omega
                  · injection hv with e1; rw [e1] at e; injection e with e; rw [← e]
              clear ho6 hb6 hfo hlen6 x0 x1
              go_wp2_with fail
              refine (HR6.out _ (Below.refl _ _)).mono ?_
              rintro e w7 ⟨A7, c7, rfl, ho7, hb7⟩
              have HNR7 := Lib.hid (HNR6.out.below hb7)
              have HX7 := Lib.hid ((hb7.block X (heap_lt HX6.out)).trans HX6.out)
              have HO7 := Lib.hid (own_base' ho7 HNR6.out.2.2.2.2.2.2.size)
              clear ho7 hb7
              have hvb : ∃ Ab cb, vb2 = .slice Ab n cb := own_form HNR7.out.2.2.2.2.2.1
              obtain ⟨Ab, cb, rfl⟩ := hvb
              have b0 := Lib.cell_of_heap HNR7.out.2.2.1 0
              have b1 := Lib.cell_of_heap HNR7.out.2.2.1 1
              obtain ⟨q, lb, hq1, hq2, hq3, hq4⟩ := best_first (HBQ2.out hn0)
              have HQ := Lib.hid (And.intro hq1 (And.intro hq2 (And.intro hq3 hq4)))
              have hy0 : (candL ls ix)[0]? = some l := by
                have hh := LeP.refl_first HLI.out HK.out
                exact hh
              have HY0 := Lib.hid hy0
              have hixn : ix < n := by have := lt_len HLI.out; have := HLN.out; omega
              have hyl : (candL ls ix).length = n := by unfold candL; rw [renL_len, followL_len, HLN.out]
              have HYL := Lib.hid hyl
              obtain ⟨W8, hW8⟩ : ∃ W8, W8 = w7.alloc (.cells #[.int .i64 f, .slice A7 n c7] 24) := ⟨_, rfl⟩
              have hb8 : Below w7.heap.size w7 W8 := by rw [hW8]; exact (Below.refl _ _).alloc (Nat.le_refl _) _
              have HNR8 := Lib.hid (HNR7.out.below hb8)
              have HX8 := Lib.hid ((hb8.block X (heap_lt HX7.out)).trans HX7.out)
              have HO8 := Lib.hid (ownsRow_below HO7.out hb8)
              have HY8 : Hid (W8.heap[w7.heap.size]? = some (.cells #[.int .i64 f, .slice A7 n c7] 24 (0, 0))) := by rw [hW8]; exact heap_alloc_new w7 _
              have hBY : B < w7.heap.size := heap_lt HNR7.out.2.2.1
              have HLE : Hid (∃ rr, (rr = true → l.gate < lb.gate ∨ l.gate = lb.gate ∧ l.rank < lb.rank) ∧ (rr = false → LeP lb l) ∧ Calls Tryd.prog 69 #[.agg #[.int .i64 f, .slice A7 n c7], .agg #[.int .i64 f, .slice Ab n cb]] W8 fun e w' => e = .returned (.bool rr) ∧ Below W8.heap.size W8 w') := by
                have hLY := row_ls HO8.out HYL.out
                have hLB := row_ls HNR8.out.2.2.2.2.2.1 HBL2.out
                by_cases he : l.gate = lb.gate ∧ l.rank = lb.rank
                · have e1 := HH.out.2.2.2.2.2.1 ix q l lb HLI.out HQ.out.1 HK.out HQ.out.2.1 he.1 he.2
                  have e2 : bL2 = candL ls ix := by rw [HQ.out.2.2.1, e1]
                  rw [e2] at hLB
                  exact ⟨false, fun c => (by cases c), fun _ => .inr ⟨he.1.symm, by rw [he.2]; exact Int.le_refl _⟩, less_same f f A7 Ab n c7 cb _ W8 hLY hLB (by omega)⟩
                · refine ⟨decide (l.gate < lb.gate ∨ l.gate = lb.gate ∧ l.rank < lb.rank), fun h => of_decide_eq_true h, fun h => ?_, less_first f f A7 Ab n c7 cb _ _ l lb W8 hLY hLB (by omega) hn0 HY0.out HQ.out.2.2.2 HK.out HQ.out.2.1 he⟩
                  have h1 := of_decide_eq_false h
                  unfold LeP
                  omega
              clear hq1 hq2 hq3 hq4 hy0 hyl hb8
              go_wp2_with fail
              rw [← hW8]
              clear hW8 b0 b1
              obtain ⟨rr, hrt, hrf, hcl⟩ := HLE.out
              have HRT := Lib.hid hrt
              have HRF := Lib.hid hrf
              clear HLE hrt hrf
              refine hcl.mono ?_
              rintro e w9 ⟨rfl, hb9⟩
              have HNR9 := Lib.hid (HNR8.out.below hb9)
              have HX9 := Lib.hid ((hb9.block X (heap_lt HX8.out)).trans HX8.out)
              have HO9 := Lib.hid (ownsRow_below HO8.out hb9)
              have hy9 := (hb9.block _ (heap_lt HY8.out)).trans HY8.out
              have y0 := Lib.cell_of_heap hy9 0
              have y1 := Lib.cell_of_heap hy9 1
              have bf : ∀ x, w9.frozen? ⟨B, x, none⟩ = false := by intro x; have h1 := HNR9.out.2.2.1; simp [World.frozen?, h1]
              have b0 := Lib.cell_of_heap HNR9.out.2.2.1 0
              have b1 := Lib.cell_of_heap HNR9.out.2.2.1 1
              clear hcl hb9 hy9
              cases rr with
              | true =>
                have HLT := Lib.hid (HRT.out rfl)
                have hBX9 := heap_lt HX9.out
                clear HRT HRF
                go_wp2_with fail
                go_roundw
                case rel =>
                  have hpg := HPG.out
                  have hXB : X ≠ B := by omega
                  have h2 := HNR9.out.set (yL := candL ls ix) hpg.1 hpg.2.1 hpg.2.2.1 hwB HO9.out
                  have h3 : NiRel P r1 B G X f (.slice (some ⟨b, off, none⟩) n c) (.slice A1 n c1) (.slice (some ⟨b, off, none⟩) n c) n R 0 ls L1 w (.int .i64 ((i : Int) + 1)) ((w9.setCell ⟨B, 0, none⟩ (.int .i64 f)).setCell ⟨B, 1, none⟩ (.slice A7 n c7)) := ⟨i + 1, _, candL ls ix, by omega, by rw [Int.natCast_add]; rfl, HYL.out, fun h => by
                    have h4 := best_take (lc := l) (HBQ2.out h) HQ.out.2.2.2 (by rw [HLN.out, HIX.out]; exact HLI.out) HK.out HLT.out
                    rw [HLN.out, HIX.out] at h4
                    exact h4, fun h => by omega, h2, ((Below.heap_setCell _ _ _ X hXB).trans (Below.heap_setCell _ _ _ X hXB)).trans HX9.out⟩
                  (first | exact h3 | ((repeat (apply Exists.intro)); exact And.intro h3 rfl))
                case measure => simp [intOf]; omega
              | false =>
                have HGE := Lib.hid (HRF.out rfl)
                clear HRT HRF
                go_wp2_with fail
                go_roundw
                case rel =>
                  have h3 : NiRel P r1 B G X f (.slice (some ⟨b, off, none⟩) n c) (.slice A1 n c1) (.slice (some ⟨b, off, none⟩) n c) n R 0 ls L1 w (.int .i64 ((i : Int) + 1)) w9 := ⟨i + 1, _, bL2, by omega, by rw [Int.natCast_add]; rfl, HBL2.out, fun h => best_keep (lc := l) (HBQ2.out h) HQ.out.2.2.2 (by rw [HLN.out, HIX.out]; exact HLI.out) HGE.out, HBN2.out, HNR9.out, HX9.out⟩
                  (first | exact h3 | ((repeat (apply Exists.intro)); exact And.intro h3 rfl))
                case measure => simp [intOf]; omega
            | false =>
              go_wp2_with fail
              go_roundw
              case rel =>
                have h3 : NiRel P r1 B G X f (.slice (some ⟨b, off, none⟩) n c) (.slice A1 n c1) (.slice (some ⟨b, off, none⟩) n c) n R 0 ls L1 w (.int .i64 ((i : Int) + 1)) w5 := ⟨i + 1, vb2, bL2, by omega, by rw [Int.natCast_add]; rfl, HBL2.out, fun h => best_skip (HBQ2.out h) (fun l' hl' hk' => by
                  rw [HLN.out, HIX.out]
                  have h1 := HDN.out
                  revert h1
                  cases downB ls ix <;> simp), HBN2.out, HNR5.out, HX5.out⟩
                (first | exact h3 | ((repeat (apply Exists.intro)); exact And.intro h3 rfl))
              case measure => simp [intOf]; omega
          · have hke : (l.kind == 1) = false := by rw [beq_eq_false_iff_ne]; exact hk
            have HK := Lib.hid hk
            clear hk
            go_wp2_with fail
            go_roundw
            case rel =>
              have h3 : NiRel P r1 B G X f (.slice (some ⟨b, off, none⟩) n c) (.slice A1 n c1) (.slice (some ⟨b, off, none⟩) n c) n R 0 ls L1 w (.int .i64 ((i : Int) + 1)) wr := ⟨i + 1, vb2, bL2, by omega, by rw [Int.natCast_add]; rfl, HBL2.out, fun h => best_skip (HBQ2.out h) (fun l' hl' hk' => by
                rw [HLN.out, HIX.out, HLI.out] at hl'
                injection hl' with hl'
                rw [← hl'] at hk'
                exact absurd hk' HK.out), HBN2.out, HNR2.out, HXX.out⟩
              (first | exact h3 | ((repeat (apply Exists.intro)); exact And.intro h3 rfl))
            case measure => simp [intOf]; omega
        · obtain rfl : i = n := by omega
          go_wp2_with fail
          go_roundw
          case rel =>
            have h3 : NrRel P r1 B G f (.slice A i c) (.slice A1 i c1) i R ls L1 w (.int .i64 (0 + 1)) wr := ⟨0 + 1, vb2, bL2, by omega, rfl, HBL2.out, fun h => best_next (by rw [HLN.out]; exact HBQ2.out h), HBN2.out, HNR2.out⟩
            (first | exact h3 | ((repeat (apply Exists.intro)); exact And.intro h3 rfl))
          case measure => simp [intOf]
    · have g0 := Lib.cell_of_heap n4 2
      have g1 := Lib.cell_of_heap n4 3
      have hBwr := heap_lt n3
      have HN7 := Lib.hid n7
      clear n1 n2 n3 n4 n5 n6 n7
      go_wp2_with fail
      obtain ⟨X, hX⟩ : ∃ X, X = wr.heap.size := ⟨_, rfl⟩
      obtain ⟨W4, hW4⟩ : ∃ W4, W4 = wr.alloc (.cells #[.int .i64 f, .slice A1 n c1] 24) := ⟨_, rfl⟩
      have hb4 : Below wr.heap.size wr W4 := by rw [hW4]; exact (Below.refl _ _).alloc (Nat.le_refl _) _
      have HI0 : Hid (NiRel P r1 B G X f (.slice A n c) (.slice A1 n c1) (.slice A1 n c1) n R 1 ls L1 w (.int .i64 0) W4) :=
        ⟨0, vb, bL, Nat.zero_le _, rfl, HBL.out, HBQ.out, HBN.out, HNR.out.below hb4, by rw [hW4, hX]; exact heap_alloc_new wr _⟩
      have hBX : B < X := by omega
      rw [← hW4, ← hX]
      clear hW4 hX hb4 g0 g1
      go_loopw [7] (fun iv wq => NiRel P r1 B G X f (.slice A n c) (.slice A1 n c1) (.slice A1 n c1) n R 1 ls L1 w iv wq) (fun iv _ => n - (intOf iv).toNat)
      case atStart => exact HI0.out
      case round =>
        obtain ⟨i, vb2, bL2, hi, rfl, hbl2, hbq2, hbn2, hnr2, hxx⟩ := hrel
        have HNR2 := Lib.hid hnr2
        have HBQ2 := Lib.hid hbq2
        have HBN2 := Lib.hid hbn2
        have HBL2 := Lib.hid hbl2
        have HXX := Lib.hid hxx
        have x0 := Lib.cell_of_heap hxx 0
        have x1 := Lib.cell_of_heap hxx 1
        clear hnr2 hbq2 hbn2 hbl2 hxx
        by_cases hlt : i < n
        · have hn0 : 0 < n := by omega
          have HH := Lib.hid (H0.out hn0)
          have HLQ : Hid (LS wr A1 n L1) := row_ls HNR2.out.2.2.2.2.1 HLN1.out
          obtain ⟨b, off, l, rfl, hbl, hl, d0, d1, d2, d3, d4, d5⟩ := HLQ.out.at_ hlt
          obtain ⟨ix, hix⟩ : ∃ ix, ixM n R 1 i = ix := ⟨_, rfl⟩
          have hixl : ls[ix]? = some l := by
            rw [HH.out.2.1, followL_get (by rw [HLN.out]; exact hlt), HLN.out] at hl
            rw [← hix]; exact hl
          have HIX := Lib.hid hix
          have HLI := Lib.hid hixl
          have hii : (i : Int) < n := by omega
          have Hc1 : Hid (n ≤ c1) := hc1
          clear hl hixl hix d1 d2 d3 d4 d5
          by_cases hk : l.kind = 1
          · have hke : (l.kind == 1) = true := by rw [beq_iff_eq]; exact hk
            have HK := Lib.hid hk
            clear hk
            go_wp2_with fail
            refine (down_calls f (some ⟨b, off, none⟩) n c1 L1 i wr HLQ.out (by omega) (by omega)).mono ?_
            rintro e w5 ⟨rfl, hb5⟩
            have HNR5 := Lib.hid (HNR2.out.below hb5)
            have hx5 := (hb5.block X (heap_lt HXX.out)).trans HXX.out
            have HX5 := Lib.hid hx5
            have HL5 := Lib.hid (HLQ.out.below hb5)
            clear x0 x1 d0
            have x0 := Lib.cell_of_heap hx5 0
            have x1 := Lib.cell_of_heap hx5 1
            clear hb5 hx5
            have hdn : downB L1 i = (downB ls ix == decide (1 = 0)) := by
              have h1 := downB_back (i := i) HH.out.2.2.1 (by rw [HLN.out]; exact HH.out.1) HH.out.2.2.2.1 (by rw [HLN.out]; exact hlt)
              rw [HLN.out] at h1
              have h2 : stepM n (R : Int) (-1) i = ix := by rw [← HIX.out]; unfold ixM; rw [if_neg (by omega)]
              rw [h2] at h1
              rw [HH.out.2.1, h1, downB_succ HLI.out, show isPass l = true by simp [isPass, HK.out]]
              cases downB ls ix <;> rfl
            obtain ⟨dn, hdd⟩ : ∃ dn, downB L1 i = dn := ⟨_, rfl⟩
            rw [hdd] at hdn ⊢
            have HDN := Lib.hid hdn
            clear hdd hdn
            cases dn with
            | true =>
              have hdx : downB ls ix = decide (1 = 0) := by
                have h1 := HDN.out
                revert h1
                cases downB ls ix <;> simp
              have HDX := Lib.hid hdx
              clear hdx
              go_wp2_with fail
              refine (refStart_calls f b off n c1 i L1 w5 HL5.out Hc1.out hn hlt).mono ?_
              rintro e w6 ⟨A6, c6, rfl, ho6, hb6⟩
              have HNR6 := Lib.hid (HNR5.out.below hb6)
              have HX6 := Lib.hid ((hb6.block X (heap_lt HX5.out)).trans HX5.out)
              have hfo : L1.drop i ++ L1.take i = followL ls (ix : Int) (if downB ls ix = true then 1 else -1) := by
                have h2 : stepM n (R : Int) (-1) i = ix := by rw [← HIX.out]; unfold ixM; rw [if_neg (by omega)]
                have h3 := follow_back (ls := ls) (R := R) (i := i) (by rw [HLN.out]; exact HH.out.1) (by rw [HLN.out]; exact hlt)
                rw [HLN.out, h2] at h3
                rw [rot_follow (by rw [HLN1.out]; exact hlt), HH.out.2.1, h3, HDX.out]
                rfl
              rw [hfo] at ho6
              have hlen6 : (followL ls (ix : Int) (if downB ls ix = true then 1 else -1)).length = n := by rw [followL_len, HLN.out]
              have hixn : ix < n := by have := lt_len HLI.out; have := HLN.out; omega
              have HR6 : Hid (∀ W, Below w6.heap.size w6 W → Calls Tryd.prog 26 #[.agg #[.int .i64 f, .slice A6 n c6]] W (OkC f n (candL ls ix) W)) := by
                intro W hW
                refine refRename_calls f A6 n c6 _ W ((row_ls ho6 hlen6).below hW) (fun e => ?_) (fun a e => ?_) hn (HH.out.2.2.2.2.2.2 ix hixn)
                · rcases ho6.2 with ⟨hv, h0⟩ | ⟨g, cap, cur, hv, _⟩
                  · omega
                  · injection hv with e1; rw [e1] at e; cases e
                · rcases ho6.2 with ⟨hv, h0⟩ | ⟨g, cap, cur, hv, _⟩
                  · omega
                  · injection hv with e1; rw [e1] at e; injection e with e; rw [← e]
              clear ho6 hb6 hfo hlen6 x0 x1
              go_wp2_with fail
              refine (HR6.out _ (Below.refl _ _)).mono ?_
              rintro e w7 ⟨A7, c7, rfl, ho7, hb7⟩
              have HNR7 := Lib.hid (HNR6.out.below hb7)
              have HX7 := Lib.hid ((hb7.block X (heap_lt HX6.out)).trans HX6.out)
              have HO7 := Lib.hid (own_base' ho7 HNR6.out.2.2.2.2.2.2.size)
              clear ho7 hb7
              have hvb : ∃ Ab cb, vb2 = .slice Ab n cb := own_form HNR7.out.2.2.2.2.2.1
              obtain ⟨Ab, cb, rfl⟩ := hvb
              have b0 := Lib.cell_of_heap HNR7.out.2.2.1 0
              have b1 := Lib.cell_of_heap HNR7.out.2.2.1 1
              obtain ⟨q, lb, hq1, hq2, hq3, hq4⟩ := best_first (HBQ2.out hn0)
              have HQ := Lib.hid (And.intro hq1 (And.intro hq2 (And.intro hq3 hq4)))
              have hy0 : (candL ls ix)[0]? = some l := by
                have hh := LeP.refl_first HLI.out HK.out
                exact hh
              have HY0 := Lib.hid hy0
              have hixn : ix < n := by have := lt_len HLI.out; have := HLN.out; omega
              have hyl : (candL ls ix).length = n := by unfold candL; rw [renL_len, followL_len, HLN.out]
              have HYL := Lib.hid hyl
              obtain ⟨W8, hW8⟩ : ∃ W8, W8 = w7.alloc (.cells #[.int .i64 f, .slice A7 n c7] 24) := ⟨_, rfl⟩
              have hb8 : Below w7.heap.size w7 W8 := by rw [hW8]; exact (Below.refl _ _).alloc (Nat.le_refl _) _
              have HNR8 := Lib.hid (HNR7.out.below hb8)
              have HX8 := Lib.hid ((hb8.block X (heap_lt HX7.out)).trans HX7.out)
              have HO8 := Lib.hid (ownsRow_below HO7.out hb8)
              have HY8 : Hid (W8.heap[w7.heap.size]? = some (.cells #[.int .i64 f, .slice A7 n c7] 24 (0, 0))) := by rw [hW8]; exact heap_alloc_new w7 _
              have hBY : B < w7.heap.size := heap_lt HNR7.out.2.2.1
              have HLE : Hid (∃ rr, (rr = true → l.gate < lb.gate ∨ l.gate = lb.gate ∧ l.rank < lb.rank) ∧ (rr = false → LeP lb l) ∧ Calls Tryd.prog 69 #[.agg #[.int .i64 f, .slice A7 n c7], .agg #[.int .i64 f, .slice Ab n cb]] W8 fun e w' => e = .returned (.bool rr) ∧ Below W8.heap.size W8 w') := by
                have hLY := row_ls HO8.out HYL.out
                have hLB := row_ls HNR8.out.2.2.2.2.2.1 HBL2.out
                by_cases he : l.gate = lb.gate ∧ l.rank = lb.rank
                · have e1 := HH.out.2.2.2.2.2.1 ix q l lb HLI.out HQ.out.1 HK.out HQ.out.2.1 he.1 he.2
                  have e2 : bL2 = candL ls ix := by rw [HQ.out.2.2.1, e1]
                  rw [e2] at hLB
                  exact ⟨false, fun c => (by cases c), fun _ => .inr ⟨he.1.symm, by rw [he.2]; exact Int.le_refl _⟩, less_same f f A7 Ab n c7 cb _ W8 hLY hLB (by omega)⟩
                · refine ⟨decide (l.gate < lb.gate ∨ l.gate = lb.gate ∧ l.rank < lb.rank), fun h => of_decide_eq_true h, fun h => ?_, less_first f f A7 Ab n c7 cb _ _ l lb W8 hLY hLB (by omega) hn0 HY0.out HQ.out.2.2.2 HK.out HQ.out.2.1 he⟩
                  have h1 := of_decide_eq_false h
                  unfold LeP
                  omega
              clear hq1 hq2 hq3 hq4 hy0 hyl hb8
              go_wp2_with fail
              rw [← hW8]
              clear hW8 b0 b1
              obtain ⟨rr, hrt, hrf, hcl⟩ := HLE.out
              have HRT := Lib.hid hrt
              have HRF := Lib.hid hrf
              clear HLE hrt hrf
              refine hcl.mono ?_
              rintro e w9 ⟨rfl, hb9⟩
              have HNR9 := Lib.hid (HNR8.out.below hb9)
              have HX9 := Lib.hid ((hb9.block X (heap_lt HX8.out)).trans HX8.out)
              have HO9 := Lib.hid (ownsRow_below HO8.out hb9)
              have hy9 := (hb9.block _ (heap_lt HY8.out)).trans HY8.out
              have y0 := Lib.cell_of_heap hy9 0
              have y1 := Lib.cell_of_heap hy9 1
              have bf : ∀ x, w9.frozen? ⟨B, x, none⟩ = false := by intro x; have h1 := HNR9.out.2.2.1; simp [World.frozen?, h1]
              have b0 := Lib.cell_of_heap HNR9.out.2.2.1 0
              have b1 := Lib.cell_of_heap HNR9.out.2.2.1 1
              clear hcl hb9 hy9
              cases rr with
              | true =>
                have HLT := Lib.hid (HRT.out rfl)
                have hBX9 := heap_lt HX9.out
                clear HRT HRF
                go_wp2_with fail
                go_roundw
                case rel =>
                  have hpg := HPG.out
                  have hXB : X ≠ B := by omega
                  have h2 := HNR9.out.set (yL := candL ls ix) hpg.1 hpg.2.1 hpg.2.2.1 hwB HO9.out
                  have h3 : NiRel P r1 B G X f (.slice A n c) (.slice (some ⟨b, off, none⟩) n c1) (.slice (some ⟨b, off, none⟩) n c1) n R 1 ls L1 w (.int .i64 ((i : Int) + 1)) ((w9.setCell ⟨B, 0, none⟩ (.int .i64 f)).setCell ⟨B, 1, none⟩ (.slice A7 n c7)) := ⟨i + 1, _, candL ls ix, by omega, by rw [Int.natCast_add]; rfl, HYL.out, fun h => by
                    have h4 := best_take (lc := l) (HBQ2.out h) HQ.out.2.2.2 (by rw [HLN.out, HIX.out]; exact HLI.out) HK.out HLT.out
                    rw [HLN.out, HIX.out] at h4
                    exact h4, fun h => by omega, h2, ((Below.heap_setCell _ _ _ X hXB).trans (Below.heap_setCell _ _ _ X hXB)).trans HX9.out⟩
                  (first | exact h3 | ((repeat (apply Exists.intro)); exact And.intro h3 rfl))
                case measure => simp [intOf]; omega
              | false =>
                have HGE := Lib.hid (HRF.out rfl)
                clear HRT HRF
                go_wp2_with fail
                go_roundw
                case rel =>
                  have h3 : NiRel P r1 B G X f (.slice A n c) (.slice (some ⟨b, off, none⟩) n c1) (.slice (some ⟨b, off, none⟩) n c1) n R 1 ls L1 w (.int .i64 ((i : Int) + 1)) w9 := ⟨i + 1, _, bL2, by omega, by rw [Int.natCast_add]; rfl, HBL2.out, fun h => best_keep (lc := l) (HBQ2.out h) HQ.out.2.2.2 (by rw [HLN.out, HIX.out]; exact HLI.out) HGE.out, HBN2.out, HNR9.out, HX9.out⟩
                  (first | exact h3 | ((repeat (apply Exists.intro)); exact And.intro h3 rfl))
                case measure => simp [intOf]; omega
            | false =>
              go_wp2_with fail
              go_roundw
              case rel =>
                have h3 : NiRel P r1 B G X f (.slice A n c) (.slice (some ⟨b, off, none⟩) n c1) (.slice (some ⟨b, off, none⟩) n c1) n R 1 ls L1 w (.int .i64 ((i : Int) + 1)) w5 := ⟨i + 1, vb2, bL2, by omega, by rw [Int.natCast_add]; rfl, HBL2.out, fun h => best_skip (HBQ2.out h) (fun l' hl' hk' => by
                  rw [HLN.out, HIX.out]
                  have h1 := HDN.out
                  revert h1
                  cases downB ls ix <;> simp), HBN2.out, HNR5.out, HX5.out⟩
                (first | exact h3 | ((repeat (apply Exists.intro)); exact And.intro h3 rfl))
              case measure => simp [intOf]; omega
          · have hke : (l.kind == 1) = false := by rw [beq_eq_false_iff_ne]; exact hk
            have HK := Lib.hid hk
            clear hk
            go_wp2_with fail
            go_roundw
            case rel =>
              have h3 : NiRel P r1 B G X f (.slice A n c) (.slice (some ⟨b, off, none⟩) n c1) (.slice (some ⟨b, off, none⟩) n c1) n R 1 ls L1 w (.int .i64 ((i : Int) + 1)) wr := ⟨i + 1, vb2, bL2, by omega, by rw [Int.natCast_add]; rfl, HBL2.out, fun h => best_skip (HBQ2.out h) (fun l' hl' hk' => by
                rw [HLN.out, HIX.out, HLI.out] at hl'
                injection hl' with hl'
                rw [← hl'] at hk'
                exact absurd hk' HK.out), HBN2.out, HNR2.out, HXX.out⟩
              (first | exact h3 | ((repeat (apply Exists.intro)); exact And.intro h3 rfl))
            case measure => simp [intOf]; omega
        · obtain rfl : i = n := by omega
          go_wp2_with fail
          go_roundw
          case rel =>
            have h3 : NrRel P r1 B G f (.slice A i c) (.slice A1 i c1) i R ls L1 w (.int .i64 (1 + 1)) wr := ⟨1 + 1, vb2, bL2, by omega, rfl, HBL2.out, fun h => best_next (by rw [HLN.out]; exact HBQ2.out h), HBN2.out, HNR2.out⟩
            (first | exact h3 | ((repeat (apply Exists.intro)); exact And.intro h3 rfl))
          case measure => simp [intOf]

end Go.Proofs.YtjdabkniojmacaaDoor
