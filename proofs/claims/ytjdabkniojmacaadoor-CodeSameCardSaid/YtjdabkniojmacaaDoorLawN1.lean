/-
  The walk of the law CodeNormals.
-/
import Derived.Test.YtjdabkniojmacaaDoorNormP
import Derived.Test.YtjdabkniojmacaaDoorNormR
import Derived.Test.YtjdabkniojmacaaDoorLawH
import Derived.Test.YtjdabkniojmacaaDoorRefX
import Derived.Test.YtjdabkniojmacaaDoorDoorL
import Derived.Deep.RegionHeld3
namespace Go.Proofs.YtjdabkniojmacaaDoor
open Go.RowKit

theorem last_pass {ls : List Lt} (h : ∃ l : Lt, ls[0]? = some l ∧ l.kind = 1) : ∀ m, 0 < m → m ≤ ls.length → ∃ R, R < m ∧ (∃ l : Lt, ls[R]? = some l ∧ l.kind = 1) ∧ ∀ (k : Nat) (l : Lt), R < k → k < m → ls[k]? = some l → l.kind ≠ 1 := by
  intro m
  induction m with
  | zero => intro h0; omega
  | succ m ih =>
    intro _ hm
    rcases Nat.eq_zero_or_pos m with e | e
    · subst e
      exact ⟨0, by omega, h, fun k l h1 h2 => by omega⟩
    · obtain ⟨R, h1, h2, h3⟩ := ih e (by omega)
      obtain ⟨x, hx⟩ : ∃ x, ls[m]? = some x := ⟨_, List.getElem?_eq_getElem (by omega)⟩
      by_cases hk : x.kind = 1
      · exact ⟨m, by omega, ⟨x, hx, hk⟩, fun k l h4 h5 => by omega⟩
      · refine ⟨R, by omega, h2, fun k l h4 h5 h6 => ?_⟩
        by_cases e2 : k = m
        · subst e2; rw [hx] at h6; injection h6 with h6; rw [← h6]; exact hk
        · exact h3 k l h4 (by omega) h6

/-- The reference's Normal of a valid code is the program's. -/
theorem normal_ref (f : Int) (A : Option Addr) (n c : Nat) (ls : List Lt) (w : World) (hL : LS w A n ls) (hz : A = none → c = 0) (hsp : ∀ a, A = some a → a.spot = none) (hc : n ≤ c) (hv : checkE f ls = 0) :
    Calls Tryd.prog 25 #[.agg #[.int .i64 f, .slice A n c]] w (OkC f n (normL f ls) w) := by
  have hl := hL.1
  obtain ⟨st, pt, V⟩ := valid_parts hv
  have hn : n ≤ 1000 := by have := V.len; omega
  have hRN : ∀ W, Below w.heap.size w W → Calls Tryd.prog 26 #[.agg #[.int .i64 f, .slice A n c]] W (OkC f n (renL ls) W) :=
    fun W hW => refRename_calls f A n c ls W (hL.below hW) hz hsp hn V.ids0
  rcases Nat.eq_zero_or_pos n with e | e
  · subst e
    obtain rfl : ls = [] := List.eq_nil_of_length_eq_zero hl
    refine refNormal_calls f A 0 c 0 [] [] (normL f []) w hL hz hsp hc hn rfl hRN (fun W hW => ?_) (fun h => absurd h (by omega)) ⟨fun h => absurd h (by omega), fun _ => normL_nil f⟩
    exact refBack_calls f A 0 c 0 [] W (hL.below hW) hn (fun h => absurd h (by omega))
  · have g := V.good hv (by omega)
    obtain ⟨l0, hl0, hk0, hev⟩ := closed_first' V.closed (by omega)
    obtain ⟨R, hR, ⟨lR, hlR, hkR⟩, hno⟩ := last_pass ⟨l0, hl0, hk0⟩ ls.length (by omega) (Nat.le_refl _)
    have hno' : ∀ k l, R < k → ls[k]? = some l → l.kind ≠ 1 := fun k l h1 h2 => hno k l h1 (lt_len h2) h2
    have hdR := last_down hev hR (fun l hl' => by rw [hlR] at hl'; injection hl' with hl'; rw [← hl']; exact hkR) hno'
    have hdR1 : downB ls (R + 1) = true := by
      rw [downB_succ hlR, hdR, show isPass lR = true by simp [isPass, hkR]]
      rfl
    have hm0 : 0 < numP f ls := Nat.lt_of_le_of_lt (Nat.zero_le _) (g.spa 0 l0 hl0 hk0).1
    obtain ⟨la, hla, hka, hleast⟩ := ax_least g hm0
    refine refNormal_calls f A n c R ls (followL ls (R : Int) (-1)) (normL f ls) w hL hz hsp hc hn (by rw [followL_len]; exact hl) hRN (fun W hW => ?_) (fun _ => ⟨by omega, rfl, hev, hdR1, ⟨l0, hl0, hk0⟩, fun i j a b ha hb ka kb hg hr => ?_, fun q hq => V.ids q _ (by omega) (by split; exact .inl rfl; exact .inr rfl)⟩) ⟨fun _ bL hb => ?_, fun h => by omega⟩
    · have h := refBack_calls f A n c (ls.length - 1 - R) ls W (hL.below hW) hn (fun _ => by
        have e2 : n - 1 - (ls.length - 1 - R) = R := by omega
        rw [e2]
        exact ⟨by omega, fun l hl' => by rw [hlR] at hl'; injection hl' with hl'; rw [← hl']; exact hkR, hdR, fun k l hk hl' => hno' (n - 1 - k) l (by omega) hl'⟩)
      rw [back_follow hR] at h
      exact h
    · have h1 := g.spa i a ha ka
      have h2 := g.spa j b hb kb
      have h3 := g.lft i j a b ha hb ka kb
      have h4 := g.lft j i b a hb ha kb ka
      have e1 : ¬ (dmOf f ls st pt).sp.getD i 0 < (dmOf f ls st pt).sp.getD j 0 := fun q => by
        have := h3.2 q
        omega
      have e2 : ¬ (dmOf f ls st pt).sp.getD j 0 < (dmOf f ls st pt).sp.getD i 0 := fun q => by
        have := h4.2 q
        omega
      have e3 : (dmOf f ls st pt).sp.getD i 0 = (dmOf f ls st pt).sp.getD j 0 := by omega
      rw [← h1.2, ← h2.2, e3]
    · rw [normL_of V.ord (by omega)]
      exact best_end hR hb hla hka hleast

/-- What the law's last statement reads. -/
def NmS (P B1 B2 : Nat) (f : Int) (vc v1 v2 : Value) (V w' : World) : Prop :=
  w'.cell? ⟨P, 0, none⟩ = some (.int .i64 f) ∧ w'.cell? ⟨P, 1, none⟩ = some vc ∧ w'.cell? ⟨B1, 0, none⟩ = some (.int .i64 f) ∧ w'.cell? ⟨B1, 1, none⟩ = some v1 ∧ w'.cell? ⟨B2, 0, none⟩ = some (.int .i64 f) ∧ w'.cell? ⟨B2, 1, none⟩ = some v2 ∧ Below V.heap.size V w'
theorem NmS.last {P B1 B2 : Nat} {f : Int} {vc v1 v2 : Value} {V w' : World} (h : NmS P B1 B2 f vc v1 v2 V w') : Below V.heap.size V w' := h.2.2.2.2.2.2
theorem NmS.of {P B1 B2 : Nat} {f : Int} {vc v1 v2 : Value} {V w' : World} (h0 : V.heap[P]? = some (.cells #[.int .i64 f, vc] 24 (0, 0))) (h1 : V.heap[B1]? = some (.cells #[.int .i64 f, v1] 24 (0, 0))) (h2 : V.heap[B2]? = some (.cells #[.int .i64 f, v2] 24 (0, 0))) (hb : Below V.heap.size V w') : NmS P B1 B2 f vc v1 v2 V w' := by
  have e : ∀ q o, V.heap[q]? = some o → w'.heap[q]? = some o := fun q o hq => (hb.block q (heap_lt hq)).trans hq
  exact ⟨Lib.cell_of_heap (e _ _ h0) 0, Lib.cell_of_heap (e _ _ h0) 1, Lib.cell_of_heap (e _ _ h1) 0, Lib.cell_of_heap (e _ _ h1) 1, Lib.cell_of_heap (e _ _ h2) 0, Lib.cell_of_heap (e _ _ h2) 1, hb⟩

set_option maxHeartbeats 16000000 in
set_option maxRecDepth 100000 in
theorem codeNormals_main (f : Int) (A : Option Addr) (n c : Nat) (L1 L2 : List Lt) (w : World) (hn60 : n ≤ 60) (hln : L1.length = n ∧ L2.length = n)
    (hRC : ∀ W, Below w.heap.size w W → Calls Tryd.prog 13 #[.agg #[.int .i64 f, .slice A n c]] W fun e w' => e = .returned (.int .i64 0) ∧ Below W.heap.size W w')
    (h1 : ∀ W, Below w.heap.size w W → Calls Tryd.prog 22 #[.agg #[.int .i64 f, .slice A n c]] W (OkN f n L1 W))
    (k1 : ∀ W, Below w.heap.size w W → Calls Tryd.prog 25 #[.agg #[.int .i64 f, .slice A n c]] W (OkC f n L1 W))
    (h2 : ∀ W, Below w.heap.size w W → Calls Tryd.prog 23 #[.agg #[.int .i64 f, .slice A n c]] W (OkN f n L2 W))
    (k2 : ∀ W, Below w.heap.size w W → Calls Tryd.prog 26 #[.agg #[.int .i64 f, .slice A n c]] W (OkC f n L2 W))
    (hT : ItoaAll w) :
    Calls Tryd.prog 5 #[.agg #[.int .i64 f, .slice A n c]] w fun e w' => e = .returned (.bool true) ∧ Below w.heap.size w w' := by
  have HRC := Lib.hid hRC
  have HT := Lib.hid hT
  have HN := Lib.hid hln
  have hle : n ≤ 1000000 := by omega
  have H1 := Lib.hid h1
  have K1 := Lib.hid k1
  have H2 := Lib.hid h2
  have K2 := Lib.hid k2
  have HKN : Hid (∀ W, Below w.heap.size w W → Calls Tryd.prog 14 #[] W fun e w' => e = .returned (.bool true) ∧ Below W.heap.size W w') := fun W hW => known_calls W (HT.out.below hW)
  have t1 : decide ((n : Int) ≤ 60) = true := by rw [decide_eq_true_iff]; omega
  have HSM := Lib.hid (fun W => small_calls f A n c true W t1)
  clear hRC hT hln hn60 h1 h2 k1 k2
  go_enter Tryd.func5, Tryd.ntmps5
  go_wp2_with fail
  obtain ⟨W0, hW0⟩ : ∃ W0, W0 = w.alloc (.cells #[.int .i64 f, .slice A n c] 24) := ⟨_, rfl⟩
  obtain ⟨P, hP⟩ : ∃ P, P = w.heap.size := ⟨_, rfl⟩
  have HB0 : Hid (Below w.heap.size w W0) := by rw [hW0]; exact (Below.refl _ _).alloc (Nat.le_refl _) _
  have HP0 : Hid (W0.heap[P]? = some (.cells #[.int .i64 f, .slice A n c] 24 (0, 0))) := by rw [hW0, hP]; exact heap_alloc_new w _
  rw [← hW0, ← hP]
  clear hW0 hP
  refine (HSM.out _).mono ?_
  rintro e w1 ⟨rfl, hb⟩
  have HB1 : Hid (Below w.heap.size w w1) := HB0.out.trans (hb.mono HB0.out.size)
  have HP1 : Hid (w1.heap[P]? = some (.cells #[.int .i64 f, .slice A n c] 24 (0, 0))) := (hb.block P (heap_lt HP0.out)).trans HP0.out
  clear hb HB0 HP0
  have a0 := Lib.cell_of_heap HP1.out 0
  have a1 := Lib.cell_of_heap HP1.out 1
  go_wp2_with fail
  refine (HRC.out _ HB1.out).mono ?_
  rintro e w2 ⟨rfl, hb⟩
  have HB2 : Hid (Below w.heap.size w w2) := HB1.out.trans (hb.mono HB1.out.size)
  have HP2 : Hid (w2.heap[P]? = some (.cells #[.int .i64 f, .slice A n c] 24 (0, 0))) := (hb.block P (heap_lt HP1.out)).trans HP1.out
  clear hb HB1 HP1 a0 a1
  have a0 := Lib.cell_of_heap HP2.out 0
  have a1 := Lib.cell_of_heap HP2.out 1
  go_wp2_with fail
  refine (H1.out _ HB2.out).mono ?_
  rintro e w3 ⟨A1, c1, rfl, ho, hb⟩
  obtain ⟨B1, hB1⟩ : ∃ B, B = w3.heap.size := ⟨_, rfl⟩
  obtain ⟨V1, hV1⟩ : ∃ V, V = w3.alloc (.cells #[.int .i64 f, .slice A1 n c1] 24) := ⟨_, rfl⟩
  have hbv : Below w3.heap.size w3 V1 := by rw [hV1]; exact (Below.refl _ _).alloc (Nat.le_refl _) _
  have hb2 : Below w2.heap.size w2 V1 := hb.trans (hbv.mono hb.size)
  have HB3 : Hid (Below w.heap.size w V1) := HB2.out.trans (hb2.mono HB2.out.size)
  have HP3 : Hid (V1.heap[P]? = some (.cells #[.int .i64 f, .slice A n c] 24 (0, 0))) := (hb2.block P (heap_lt HP2.out)).trans HP2.out
  have HQ3 : Hid (V1.heap[B1]? = some (.cells #[.int .i64 f, .slice A1 n c1] 24 (0, 0))) := by rw [hV1, hB1]; exact heap_alloc_new w3 _
  have HL3 : Hid (LS V1 A1 n L1) := (OkN.ls ho HN.out.1).below hbv
  have HV1 := Lib.hid hV1
  have HBB1 := Lib.hid hB1
  clear a0 a1
  have a0 := Lib.cell_of_heap HP3.out 0
  have a1 := Lib.cell_of_heap HP3.out 1
  rw [hV1] at a0 a1
  clear hb ho HB2 HP2 hbv hb2 hV1 hB1
  go_wp2_with fail
  rw [← HBB1.out, ← HV1.out]
  refine (H2.out _ HB3.out).mono ?_
  rintro e w4 ⟨A2, c2, rfl, ho, hb⟩
  obtain ⟨B2, hB2⟩ : ∃ B, B = w4.heap.size := ⟨_, rfl⟩
  obtain ⟨V2, hV2⟩ : ∃ V, V = w4.alloc (.cells #[.int .i64 f, .slice A2 n c2] 24) := ⟨_, rfl⟩
  have hbv : Below w4.heap.size w4 V2 := by rw [hV2]; exact (Below.refl _ _).alloc (Nat.le_refl _) _
  have hb2 : Below V1.heap.size V1 V2 := hb.trans (hbv.mono hb.size)
  have HB4 : Hid (Below w.heap.size w V2) := HB3.out.trans (hb2.mono HB3.out.size)
  have HP4 : Hid (V2.heap[P]? = some (.cells #[.int .i64 f, .slice A n c] 24 (0, 0))) := (hb2.block P (heap_lt HP3.out)).trans HP3.out
  have HQ4 : Hid (V2.heap[B1]? = some (.cells #[.int .i64 f, .slice A1 n c1] 24 (0, 0))) := (hb2.block B1 (heap_lt HQ3.out)).trans HQ3.out
  have HR4 : Hid (V2.heap[B2]? = some (.cells #[.int .i64 f, .slice A2 n c2] 24 (0, 0))) := by rw [hV2, hB2]; exact heap_alloc_new w4 _
  have HL4 : Hid (LS V2 A1 n L1) := HL3.out.below hb2
  have HM4 : Hid (LS V2 A2 n L2) := (OkN.ls ho HN.out.2).below hbv
  have HV2 := Lib.hid hV2
  have HBB2 := Lib.hid hB2
  clear a0 a1 hb ho HB3 HP3 HQ3 HL3 hbv hb2 hV2 hB2
  go_wp2_with fail
  rw [← HBB2.out, ← HV2.out]
  have HKP : Hid (∀ w', Below V2.heap.size V2 w' → NmS P B1 B2 f (.slice A n c) (.slice A1 n c1) (.slice A2 n c2) V2 w') := fun w' h => NmS.of HP4.out HQ4.out HR4.out h
  go_region_held3 (fun w' => w'.cell? ⟨P, 0, none⟩ = some (.int .i64 f) ∧ w'.cell? ⟨P, 1, none⟩ = some (.slice A n c) ∧ w'.cell? ⟨B1, 0, none⟩ = some (.int .i64 f) ∧ w'.cell? ⟨B1, 1, none⟩ = some (.slice A1 n c1) ∧ w'.cell? ⟨B2, 0, none⟩ = some (.int .i64 f) ∧ w'.cell? ⟨B2, 1, none⟩ = some (.slice A2 n c2) ∧ Below V2.heap.size V2 w')
    (first
      | exact HKP.out _ (Below.refl _ _).drew
      | exact HKP.out _ ((NmS.last (P := P) (B1 := B1) (B2 := B2) (f := f) (vc := .slice A n c) (v1 := .slice A1 n c1) (v2 := .slice A2 n c2) (V := V2) (by assumption)).trans (hbw.mono (NmS.last (P := P) (B1 := B1) (B2 := B2) (f := f) (vc := .slice A n c) (v1 := .slice A1 n c1) (v2 := .slice A2 n c2) (V := V2) (by assumption)).size)))
    (first
      | (go_at_call 25; (with_reducible refine (K1.out _ ?hbx).mono ?_); (case hbx => exact HB4.out.trans ((NmS.last (P := P) (B1 := B1) (B2 := B2) (f := f) (vc := .slice A n c) (v1 := .slice A1 n c1) (v2 := .slice A2 n c2) (V := V2) (by assumption)).mono HB4.out.size)); rintro e w2 ⟨A3, c3, rfl, hrow1, hbw⟩; have HE1 := Lib.hid (row_ls hrow1 HN.out.1); clear hrow1)
      | (go_at_call 26; (with_reducible refine (K2.out _ ?hbx).mono ?_); (case hbx => exact HB4.out.trans ((NmS.last (P := P) (B1 := B1) (B2 := B2) (f := f) (vc := .slice A n c) (v1 := .slice A1 n c1) (v2 := .slice A2 n c2) (V := V2) (by assumption)).mono HB4.out.size)); rintro e w2 ⟨A4, c4, rfl, hrow2, hbw⟩; have HE2 := Lib.hid (row_ls hrow2 HN.out.2); clear hrow2)
      | (go_at_call 14; (with_reducible refine (HKN.out _ ?hbx).mono ?_); (case hbx => exact HB4.out.trans ((NmS.last (P := P) (B1 := B1) (B2 := B2) (f := f) (vc := .slice A n c) (v1 := .slice A1 n c1) (v2 := .slice A2 n c2) (V := V2) (by assumption)).mono HB4.out.size)); rintro e w2 ⟨rfl, hbw⟩)
      | (go_at_call 24; (with_reducible refine (codeEq_yes f A2 A4 n n c2 c4 L2 _ ?hl HE2.out hle).mono ?_); (case hl => exact HM4.out.below (NmS.last (P := P) (B1 := B1) (B2 := B2) (f := f) (vc := .slice A n c) (v1 := .slice A1 n c1) (v2 := .slice A2 n c2) (V := V2) (by assumption))); rintro e w2 ⟨rfl, hbw⟩)
      | (go_at_call 24; (with_reducible refine (codeEq_yes f A1 A3 n n c1 c3 L1 _ ?hl HE1.out hle).mono ?_); (case hl => exact HL4.out.below (NmS.last (P := P) (B1 := B1) (B2 := B2) (f := f) (vc := .slice A n c) (v1 := .slice A1 n c1) (v2 := .slice A2 n c2) (V := V2) (by assumption))); rintro e w2 ⟨rfl, hbw⟩))
  have hS : NmS P B1 B2 f (.slice A n c) (.slice A1 n c1) (.slice A2 n c2) V2 w2 := by assumption
  have HF : Hid (Below w.heap.size w w2) := HB4.out.trans (hS.last.mono HB4.out.size)
  clear hS
  go_wp2_with fail
  go_ret
  exact ⟨rfl, HF.out⟩

/-- The code in its variable, and the codes that were made of it in theirs. -/
def TBs (f : Int) (n : Nat) (vc : Value) (w : World) (P : Nat) (bs : List (Nat × Nat × List Lt)) (W : World) : Prop :=
  Below w.heap.size w W ∧ W.heap[P]? = some (.cells #[.int .i64 f, vc] 24 (0, 0)) ∧ ∀ x, x ∈ bs → W.heap[x.1]? = some (.cells #[.int .i64 f, .slice (some ⟨x.2.1, 0, none⟩) n n] 24 (0, 0)) ∧ LS W (some ⟨x.2.1, 0, none⟩) n x.2.2
theorem TBs.step {f : Int} {n : Nat} {vc : Value} {w W W' : World} {P : Nat} {bs : List (Nat × Nat × List Lt)} (h : TBs f n vc w P bs W) (hb : Below W.heap.size W W') : TBs f n vc w P bs W' :=
  ⟨h.1.trans (hb.mono h.1.size), (hb.block _ (heap_lt h.2.1)).trans h.2.1, fun x hx => ⟨(hb.block _ (heap_lt (h.2.2 x hx).1)).trans (h.2.2 x hx).1, (h.2.2 x hx).2.below hb⟩⟩
theorem TBs.add {f : Int} {n : Nat} {vc : Value} {w W : World} {P : Nat} {bs : List (Nat × Nat × List Lt)} (h : TBs f n vc w P bs W) (g : Nat) (L : List Lt) (hl : LS W (some ⟨g, 0, none⟩) n L) :
    TBs f n vc w P ((W.heap.size, g, L) :: bs) (W.alloc (.cells #[.int .i64 f, .slice (some ⟨g, 0, none⟩) n n] 24)) := by
  have hb : Below W.heap.size W (W.alloc (.cells #[.int .i64 f, .slice (some ⟨g, 0, none⟩) n n] 24)) := (Below.refl _ _).alloc (Nat.le_refl _) _
  obtain ⟨h1, h2, h3⟩ := h.step hb
  refine ⟨h1, h2, fun x hx => ?_⟩
  rcases List.mem_cons.1 hx with rfl | hx
  · exact ⟨heap_alloc_new W _, hl.below hb⟩
  · exact h3 x hx

set_option maxHeartbeats 8000000 in
set_option maxRecDepth 100000 in
theorem codeNormals_big (f : Int) (A : Option Addr) (n c : Nat) (w : World) (hn : ¬ n ≤ 60) (hT : ItoaAll w) :
    Calls Tryd.prog 5 #[.agg #[.int .i64 f, .slice A n c]] w fun e w' => e = .returned (.bool true) ∧ Below w.heap.size w w' := by
  have HT := Lib.hid hT
  have t1 : decide ((n : Int) ≤ 60) = false := by rw [decide_eq_false_iff_not]; omega
  have HSM := Lib.hid (fun W => small_calls f A n c false W t1)
  clear hT hn
  go_enter Tryd.func5, Tryd.ntmps5
  go_wp2_with fail
  have HB0 : Hid (Below w.heap.size w (w.alloc (.cells #[.int .i64 f, .slice A n c] 24))) := (Below.refl _ _).alloc (Nat.le_refl _) _
  refine (HSM.out _).mono ?_
  rintro e w1 ⟨rfl, hb⟩
  have HB1 : Hid (Below w.heap.size w w1) := HB0.out.trans (hb.mono HB0.out.size)
  clear hb
  go_wp2_with fail
  refine (known_calls _ (HT.out.below HB1.out)).mono ?_
  rintro e w2 ⟨rfl, hb⟩
  have HB2 : Hid (Below w.heap.size w w2) := HB1.out.trans (hb.mono HB1.out.size)
  clear hb
  go_wp2_with fail
  go_ret
  exact ⟨rfl, HB2.out⟩

set_option maxHeartbeats 8000000 in
set_option maxRecDepth 100000 in
theorem codeNormals_bad (f : Int) (A : Option Addr) (n c : Nat) (ce : Int) (w : World) (hn : n ≤ 60) (hz : ce ≠ 0) (hRC : ∀ W, Below w.heap.size w W → Calls Tryd.prog 13 #[.agg #[.int .i64 f, .slice A n c]] W fun e w' => e = .returned (.int .i64 ce) ∧ Below W.heap.size W w') (hT : ItoaAll w) :
    Calls Tryd.prog 5 #[.agg #[.int .i64 f, .slice A n c]] w fun e w' => e = .returned (.bool true) ∧ Below w.heap.size w w' := by
  have HT := Lib.hid hT
  have HRC := Lib.hid hRC
  have t1 : decide ((n : Int) ≤ 60) = true := by rw [decide_eq_true_iff]; omega
  have HSM := Lib.hid (fun W => small_calls f A n c true W t1)
  have hzb : (ce != 0) = true := by simp [hz]
  clear hT hn hRC
  go_enter Tryd.func5, Tryd.ntmps5
  go_wp2_with fail
  have Z0 : Hid (TBs f n (.slice A n c) w w.heap.size [] (w.alloc (.cells #[.int .i64 f, .slice A n c] 24))) := ⟨(Below.refl _ _).alloc (Nat.le_refl _) _, heap_alloc_new w _, fun x hx => by cases hx⟩
  refine (HSM.out _).mono ?_
  rintro e w1 ⟨rfl, hb⟩
  have Z1 := Lib.hid (Z0.out.step hb)
  have a0 := Lib.cell_of_heap Z1.out.2.1 0
  have a1 := Lib.cell_of_heap Z1.out.2.1 1
  clear hb Z0
  go_wp2_with fail
  refine (HRC.out _ Z1.out.1).mono ?_
  rintro e w2 ⟨rfl, hb⟩
  have Z2 := Lib.hid (Z1.out.step hb)
  clear hb a0 a1
  go_wp2_with fail
  refine (known_calls _ (HT.out.below Z2.out.1)).mono ?_
  rintro e w3 ⟨rfl, hb⟩
  have HB3 : Hid (Below w.heap.size w w3) := Z2.out.1.trans (hb.mono Z2.out.1.size)
  clear hb
  go_wp2_with fail
  go_ret
  exact ⟨rfl, HB3.out⟩

theorem codeNormals_walk (f : Int) (A : Option Addr) (n c : Nat) (ls : List Lt) (w : World) (_hf : I64 f) (hL : LS w A n ls) (_hn : n ≤ maxLen) (hI : ∀ l, l ∈ ls → LtAll l) (hz : A = none → c = 0) (hs : n ≤ c) (hA : ∀ b off, A = some ⟨b, off, none⟩ → b < w.heap.size) (hsp : ∀ a, A = some a → a.spot = none) (hT : ItoaAll w) :
    Calls Tryd.prog 5 #[.agg #[.int .i64 f, .slice A n c]] w fun e w' => e = .returned (.bool true) ∧ Below w.heap.size w w' := by
  by_cases hn : n ≤ 60
  · have hRC : ∀ W, Below w.heap.size w W → Calls Tryd.prog 13 #[.agg #[.int .i64 f, .slice A n c]] W fun e w' => e = .returned (.int .i64 (checkE f ls)) ∧ Below W.heap.size W w' :=
      fun W hW => refCheck_full f A n c ls W (hL.below hW)
    by_cases hv : checkE f ls = 0
    · rw [hv] at hRC
      have hI' : ∀ l, l ∈ ls → I64 l.id := fun l hl => (hI l hl).2.2.2.1
      obtain ⟨st, pt, V⟩ := valid_parts hv
      have hC : ChkAt f A n c 0 w := by
        intro W hW
        have h := check_calls f A n c ls W (hL.below hW) (fun b off e => Nat.lt_of_lt_of_le (hA b off e) hW.size) hI'
        rw [hv] at h
        exact h
      have hlen1 : (normL f ls).length = n := by
        unfold normL
        rw [V.ord]
        dsimp only
        split
        · rename_i e; rw [hL.1] at e; simp; omega
        · unfold candL; rw [renL_len, followL_len]; exact hL.1
      have hlen2 : (renL ls).length = n := by rw [renL_len]; exact hL.1
      exact codeNormals_main f A n c (normL f ls) (renL ls) w hn ⟨hlen1, hlen2⟩ hRC (fun W hW => normal_ok f A n c ls W (hL.below hW) (fun b off e => Nat.lt_of_lt_of_le (hA b off e) hW.size) hI' hv)
        (fun W hW => normal_ref f A n c ls W (hL.below hW) hz hsp hs hv)
        (fun W hW => rename_calls f A n c (renL ls) W (fun X hX => hC X (hW.trans (hX.mono hW.size))) (fun X hX => renamed_ok f A n c ls X (hL.below (hW.trans (hX.mono hW.size))) hz hsp (by omega) V.ids0))
        (fun W hW => refRename_calls f A n c ls W (hL.below hW) hz hsp (by omega) V.ids0) hT
    · exact codeNormals_bad f A n c (checkE f ls) w hn hv hRC hT
  · exact codeNormals_big f A n c w hn hT

end Go.Proofs.YtjdabkniojmacaaDoor
