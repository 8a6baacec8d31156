/-
  StartP SameP, one after the other.
-/
import Derived.Test.YtjdabkniojmacaaDoorNormP
import Derived.Test.YtjdabkniojmacaaDoorRefO
import Derived.Deep.RegionHeld3
import Derived.Test.YtjdabkniojmacaaDoorLet4

/-
  The walks of Start on a valid code, and of the law's equal.
-/
namespace Go.Proofs.YtjdabkniojmacaaDoor
open Go.RowKit

set_option maxHeartbeats 4000000 in
set_option maxRecDepth 100000 in
theorem lawEqual_calls (f1 f2 : Int) (A1 A2 : Option Addr) (n m c1 c2 : Nat) (L1 L2 : List Lt) (w : World) (hn : n ≤ 1000) (hl1 : L1.length = n) (hl2 : L2.length = m) (hf : f1 = f2) (hL : L1 = L2)
    (h1 : ∀ W, Below w.heap.size w W → Calls Tryd.prog 22 #[.agg #[.int .i64 f1, .slice A1 n c1]] W (OkN f1 n L1 W))
    (h2 : ∀ W, Below w.heap.size w W → Calls Tryd.prog 22 #[.agg #[.int .i64 f2, .slice A2 m c2]] W (OkN f2 m L2 W)) :
    Calls Tryd.prog 32 #[.agg #[.int .i64 f1, .slice A1 n c1], .agg #[.int .i64 f2, .slice A2 m c2]] w fun e w' => e = .returned (.bool true) ∧ Below w.heap.size w w' := by
  subst hf
  subst hL
  have H1 := Lib.hid h1
  have H2 := Lib.hid h2
  have HN1 := Lib.hid hl1
  have HN2 := Lib.hid hl2
  clear h1 h2 hl1 hl2
  go_enter Tryd.func32, Tryd.ntmps32
  go_wp2_with fail
  obtain ⟨W0, hW0⟩ : ∃ W0, W0 = (w.alloc (.cells #[.int .i64 f1, .slice A1 n c1] 24)).alloc (.cells #[.int .i64 f1, .slice A2 m c2] 24) := ⟨_, rfl⟩
  have HF0 := Lib.hid (two_mem w _ _ W0 hW0)
  rw [← hW0]
  clear hW0
  refine (H1.out _ HF0.out.2.2.2).mono ?_
  rintro e w1 ⟨B1, d1, rfl, ho, hb1⟩
  obtain ⟨X1, hX1⟩ : ∃ X, X = w1.heap.size := ⟨_, rfl⟩
  obtain ⟨V1, hV1⟩ : ∃ V, V = w1.alloc (.cells #[.int .i64 f1, .slice B1 n d1] 24) := ⟨_, rfl⟩
  have hbv : Below w1.heap.size w1 V1 := by rw [hV1]; exact (Below.refl _ _).alloc (Nat.le_refl _) _
  have HM1 := Lib.hid (two_next (two_next HF0.out hb1) hbv)
  have HX1 : Hid (V1.heap[X1]? = some (.cells #[.int .i64 f1, .slice B1 n d1] 24 (0, 0))) := by rw [hV1, hX1]; exact heap_alloc_new w1 _
  have HL1 : Hid (LS V1 B1 n L1) := (OkN.ls ho HN1.out).below hbv
  have HV1 := Lib.hid hV1
  have HXE := Lib.hid hX1
  have a0 := Lib.cell_of_heap HM1.out.2.1 0
  have a1 := Lib.cell_of_heap HM1.out.2.1 1
  rw [hV1] at a0 a1
  clear hb1 hbv ho hV1 hX1
  go_wp2_with fail
  rw [← HXE.out, ← HV1.out]
  refine (H2.out _ HM1.out.2.2.2).mono ?_
  rintro e w2 ⟨B2, d2, rfl, ho, hb2⟩
  obtain ⟨X2, hX2⟩ : ∃ X, X = w2.heap.size := ⟨_, rfl⟩
  obtain ⟨V2, hV2⟩ : ∃ V, V = w2.alloc (.cells #[.int .i64 f1, .slice B2 m d2] 24) := ⟨_, rfl⟩
  have hbv : Below w2.heap.size w2 V2 := by rw [hV2]; exact (Below.refl _ _).alloc (Nat.le_refl _) _
  have hb12 : Below V1.heap.size V1 V2 := hb2.trans (hbv.mono hb2.size)
  have HB2 : Hid (Below w.heap.size w V2) := HM1.out.2.2.2.trans (hb12.mono HM1.out.2.2.2.size)
  have hx1 := (hb12.block X1 (heap_lt HX1.out)).trans HX1.out
  have hx2 : V2.heap[X2]? = some (.cells #[.int .i64 f1, .slice B2 m d2] 24 (0, 0)) := by rw [hV2, hX2]; exact heap_alloc_new w2 _
  have HLA : Hid (LS V2 B1 n L1) := HL1.out.below hb12
  have HLB : Hid (LS V2 B2 m L1) := (OkN.ls ho HN2.out).below hbv
  have HV2 := Lib.hid hV2
  have HXE2 := Lib.hid hX2
  clear a0 a1
  have a0 := Lib.cell_of_heap hx1 0
  have a1 := Lib.cell_of_heap hx1 1
  have b0 := Lib.cell_of_heap hx2 0
  have b1 := Lib.cell_of_heap hx2 1
  rw [hV2] at a0 a1
  clear hb2 hbv ho hb12 hx1 hx2 hV2 hX2
  go_wp2_with fail
  rw [← HXE2.out, ← HV2.out]
  refine (codeEqual_calls f1 f1 B1 B2 n m d1 d2 L1 L1 V2 HLA.out HLB.out (by omega)).mono ?_
  rintro e w3 ⟨bb, rfl, hbb, hb3⟩
  have hbt : bb = true := hbb.2 ⟨rfl, rfl⟩
  subst hbt
  have HB3 : Hid (Below w.heap.size w w3) := HB2.out.trans (hb3.mono HB2.out.size)
  clear hb3 hbb
  go_wp2_with fail
  go_ret
  exact ⟨rfl, HB3.out⟩

/-- Start of a valid code at one of its letters. -/
def StPost (f : Int) (n : Nat) (ls : List Lt) (i : Nat) (w : World) (e : Ending) (w' : World) : Prop :=
  ((∀ l, ls[i]? = some l → l.kind = 1 ∧ downB ls i = true) ∧ ∃ g, e = .returned (.tuple #[.agg #[.int .i64 f, .slice (some ⟨g, 0, none⟩) n n], .int .i64 0]) ∧ w'.ownsRow w.heap.size 48 6 (.slice (some ⟨g, 0, none⟩) n n) n ((followL ls (i : Int) 1).flatMap ltCells) ∧ Below w.heap.size w w') ∨
  (¬ (∀ l, ls[i]? = some l → l.kind = 1 ∧ downB ls i = true) ∧ e = .returned (.tuple #[.agg #[.int .i64 0, .slice none 0 0], .int .i64 2]) ∧ Below w.heap.size w w')

set_option maxHeartbeats 8000000 in
set_option maxRecDepth 100000 in
theorem start_ok (f : Int) (A : Option Addr) (n c i : Nat) (ls : List Lt) (w : World) (hL : LS w A n ls) (hA : ∀ b off, A = some ⟨b, off, none⟩ → b < w.heap.size) (hI : ∀ l, l ∈ ls → I64 l.id) (hz : checkE f ls = 0) (hi : i < n) :
    Calls Tryd.prog 33 #[.agg #[.int .i64 f, .slice A n c], .int .i64 (i : Int)] w (StPost f n ls i w) := by
  have hll := hL.1
  subst hll
  have hn : 0 < ls.length := by omega
  have HLL := Lib.hid hL
  have HFL : Hid (∀ W, Below w.heap.size w W → Calls Tryd.prog 67 #[.agg #[.int .i64 f, .slice A ls.length c], .int .i64 (i : Int), .int .i64 1] W (EachPost f (followL ls (i : Int) 1) W)) :=
    fun W hW => follow_calls f A ls.length c ls (i : Int) 1 W (hL.below hW) (by have := (checkE_zero hz).1; omega) (fun _ => ⟨by omega, by omega⟩) (.inl rfl)
  have hdr : ∀ W, Below w.heap.size w W → Calls Tryd.prog 58 #[.agg #[.int .i64 f, .slice A ls.length c]] W fun e w' => ∃ P ga x s o, e = .returned (.tuple #[.pointer (some ⟨P, 0, none⟩), .int .i64 0]) ∧
      w'.cell? ⟨P, 2, none⟩ = some (.slice (some ⟨ga, 0, none⟩) ls.length ls.length) ∧ BL w' (some ⟨ga, 0, none⟩) ls.length (aboveL ls) ∧ Dia w' P f (.slice A ls.length c) (.slice (some ⟨ga, 0, none⟩) ls.length ls.length) x s o ∧ Below W.heap.size W w' := by
    intro W hW
    refine (draw_calls f A ls.length c ls W (hL.below hW) (fun b off e => Nat.lt_of_lt_of_le (hA b off e) hW.size) hI).mono ?_
    rintro e w' ⟨hb, ⟨hne, _⟩ | ⟨P, _, _, _, rfl, h1, h2, h3, h4, ga, x, s, o, st, pt, g1, g2, g3, g4, e1, e2, e3, h, o1, o2, o3, o4⟩⟩
    · exact absurd hz hne
    · exact ⟨P, ga, _, _, _, rfl, h.dia.2.2.2.1, BL.of_own o1, h.dia, hb⟩
  have HDR := Lib.hid hdr
  have hii : (i : Int) < (ls.length : Int) := by omega
  obtain ⟨l, hl⟩ : ∃ l, ls[i]? = some l := ⟨_, List.getElem?_eq_getElem hi⟩
  have HLI := Lib.hid hl
  have hLEN : Hid ((followL ls (i : Int) 1).length = ls.length) := followL_len _ _ _
  clear hL hA hI hz hdr hn
  go_enter Tryd.func33, Tryd.ntmps33
  go_wp2_with fail
  obtain ⟨W0, hW0⟩ : ∃ W0, W0 = (w.alloc (.cells #[.int .i64 f, .slice A ls.length c] 24)).alloc (.cells #[.int .i64 0, .slice none 0 0] 24) := ⟨_, rfl⟩
  have HF0 := Lib.hid (two_mem w _ _ W0 hW0)
  rw [← hW0]
  clear hW0
  refine (HDR.out _ HF0.out.2.2.2).mono ?_
  rintro e w1 ⟨P, ga, xv, sv, ov, rfl, hp2, hbl, hdia, hb1⟩
  have HM1 := Lib.hid (two_next HF0.out hb1)
  obtain ⟨hPd, d0, d1, d2, d3, d4, d5⟩ := hdia
  obtain ⟨_, _, ab, hA2, _, hab, m1⟩ := hbl.at_ (k := i) hi
  injection hA2 with hA2
  injection hA2 with q1 q2
  subst q1
  subst q2
  rw [Nat.zero_add] at m1
  obtain ⟨b, off, l', rfl, hbL, hl', c0, c1, c2, c3, c4, c5⟩ := (HLL.out.below HM1.out.2.2.2).at_ hi
  rw [HLI.out] at hl'
  injection hl' with hl'
  subst hl'
  have a0 := Lib.cell_of_heap HM1.out.1 0
  have a1 := Lib.cell_of_heap HM1.out.1 1
  have r0 := Lib.cell_of_heap HM1.out.2.1 0
  have r1 := Lib.cell_of_heap HM1.out.2.1 1
  have rf : ∀ x, w1.frozen? ⟨w.heap.size + 1, x, none⟩ = false := by intro x; have h1 := HM1.out.2.1; simp [World.frozen?, h1]
  have HAB : Hid ((aboveL ls)[i]? = some ab) := hab
  obtain ⟨nn, hnn⟩ : ∃ nn, ls.length = nn := ⟨_, rfl⟩
  rw [hnn] at hii d1 d2 hp2 a1 HFL ⊢
  have HNN := Lib.hid hnn
  clear hb1 hbl hab hl c1 c2 c3 c4 c5 d0 d3 d4 d5 hnn
  by_cases hk : l.kind = 1
  · have hke : (l.kind != 1) = false := by rw [bne_eq_false_iff_eq]; exact hk
    have HK := Lib.hid hk
    have hab2 : (aboveL ls).getD i false = ab := by
      rw [List.getD_eq_getElem?_getD, HAB.out]; rfl
    rw [above_down HLI.out hk] at hab2
    have HD := Lib.hid hab2
    clear hk hab2
    cases ab with
    | false =>
      go_wp2_with fail
      refine (HFL.out _ HM1.out.2.2.2).mono ?_
      rintro e w2 ⟨gL, rfl, ho, hb⟩
      have hm2 := two_next HM1.out hb
      have HM2 := Lib.hid hm2
      have HO := Lib.hid ho
      have HNL := Lib.hid hLEN.out
      rw [hLEN.out, HNN.out] at ho ⊢
      clear r0 r1 rf
      have r0 := Lib.cell_of_heap hm2.2.1 0
      have r1 := Lib.cell_of_heap hm2.2.1 1
      have rf : ∀ x, w2.frozen? ⟨w.heap.size + 1, x, none⟩ = false := by intro x; simp [World.frozen?, hm2.2.1]
      clear ho hb hm2
      go_wp2_with fail
      obtain ⟨X, hX⟩ : ∃ X, X = (w2.setCell ⟨w.heap.size + 1, 0, none⟩ (.int .i64 f)).setCell ⟨w.heap.size + 1, 1, none⟩ (.slice (some ⟨gL, 0, none⟩) nn nn) := ⟨_, rfl⟩
      obtain ⟨k0, k1, hXB, _, hXK⟩ := res_end HM2.out.2.1 (by omega) HM2.out.2.2.2 _ _ hX
      rw [← hX]
      have hn2 := HNN.out
      subst hn2
      refine bodyPost_ret (v := .tuple #[.agg #[.int .i64 f, .slice (some ⟨gL, 0, none⟩) ls.length ls.length], .int .i64 0]) (by simp [results, Tryd.results33, go_sem, k0, k1]) rfl (.inl ⟨fun l' hl' => ?_, gL, rfl, ?_, hXB⟩)
      · rw [HLI.out] at hl'
        injection hl' with hl'
        rw [← hl']
        exact ⟨HK.out, by have := HD.out; revert this; cases downB ls i <;> simp⟩
      · have ho := HO.out
        unfold OwnL at ho
        rw [HNL.out] at ho
        have h1 := own_kept2' ho (w' := X) (fun g e => hXK g (by have := (World.ownsRow.lt ho g e).1; have := HM1.out.2.2.1; omega))
        exact own_base' h1 HM1.out.2.2.2.size
    | true =>
      go_wp2_with fail
      obtain ⟨X, hX⟩ : ∃ X, X = (w1.setCell ⟨w.heap.size + 1, 0, none⟩ (.int .i64 0)).setCell ⟨w.heap.size + 1, 1, none⟩ (.slice none 0 0) := ⟨_, rfl⟩
      obtain ⟨k0, k1, hXB, _, _⟩ := res_end HM1.out.2.1 (by omega) HM1.out.2.2.2 _ _ hX
      rw [← hX]
      refine bodyPost_ret (v := .tuple #[.agg #[.int .i64 0, .slice none 0 0], .int .i64 2]) (by simp [results, Tryd.results33, go_sem, k0, k1]) rfl (.inr ⟨fun hall => ?_, rfl, hXB⟩)
      have h1 := hall l HLI.out
      have h2 := HD.out
      rw [h1.2] at h2
      cases h2
  · have hke : (l.kind != 1) = true := by rw [bne_iff_ne]; exact hk
    have HK := Lib.hid hk
    clear hk
    go_wp2_with fail
    obtain ⟨X, hX⟩ : ∃ X, X = (w1.setCell ⟨w.heap.size + 1, 0, none⟩ (.int .i64 0)).setCell ⟨w.heap.size + 1, 1, none⟩ (.slice none 0 0) := ⟨_, rfl⟩
    obtain ⟨k0, k1, hXB, _, _⟩ := res_end HM1.out.2.1 (by omega) HM1.out.2.2.2 _ _ hX
    rw [← hX]
    refine bodyPost_ret (v := .tuple #[.agg #[.int .i64 0, .slice none 0 0], .int .i64 2]) (by simp [results, Tryd.results33, go_sem, k0, k1]) rfl (.inr ⟨fun hall => ?_, rfl, hXB⟩)
    have h1 := hall l HLI.out
    exact absurd h1.1 HK.out

set_option maxHeartbeats 8000000 in
set_option maxRecDepth 100000 in
theorem refStart_calls (f : Int) (b off n c I : Nat) (xs : List Lt) (w : World) (hL : LS w (some ⟨b, off, none⟩) n xs) (hc : n ≤ c) (hn : n ≤ 1000) (hI : I < n) :
    Calls Tryd.prog 35 #[.agg #[.int .i64 f, .slice (some ⟨b, off, none⟩) n c], .int .i64 (I : Int)] w (OkC f n (xs.drop I ++ xs.take I) w) := by
  have HLN : Hid (xs.length = n) := hL.1
  go_enter Tryd.func35, Tryd.ntmps35
  go_wp2_with fail
  obtain ⟨W0, hW0⟩ : ∃ W0, W0 = (w.alloc (.cells #[.int .i64 f, .slice (some ⟨b, off, none⟩) n c] 24)).alloc (.cells #[.int .i64 0, .slice none 0 0] 24) := ⟨_, rfl⟩
  have HF0 := Lib.hid (two_mem w _ _ W0 hW0)
  rw [← hW0]
  clear hW0
  have HLW := Lib.hid (hL.below HF0.out.2.2.2)
  have x0 := Lib.cell_of_heap HF0.out.1 0
  have x1 := Lib.cell_of_heap HF0.out.1 1
  obtain ⟨P, hP⟩ : ∃ P, P = w.heap.size := ⟨_, rfl⟩
  obtain ⟨r1, hr1⟩ : ∃ r1, r1 = w.heap.size + 1 := ⟨_, rfl⟩
  rw [← hP] at x0 x1
  have hwr1 : w.heap.size ≤ r1 := by omega
  have HDR := Lib.hid (HLW.out.dropL (k := I) (by omega))
  have HTK := Lib.hid (HLW.out.takeL (k := I) (by omega))
  have hb1 : ([] : List Lt).length + (n - I) ≤ 1000000 := by simp; omega
  have hb2 : (xs.drop I).length + I ≤ 1000000 := by rw [List.length_drop, HLN.out]; omega
  have hnc : (n : Int) ≤ c := by omega
  have hjc : ¬ c = I := by omega
  have hjn : (I : Int) ≤ n := by omega
  have hjc2 : (I : Int) ≤ c := by omega
  have hlen2 : (xs.drop I ++ xs.take I).length = n := by rw [List.length_append, List.length_drop, List.length_take, HLN.out]; omega
  have HB1 := Lib.hid hb1
  have HB2 := Lib.hid hb2
  have HL2 := Lib.hid hlen2
  have hPl := heap_lt HF0.out.1
  have hrl := heap_lt HF0.out.2.1
  have HC : Hid (∀ W (hW : Below W0.heap.size W0 W), W.heap[P]? = some (.cells #[.int .i64 f, .slice (some ⟨b, off, none⟩) n c] 24 (0, 0)) ∧ W.heap[r1]? = some (.cells #[.int .i64 0, .slice none 0 0] 24 (0, 0))) := fun W hW => by
    rw [hP, hr1]
    exact ⟨(hW.block _ hPl).trans HF0.out.1, (hW.block _ hrl).trans HF0.out.2.1⟩
  have HR1E := Lib.hid hr1
  rw [← hr1, ← hP]
  clear hb1 hb2 hlen2 hP hr1 hPl hrl
  go_region_law (first
    | (refine step_append_lts rfl (.const (.slice none 0 0)) (.tmp 10) rfl W0.heap.size (.slice none 0 0) [] (by kernel_rfl) (OwnL.nil _ _) b (off + I * 6) (n - I) (c - I) (xs.drop I) (by kernel_rfl) HDR.out HB1.out (Nat.le_refl _) ?_; intro v1 w1 hown1 hg1; rw [List.nil_append] at hown1; have hbb : Below W0.heap.size W0 w1 := ((Below.refl W0.heap.size W0).drew).grown hg1 (Nat.le_refl _) (fun q hq => by cases hq); have K1 := Lib.hid (And.intro hown1 hbb); have y0 := Lib.cell_of_heap (HC.out w1 hbb).1 0; have y1 := Lib.cell_of_heap (HC.out w1 hbb).1 1; clear hown1 hg1 hbb)
    | (refine step_append_lts rfl (.tmp 11) (.tmp 15) rfl W0.heap.size v1 (xs.drop I) (by kernel_rfl) K1.out.1 b off I c (xs.take I) (by kernel_rfl) (HTK.out.below K1.out.2) HB2.out K1.out.2.size ?_; intro v2 w2 hown2 hg2; have hbb : Below W0.heap.size W0 w2 := K1.out.2.grown hg2 K1.out.2.size (fun q hq => (World.ownsRow.lt K1.out.1 q hq).1); unfold OwnL at hown2; rw [HL2.out] at hown2; obtain ⟨Av, cv, rfl⟩ := own_form hown2; have K2 := Lib.hid (And.intro hown2 hbb); have z0 := Lib.cell_of_heap (HC.out w2 hbb).1 0; have z1 := Lib.cell_of_heap (HC.out w2 hbb).1 1; have r0 := Lib.cell_of_heap (HC.out w2 hbb).2 0; have r1' := Lib.cell_of_heap (HC.out w2 hbb).2 1; have rf : ∀ x, w2.frozen? ⟨r1, x, none⟩ = false := (by intro x; have h1 := (HC.out w2 hbb).2; simp [World.frozen?, h1]); clear hown2 hg2 hbb))
  all_goals
    go_wp2_with fail
    obtain ⟨X, hX⟩ : ∃ X, X = (w2.setCell ⟨r1, 0, none⟩ (.int .i64 f)).setCell ⟨r1, 1, none⟩ (.slice Av n cv) := ⟨_, rfl⟩
    have hw2 : Below w.heap.size w w2 := HF0.out.2.2.2.trans (K2.out.2.mono HF0.out.2.2.2.size)
    obtain ⟨k0, k1, hXB, _, hXK⟩ := res_end (HC.out w2 K2.out.2).2 hwr1 hw2 _ _ hX
    rw [← hX]
    refine bodyPost_ret (v := .agg #[.int .i64 f, .slice Av n cv]) (by simp [results, Tryd.results35, go_sem, k0, k1]) rfl ⟨Av, cv, rfl, ?_, by first | exact hXB | exact hXB.drew⟩
    have h1 := own_kept2' K2.out.1 (w' := X) (fun g e => hXK g (by have := (World.ownsRow.lt K2.out.1 g e).1; have := HF0.out.2.2.1; have := HR1E.out; omega))
    exact own_base' h1 HF0.out.2.2.2.size

end Go.Proofs.YtjdabkniojmacaaDoor

/-
  The walks of Same, the program's and the reference's.
-/
namespace Go.Proofs.YtjdabkniojmacaaDoor
open Go.RowKit

def SEqPost (ls ms : List Lt) (w : World) (e : Ending) (w' : World) : Prop := ∃ b, e = .returned (.bool b) ∧ (b = true ↔ ls = ms) ∧ Below w.heap.size w w'
theorem SEqPost.yes {ls ms : List Lt} {w w' : World} (h : ls = ms) (hb : Below w.heap.size w w') : SEqPost ls ms w (.returned (.bool true)) w' := ⟨true, rfl, ⟨fun _ => h, fun _ => rfl⟩, hb⟩
theorem SEqPost.no {ls ms : List Lt} {w w' : World} (h : ¬ ls = ms) (hb : Below w.heap.size w w') : SEqPost ls ms w (.returned (.bool false)) w' := ⟨false, rfl, ⟨fun c => absurd c (by decide), fun c => absurd c h⟩, hb⟩

set_option maxHeartbeats 4000000 in
set_option maxRecDepth 100000 in
theorem sliceEq_calls (A1 A2 : Option Addr) (n m c1 c2 : Nat) (ls ms : List Lt) (w : World) (h1 : LS w A1 n ls) (h2 : LS w A2 m ms) (hn : n ≤ 1000000) :
    Calls Tryd.prog 71 #[.slice A1 n c1, .slice A2 m c2] w (SEqPost ls ms w) := by
  have HL1 := Lib.hid h1.1
  have HL2 := Lib.hid h2.1
  by_cases hnm : n = m
  · subst hnm
    go_enter Tryd.func71, Tryd.ntmps71
    go_wp2_with fail
    go_loopw [13] (fun i wr => EqRel ls ms n w i wr) (fun i _ => n - (intOf i).toNat)
    case atStart => exact ⟨0, 0, Nat.zero_le _, rfl, fun k hk => by omega, rfl⟩
    case round =>
      obtain ⟨j, q, hj, rfl, hall, rfl⟩ := hrel
      have HALL := Lib.hid hall
      clear hall
      by_cases hlt : j < n
      · obtain ⟨b, off, l, rfl, hbl, hl, c0, c1, c2, c3, c4, c5⟩ := h1.at_ hlt
        obtain ⟨b', off', l', rfl, hbl', hl', d0, d1, d2, d3, d4, d5⟩ := h2.at_ hlt
        have hj1 : (j : Int) < n := by omega
        have HLL := Lib.hid hl
        have HLM := Lib.hid hl'
        clear hl hl'
        by_cases he : l = l'
        · subst he
          go_wp2_with fail
          go_quiet (fail)
          go_wp2_with fail
          go_roundw
          case rel => exact ⟨j + 1, _, by omega, by rw [Int.natCast_add]; rfl, fun k hk => by
            by_cases e : k = j
            · subst e; rw [HLL.out, HLM.out]
            · exact HALL.out k (by omega), rfl⟩
          case measure => simp [intOf]; omega
        · have HNO : Hid (¬ ls = ms) := fun c => he (by
            have h1 := HLL.out
            rw [c, HLM.out] at h1
            injection h1 with h1
            exact h1.symm)
          rcases Lt.ne_cases he with e | ⟨e1, e⟩ | ⟨e1, e2, e⟩ | ⟨e1, e2, e3, e⟩ | ⟨e1, e2, e3, e4, e⟩ | ⟨e1, e2, e3, e4, e5, e⟩
          all_goals
            clear he
            go_wp2_with fail
            go_quiet (fail)
            go_wp2_with fail
            go_ret
            exact SEqPost.no HNO.out (by first | exact below_drewN (Below.refl _ _) _ | exact below_drewN (below_drewN (Below.refl _ _) _) _)
      · obtain rfl : j = n := by omega
        go_wp2_with fail
        go_ret
        refine SEqPost.yes ?_ (below_drewN (Below.refl _ _) _)
        apply List.ext_getElem?
        intro k
        rcases Nat.lt_or_ge k j with c | c
        · exact HALL.out k c
        · rw [List.getElem?_eq_none (by rw [HL1.out]; exact c), List.getElem?_eq_none (by rw [HL2.out]; exact c)]
  · have hbe : ((n : Int) != (m : Int)) = true := by rw [bne_iff_ne]; omega
    have HNO : Hid (¬ ls = ms) := fun c => hnm (by rw [← HL1.out, ← HL2.out, c])
    clear hnm
    go_enter Tryd.func71, Tryd.ntmps71
    go_wp2_with fail
    go_ret
    exact SEqPost.no HNO.out (Below.refl _ _)

/-- Whether two codes are the same, without an error. -/
def SamePost (f1 f2 : Int) (L1 L2 : List Lt) (w : World) (e : Ending) (w' : World) : Prop := ∃ b, e = .returned (.tuple #[.bool b, .int .i64 0]) ∧ (b = true ↔ f1 = f2 ∧ L1 = L2) ∧ Below w.heap.size w w'
theorem SamePost.yes {f1 f2 : Int} {L1 L2 : List Lt} {w w' : World} {b : Bool} (h : b = true ↔ f1 = f2 ∧ L1 = L2) (hb : Below w.heap.size w w') : SamePost f1 f2 L1 L2 w (.returned (.tuple #[.bool b, .int .i64 0])) w' := ⟨b, rfl, h, hb⟩

set_option maxHeartbeats 4000000 in
theorem same_ok (f1 f2 : Int) (A1 A2 : Option Addr) (n m c1 c2 : Nat) (L1 L2 : List Lt) (w : World) (hn : n ≤ 1000) (hl1 : L1.length = n) (hl2 : L2.length = m)
    (h1 : ∀ W, Below w.heap.size w W → Calls Tryd.prog 22 #[.agg #[.int .i64 f1, .slice A1 n c1]] W (OkN f1 n L1 W))
    (h2 : ∀ W, Below w.heap.size w W → Calls Tryd.prog 22 #[.agg #[.int .i64 f2, .slice A2 m c2]] W (OkN f2 m L2 W)) :
    Calls Tryd.prog 27 #[.agg #[.int .i64 f1, .slice A1 n c1], .agg #[.int .i64 f2, .slice A2 m c2]] w (SamePost f1 f2 L1 L2 w) := by
  have H1 := Lib.hid h1
  have H2 := Lib.hid h2
  have HN1 := Lib.hid hl1
  have HN2 := Lib.hid hl2
  clear h1 h2 hl1 hl2
  go_enter Tryd.func27, Tryd.ntmps27
  go_wp2_with fail
  obtain ⟨W0, hW0⟩ : ∃ W0, W0 = (w.alloc (.cells #[.int .i64 f1, .slice A1 n c1] 24)).alloc (.cells #[.int .i64 f2, .slice A2 m c2] 24) := ⟨_, rfl⟩
  have HF0 := Lib.hid (two_mem w _ _ W0 hW0)
  rw [← hW0]
  clear hW0
  refine (H1.out _ HF0.out.2.2.2).mono ?_
  rintro e w1 ⟨B1, d1, rfl, ho, hb1⟩
  obtain ⟨X1, hX1⟩ : ∃ X, X = w1.heap.size := ⟨_, rfl⟩
  obtain ⟨V1, hV1⟩ : ∃ V, V = w1.alloc (.cells #[.int .i64 f1, .slice B1 n d1] 24) := ⟨_, rfl⟩
  have hbv : Below w1.heap.size w1 V1 := by rw [hV1]; exact (Below.refl _ _).alloc (Nat.le_refl _) _
  have HM1 := Lib.hid (two_next (two_next HF0.out hb1) hbv)
  have HX1 : Hid (V1.heap[X1]? = some (.cells #[.int .i64 f1, .slice B1 n d1] 24 (0, 0))) := by rw [hV1, hX1]; exact heap_alloc_new w1 _
  have HL1 : Hid (LS V1 B1 n L1) := (OkN.ls ho HN1.out).below hbv
  have HV1 := Lib.hid hV1
  have HXE := Lib.hid hX1
  have a0 := Lib.cell_of_heap HM1.out.2.1 0
  have a1 := Lib.cell_of_heap HM1.out.2.1 1
  rw [hV1] at a0 a1
  clear hb1 hbv ho hV1 hX1
  go_wp2_with fail
  rw [← HXE.out, ← HV1.out]
  refine (H2.out _ HM1.out.2.2.2).mono ?_
  rintro e w2 ⟨B2, d2, rfl, ho, hb2⟩
  obtain ⟨X2, hX2⟩ : ∃ X, X = w2.heap.size := ⟨_, rfl⟩
  obtain ⟨V2, hV2⟩ : ∃ V, V = w2.alloc (.cells #[.int .i64 f2, .slice B2 m d2] 24) := ⟨_, rfl⟩
  have hbv : Below w2.heap.size w2 V2 := by rw [hV2]; exact (Below.refl _ _).alloc (Nat.le_refl _) _
  have hb12 : Below V1.heap.size V1 V2 := hb2.trans (hbv.mono hb2.size)
  have HB2 : Hid (Below w.heap.size w V2) := HM1.out.2.2.2.trans (hb12.mono HM1.out.2.2.2.size)
  have hx1 := (hb12.block X1 (heap_lt HX1.out)).trans HX1.out
  have hx2 : V2.heap[X2]? = some (.cells #[.int .i64 f2, .slice B2 m d2] 24 (0, 0)) := by rw [hV2, hX2]; exact heap_alloc_new w2 _
  have HLA : Hid (LS V2 B1 n L1) := HL1.out.below hb12
  have HLB : Hid (LS V2 B2 m L2) := (OkN.ls ho HN2.out).below hbv
  have HV2 := Lib.hid hV2
  have HXE2 := Lib.hid hX2
  clear a0 a1
  have a0 := Lib.cell_of_heap hx1 0
  have a1 := Lib.cell_of_heap hx1 1
  have b0 := Lib.cell_of_heap hx2 0
  have b1 := Lib.cell_of_heap hx2 1
  rw [hV2] at a0 a1
  clear hb2 hbv ho hb12 hx1 hx2 hV2 hX2
  by_cases hf : f1 = f2
  · have hfe : (f1 == f2) = true := by rw [beq_iff_eq]; exact hf
    have HF := Lib.hid hf
    clear hf
    go_wp2_with fail
    rw [← HXE2.out, ← HV2.out]
    refine (sliceEq_calls B1 B2 n m d1 d2 L1 L2 V2 HLA.out HLB.out (by omega)).mono ?_
    rintro e w3 ⟨bb, rfl, hbb, hb3⟩
    have HB3 : Hid (Below w.heap.size w w3) := HB2.out.trans (hb3.mono HB2.out.size)
    have HBB := Lib.hid hbb
    clear hb3 hbb
    go_wp2_with fail
    go_ret2
    exact SamePost.yes (HBB.out.trans ⟨fun h => ⟨HF.out, h⟩, fun h => h.2⟩) HB3.out
  · have hfe : (f1 == f2) = false := by rw [beq_eq_false_iff_ne]; exact hf
    have HF := Lib.hid hf
    clear hf
    go_wp2_with fail
    rw [← HXE2.out, ← HV2.out]
    go_ret2
    exact SamePost.yes ⟨fun h => absurd h (by decide), fun h => absurd h.1 HF.out⟩ HB2.out

/-- Two codes in their variables. -/
def TwS (P Q : Nat) (f1 f2 : Int) (v1 v2 : Value) (V w' : World) : Prop :=
  w'.cell? ⟨P, 0, none⟩ = some (.int .i64 f1) ∧ w'.cell? ⟨P, 1, none⟩ = some v1 ∧ w'.cell? ⟨Q, 0, none⟩ = some (.int .i64 f2) ∧ w'.cell? ⟨Q, 1, none⟩ = some v2 ∧ Below V.heap.size V w'
theorem TwS.last {P Q : Nat} {f1 f2 : Int} {v1 v2 : Value} {V w' : World} (h : TwS P Q f1 f2 v1 v2 V w') : Below V.heap.size V w' := h.2.2.2.2
theorem TwS.of {P Q : Nat} {f1 f2 : Int} {v1 v2 : Value} {V w' : World} (h0 : V.heap[P]? = some (.cells #[.int .i64 f1, v1] 24 (0, 0))) (h1 : V.heap[Q]? = some (.cells #[.int .i64 f2, v2] 24 (0, 0))) (hb : Below V.heap.size V w') : TwS P Q f1 f2 v1 v2 V w' := by
  have e : ∀ q o, V.heap[q]? = some o → w'.heap[q]? = some o := fun q o hq => (hb.block q (heap_lt hq)).trans hq
  exact ⟨Lib.cell_of_heap (e _ _ h0) 0, Lib.cell_of_heap (e _ _ h0) 1, Lib.cell_of_heap (e _ _ h1) 0, Lib.cell_of_heap (e _ _ h1) 1, hb⟩

set_option maxHeartbeats 4000000 in
set_option maxRecDepth 100000 in
theorem refSame_calls (f1 f2 : Int) (A1 A2 : Option Addr) (n m c1 c2 : Nat) (L1 L2 : List Lt) (w : World) (hn : n ≤ 1000) (hl1 : L1.length = n) (hl2 : L2.length = m)
    (h1 : ∀ W, Below w.heap.size w W → Calls Tryd.prog 25 #[.agg #[.int .i64 f1, .slice A1 n c1]] W (OkC f1 n L1 W))
    (h2 : ∀ W, Below w.heap.size w W → Calls Tryd.prog 25 #[.agg #[.int .i64 f2, .slice A2 m c2]] W (OkC f2 m L2 W)) :
    Calls Tryd.prog 28 #[.agg #[.int .i64 f1, .slice A1 n c1], .agg #[.int .i64 f2, .slice A2 m c2]] w (EqPost f1 f2 L1 L2 w) := by
  have H1 := Lib.hid h1
  have H2 := Lib.hid h2
  have HN1 := Lib.hid hl1
  have HN2 := Lib.hid hl2
  have hn6 : n ≤ 1000000 := by omega
  clear h1 h2 hl1 hl2
  go_enter Tryd.func28, Tryd.ntmps28
  go_wp2_with fail
  obtain ⟨W0, hW0⟩ : ∃ W0, W0 = (w.alloc (.cells #[.int .i64 f1, .slice A1 n c1] 24)).alloc (.cells #[.int .i64 f2, .slice A2 m c2] 24) := ⟨_, rfl⟩
  have HF0 := Lib.hid (two_mem w _ _ W0 hW0)
  rw [← hW0]
  clear hW0
  obtain ⟨P, hP⟩ : ∃ P, P = w.heap.size := ⟨_, rfl⟩
  obtain ⟨Q, hQ⟩ : ∃ Q, Q = w.heap.size + 1 := ⟨_, rfl⟩
  have HKP : Hid (∀ w', Below W0.heap.size W0 w' → TwS P Q f1 f2 (.slice A1 n c1) (.slice A2 m c2) W0 w') := fun w' h => TwS.of (by rw [hP]; exact HF0.out.1) (by rw [hQ]; exact HF0.out.2.1) h
  have HBW : Hid (Below w.heap.size w W0) := HF0.out.2.2.2
  rw [← hQ, ← hP]
  clear hP hQ
  go_region_held3 (fun w' => w'.cell? ⟨P, 0, none⟩ = some (.int .i64 f1) ∧ w'.cell? ⟨P, 1, none⟩ = some (.slice A1 n c1) ∧ w'.cell? ⟨Q, 0, none⟩ = some (.int .i64 f2) ∧ w'.cell? ⟨Q, 1, none⟩ = some (.slice A2 m c2) ∧ Below W0.heap.size W0 w')
    (first
      | exact HKP.out _ (Below.refl _ _).drew
      | exact HKP.out _ ((TwS.last (P := P) (Q := Q) (f1 := f1) (f2 := f2) (v1 := .slice A1 n c1) (v2 := .slice A2 m c2) (V := W0) (by assumption)).trans (hbw.mono (TwS.last (P := P) (Q := Q) (f1 := f1) (f2 := f2) (v1 := .slice A1 n c1) (v2 := .slice A2 m c2) (V := W0) (by assumption)).size)))
    (first
      | (go_at_call 25; (with_reducible refine (H1.out _ ?hbx).mono ?_); (case hbx => exact HBW.out.trans ((TwS.last (P := P) (Q := Q) (f1 := f1) (f2 := f2) (v1 := .slice A1 n c1) (v2 := .slice A2 m c2) (V := W0) (by assumption)).mono HBW.out.size)); rintro e w2 ⟨A3, c3, rfl, hrow1, hbw⟩; have HE1 := Lib.hid (row_ls hrow1 HN1.out); clear hrow1)
      | (go_at_call 25; (with_reducible refine (H2.out _ ?hbx).mono ?_); (case hbx => exact HBW.out.trans ((TwS.last (P := P) (Q := Q) (f1 := f1) (f2 := f2) (v1 := .slice A1 n c1) (v2 := .slice A2 m c2) (V := W0) (by assumption)).mono HBW.out.size)); rintro e w3 ⟨A4, c4, rfl, hrow2, hbw⟩; have HE2 := Lib.hid (row_ls hrow2 HN2.out); have HE3 := Lib.hid (HE1.out.below hbw); clear hrow2)
      | (go_at_call 24; (with_reducible refine (codeEqual_calls f1 f2 A3 A4 n m c3 c4 L1 L2 _ HE3.out HE2.out hn6).mono ?_); rintro e w4 ⟨bb, rfl, hbb, hbw⟩; have HBB := Lib.hid hbb; clear hbb))
  have hS : TwS P Q f1 f2 (.slice A1 n c1) (.slice A2 m c2) W0 w4 := by assumption
  have HF : Hid (Below w.heap.size w w4) := HBW.out.trans (hS.last.mono HBW.out.size)
  clear hS
  go_wp2_with fail
  go_ret
  exact ⟨bb, rfl, HBB.out, HF.out⟩

end Go.Proofs.YtjdabkniojmacaaDoor
