/-
  The walk of the reference's Back.
-/
import Derived.Test.YtjdabkniojmacaaDoorRefO
namespace Go.Proofs.YtjdabkniojmacaaDoor
open Go.RowKit

def rdownsL (ls : List Lt) (n j : Nat) : List Bool := (List.range j).map fun k => !downB ls (n - 1 - k)
theorem rdownsL_len (ls : List Lt) (n j : Nat) : (rdownsL ls n j).length = j := by simp [rdownsL]
theorem rdownsL_succ (ls : List Lt) (n j : Nat) : rdownsL ls n (j + 1) = rdownsL ls n j ++ [!downB ls (n - 1 - j)] := by
  unfold rdownsL
  rw [List.range_succ, List.map_append]
  rfl
theorem rev_at {ls : List Lt} {n j : Nat} {l : Lt} (hn : ls.length = n) (hj : j < n) (hl : ls[n - 1 - j]? = some l) : ls.reverse[j]? = some l := by
  rw [List.getElem?_reverse (by omega), hn]
  exact hl
theorem rev_take {ls : List Lt} {n j : Nat} {l : Lt} (hn : ls.length = n) (hj : j < n) (hl : ls[n - 1 - j]? = some l) : ls.reverse.take (j + 1) = ls.reverse.take j ++ [l] := by
  rw [List.take_add_one, rev_at hn hj hl]
  rfl
theorem ls_oneL (w : World) (l : Lt) (T : TypeId) : LS (w.alloc (.cells #[.int .i64 l.kind, .int .i64 l.gate, .int .i64 l.rank, .int .i64 l.id, .int .i64 l.sign, .bool l.over] T)) (some ⟨w.heap.size, 0, none⟩) 1 [l] := by
  have h := heap_alloc_new w (.cells #[.int .i64 l.kind, .int .i64 l.gate, .int .i64 l.rank, .int .i64 l.id, .int .i64 l.sign, .bool l.over] T)
  refine ⟨rfl, fun _ => ⟨w.heap.size, 0, rfl, by simp, fun k l' hk => ?_⟩⟩
  cases k with
  | zero =>
    injection hk with hk
    subst hk
    exact ⟨Lib.cell_of_heap h 0, Lib.cell_of_heap h 1, Lib.cell_of_heap h 2, Lib.cell_of_heap h 3, Lib.cell_of_heap h 4, Lib.cell_of_heap h 5⟩
  | succ k => cases hk

/-- The code that is made from the letters gone through. -/
def BkR (P r1 R : Nat) (f : Int) (vc : Value) (ls : List Lt) (w : World) (j : Nat) (v : Value) (X : World) : Prop :=
  X.heap[P]? = some (.cells #[.int .i64 f, vc] 24 (0, 0)) ∧ X.heap[r1]? = some (.cells #[.int .i64 0, .slice none 0 0] 24 (0, 0)) ∧ X.heap[R]? = some (.cells #[.int .i64 f, v] 24 (0, 0)) ∧
    X.ownsRow (w.heap.size + 3) 48 6 v j ((ls.reverse.take j).flatMap ltCells) ∧ Below w.heap.size w X
theorem BkR.below {P r1 R : Nat} {f : Int} {vc v : Value} {ls : List Lt} {w X Y : World} {j : Nat} (k : BkR P r1 R f vc ls w j v X) (hb : Below X.heap.size X Y) : BkR P r1 R f vc ls w j v Y := by
  obtain ⟨h3, h4, h5, h6, h7⟩ := k
  exact ⟨(hb.block _ (heap_lt h3)).trans h3, (hb.block _ (heap_lt h4)).trans h4, (hb.block _ (heap_lt h5)).trans h5, ownsRow_below h6 hb, h7.trans (hb.mono h7.size)⟩
theorem BkR.grown {P r1 R : Nat} {f : Int} {vc v dv : Value} {ls : List Lt} {w X Y : World} {j m B2 : Nat} {ds : List Value} (k : BkR P r1 R f vc ls w j v X) (hd : X.ownsRow B2 4 1 dv m ds) (hg : X.grownBy Y dv.ownBlock) (hw : w.heap.size ≤ B2) : BkR P r1 R f vc ls w j v Y := by
  obtain ⟨h3, h4, h5, h6, h7⟩ := k
  have e : ∀ (q : Nat) (o : Array Value), X.heap[q]? = some (Obj.cells o 24 (0, 0)) → Y.heap[q]? = X.heap[q]? := fun q o hq => hg.block q (heap_lt hq) (fun e => own_obj_ne hd hq (by decide) q e.symm rfl)
  have e2 : Y.ownsRow (w.heap.size + 3) 48 6 v j ((ls.reverse.take j).flatMap ltCells) := own_kept2' h6 (fun g e1 => hg.block g ((World.ownsRow.lt h6 g e1).2) (fun e3 => own_apart h6 hd (by decide) g e1 e3.symm))
  exact ⟨(e _ _ h3).trans h3, (e _ _ h4).trans h4, (e _ _ h5).trans h5, e2, h7.grown hg h7.size (fun q hq => Nat.le_trans hw (World.ownsRow.lt hd q hq).1)⟩
def BkRel (P r1 R : Nat) (f : Int) (vc : Value) (n : Nat) (ls : List Lt) (w : World) (dv iv : Value) (wr : World) : Prop :=
  ∃ (j : Nat) (v : Value), j ≤ n ∧ iv = .int .i64 ((n : Int) - 1 - (j : Int)) ∧ BkR P r1 R f vc ls w j v wr ∧ OwnV wr (w.heap.size + 3) 4 dv ((rdownsL ls n j).map Value.bool)

set_option maxHeartbeats 8000000 in
set_option maxRecDepth 100000 in
theorem refBack_calls (f : Int) (A : Option Addr) (n c I : Nat) (ls : List Lt) (w : World) (hL : LS w A n ls) (hn : n ≤ 1000)
    (hI : 0 < n → I < n ∧ (∀ l, ls[n - 1 - I]? = some l → l.kind = 1) ∧ downB ls (n - 1 - I) = false ∧ ∀ k l, k < I → ls[n - 1 - k]? = some l → l.kind ≠ 1) :
    Calls Tryd.prog 68 #[.agg #[.int .i64 f, .slice A n c]] w (OkC f n (ls.reverse.drop I ++ ls.reverse.take I) w) := by
  have HLN : Hid (ls.length = n) := hL.1
  have HLL := Lib.hid hL
  have HII := Lib.hid hI
  have HDN : Hid (∀ W (i : Nat), Below w.heap.size w W → i ≤ n → Calls Tryd.prog 34 #[.agg #[.int .i64 f, .slice A n c], .int .i64 (i : Int)] W fun e w' => e = .returned (.bool (downB ls i)) ∧ Below W.heap.size W w') :=
    fun W i hW hi => down_calls f A n c ls i W (hL.below hW) (by omega) hi
  obtain ⟨i0, hi, hz0, hz1, hz2⟩ := info_parts infoBool
  have hw1 : IntKind.i64.wrap ((n : Int) - 1) = (n : Int) - 1 := wrapI (by omega) (by omega)
  clear hL hI
  go_enter Tryd.func68, Tryd.ntmps68
  go_wp2_with fail
  obtain ⟨W0, hW0⟩ : ∃ W0, W0 = (w.alloc (.cells #[.int .i64 f, .slice A n c] 24)).alloc (.cells #[.int .i64 0, .slice none 0 0] 24) := ⟨_, rfl⟩
  have HF0 := Lib.hid (two_mem w _ _ W0 hW0)
  have HWS : Hid (W0.heap.size = w.heap.size + 2) := by rw [hW0]; unfold Hid; simp
  obtain ⟨W1, hW1⟩ : ∃ W1, W1 = W0.alloc (.cells #[.int .i64 f, .slice none 0 0] 24) := ⟨_, rfl⟩
  have hba : Below W0.heap.size W0 W1 := by rw [hW1]; exact (Below.refl _ _).alloc (Nat.le_refl _) _
  have HM1 := Lib.hid (two_next HF0.out hba)
  obtain ⟨R, hR⟩ : ∃ R, R = w.heap.size + 1 + 1 := ⟨_, rfl⟩
  obtain ⟨P, hP⟩ : ∃ P, P = w.heap.size := ⟨_, rfl⟩
  obtain ⟨r1, hr1⟩ : ∃ r1, r1 = w.heap.size + 1 := ⟨_, rfl⟩
  have HST : Hid (BkRel P r1 R f (.slice A n c) n ls w (.slice none 0 0) (.int .i64 ((n : Int) - 1)) W1) := by
    refine ⟨0, .slice none 0 0, Nat.zero_le _, by simp, ⟨by rw [hP]; exact HM1.out.1, by rw [hr1]; exact HM1.out.2.1, ?_, World.ownsRow_nil _ _ _ _, HM1.out.2.2.2⟩, World.ownsRow_nil _ _ _ _⟩
    have h1 := heap_alloc_new W0 (.cells #[.int .i64 f, .slice none 0 0] 24)
    rw [HWS.out, ← hW1] at h1
    rw [hR]; exact h1
  have hwr1 : w.heap.size ≤ r1 := by omega
  have hPb : P < w.heap.size + 3 := by omega
  have hrb : r1 < w.heap.size + 3 := by omega
  have hRb : R < w.heap.size + 3 := by omega
  have hwR : w.heap.size ≤ R := by omega
  have hPR : P ≠ R := by omega
  have hrR : r1 ≠ R := by omega
  have hRge : w.heap.size + 2 ≤ R := by omega
  rw [← hW0, ← hW1, ← hR, ← hr1, ← hP]
  clear hba hW1 hW0 hR HM1 hP hr1 HF0
  go_loopw [4, 5] (fun dv iv wr => BkRel P r1 R f (.slice A n c) n ls w dv iv wr) (fun _ iv _ => (intOf iv + 1).toNat)
  case atStart => exact HST.out
  case round =>
    obtain ⟨j, v, hj, rfl, hbk, hdv⟩ := hrel
    have HBK := Lib.hid hbk
    obtain ⟨q1, q2, q3, q4, q5⟩ := hbk
    obtain ⟨Av, cv, rfl⟩ := own_form q4
    obtain ⟨Ad, cd, hdve⟩ := own_form hdv
    rw [List.length_map, rdownsL_len] at hdve
    subst hdve
    have HDV0 := Lib.hid hdv
    have x0 := Lib.cell_of_heap q3 0
    have x1 := Lib.cell_of_heap q3 1
    have y0 := Lib.cell_of_heap q1 0
    have y1 := Lib.cell_of_heap q1 1
    by_cases hlt : j < n
    · obtain ⟨k, hk⟩ : ∃ k, k = n - 1 - j := ⟨_, rfl⟩
      have hik : (n : Int) - 1 - (j : Int) = (k : Int) := by omega
      have hkn : k < n := by omega
      have hki : (k : Int) < (n : Int) := by omega
      have hk0 : decide ((0 : Int) ≤ (k : Int)) = true := by rw [decide_eq_true_iff]; omega
      have hkw : IntKind.i64.wrap ((k : Int) - 1) = (k : Int) - 1 := wrapI (by omega) (by omega)
      rw [hik]
      obtain ⟨b, off, l, rfl, hbl, hl, c0, c1, c2, c3, c4, c5⟩ := (HLL.out.below q5).at_ hkn
      have hRl := heap_lt q3
      have hPl := heap_lt q1
      have hrl := heap_lt q2
      have hRA : ∀ o, OwnL (wr.drew.alloc o) (w.heap.size + 3) (.slice Av j cv) (ls.reverse.take j) := by
        intro o
        unfold OwnL
        have e : (ls.reverse.take j).length = j := by rw [List.length_take, List.length_reverse, HLN.out]; omega
        rw [e]
        exact ownsRow_below q4 (((Below.refl wr.heap.size wr).drew).alloc (Nat.le_refl _) o)
      have HRA := Lib.hid hRA
      have hbig : (ls.reverse.take j).length + 1 ≤ 1000000 := by rw [List.length_take, List.length_reverse, HLN.out]; omega
      have HBIG := Lib.hid hbig
      have HTK := Lib.hid (rev_take HLN.out hlt (by rw [← hk]; exact hl))
      have HDS : Hid (rdownsL ls n (j + 1) = rdownsL ls n j ++ [!downB ls k]) := by unfold Hid; rw [rdownsL_succ, ← hk]
      have HLEN : Hid ((ls.reverse.take (j + 1)).length = j + 1) := by unfold Hid; rw [List.length_take, List.length_reverse, HLN.out]; omega
      have hsz3 : w.heap.size + 3 ≤ wr.heap.size + 1 := by omega
      have HKJ := Lib.hid hk
      clear hRA hbig hl q1 q2 q3 q4 hdv hik hk
      go_wp2_with fail
      go_region_law (first
        | (refine step_append_lts rfl (.tmp 18) (.tmp 24) rfl (w.heap.size + 3) (.slice Av j cv) (ls.reverse.take j) (by kernel_rfl) (HRA.out _) wr.heap.size 0 1 1 [l] (by kernel_rfl) (ls_oneL wr.drew l 48) HBIG.out (by simp; omega) ?_; intro v3 w3 hown3 hg3; rw [← HTK.out] at hown3; unfold OwnL at hown3; rw [HLEN.out] at hown3; obtain ⟨A3, c3', rfl⟩ := own_form hown3; have H3 := Lib.hid (And.intro hown3 hg3); have hbk3 : ∀ q, q < wr.heap.size → q < w.heap.size + 3 → w3.heap[q]? = wr.heap[q]? := (fun q h1 h2 => (hg3.block q (by simp; omega) (fun e => by have := (World.ownsRow.lt (HRA.out (.cells #[.int .i64 l.kind, .int .i64 l.gate, .int .i64 l.rank, .int .i64 l.id, .int .i64 l.sign, .bool l.over] 48)) q e.symm).1; omega)).trans ((((Below.refl wr.heap.size wr).drew).alloc (Nat.le_refl _) _).block q h1)); have m1 := (hbk3 P hPl hPb).trans HBK.out.1; have m2 := (hbk3 R hRl hRb).trans HBK.out.2.2.1; have u0 := Lib.cell_of_heap m1 0; have u1 := Lib.cell_of_heap m1 1; have u2 := Lib.cell_of_heap m2 1; have uf : ∀ x, w3.frozen? ⟨R, x, none⟩ = false := (by intro x; simp [World.frozen?, m2]); clear hown3 hg3))
      all_goals
        go_wp2_with fail
        obtain ⟨Y, hY⟩ : ∃ Y, Y = w3.setCell ⟨R, 1, none⟩ (.slice A3 (j + 1) c3') := ⟨_, rfl⟩
        have hrow : wr.ownsRow (w.heap.size + 3) 48 6 (.slice Av j cv) j ((ls.reverse.take j).flatMap ltCells) := HBK.out.2.2.2.1
        have yk : ∀ q, q ≠ R → Y.heap[q]? = w3.heap[q]? := fun q hq => by rw [hY]; exact Below.heap_setCell _ _ _ q hq
        have h03 : Below w.heap.size w w3 := ((HBK.out.2.2.2.2.drew).alloc HBK.out.2.2.2.2.size _).grown H3.out.2 (by have := HBK.out.2.2.2.2.size; simp; omega) (fun q hq => by have := (World.ownsRow.lt hrow q hq).1; omega)
        have HREL : Hid (BkR P r1 R f (.slice (some ⟨b, off, none⟩) n c) ls w (j + 1) (.slice A3 (j + 1) c3') Y) := by
          refine ⟨(yk P hPR).trans m1, (yk r1 hrR).trans ((hbk3 r1 hrl hrb).trans HBK.out.2.1), ?_, own_kept2' H3.out.1 (fun g e => yk g (by have := (World.ownsRow.lt H3.out.1 g e).1; omega)), ?_⟩
          · rw [hY]
            simp [World.setCell, Array.getElem?_modify, m2]
          · rw [hY]
            exact h03.setCell (p := ⟨R, 1, none⟩) hwR _
        have HDV : Hid (OwnV Y (w.heap.size + 3) 4 (.slice Ad j cd) ((rdownsL ls n j).map Value.bool)) :=
          own_kept2' HDV0.out (fun g e => (yk g (by have := (World.ownsRow.lt HDV0.out g e).1; omega)).trans ((H3.out.2.block g (by have := (World.ownsRow.lt HDV0.out g e).2; simp; omega) (fun e3 => own_apart hrow HDV0.out (by decide) g e3.symm e)).trans ((((Below.refl wr.heap.size wr).drew).alloc (Nat.le_refl _) _).block g (World.ownsRow.lt HDV0.out g e).2)))
        have HVB : Hid (Below w.heap.size w Y) := HREL.out.2.2.2.2
        have a0 := Lib.cell_of_heap HREL.out.1 0
        have a1 := Lib.cell_of_heap HREL.out.1 1
        have hkn' : k ≤ n := by omega
        rw [← hY]
        clear hY hrow yk h03 m1 m2 u0 u1 u2 uf hbk3 x0 x1 y0 y1 c0 c1 c2 c3 c4 c5
        go_wp2_with (first
          | (go_at_call 34; refine (HDN.out _ _ HVB.out hkn').mono ?_; rintro e w2 ⟨rfl, hb⟩; have HK2 := Lib.hid (HREL.out.below hb); have HD2 := Lib.hid (HDV.out.below hb); have HDA : Hid (∀ o, (w2.alloc o).ownsRow (w.heap.size + 3) 4 1 (.slice Ad j cd) j ((rdownsL ls n j).map Value.bool)) := (by intro o; have h1 := HD2.out.below ((Below.refl w2.heap.size w2).alloc (Nat.le_refl _) o); unfold OwnV at h1; rw [List.length_map, rdownsL_len] at h1; exact h1); have hs2 := HK2.out.2.2.2.2.size; have hR2 := heap_lt HK2.out.2.2.1; clear hb)
          | (at_builtin; refine wpList_append_own_at _ rfl _ _ 82 rfl (w.heap.size + 3) 4 i0 (.bool false) 1 1 Tryd.underlying82 hi hz0 hz1 hz2 rfl (by decide) (.slice Ad j cd) j ((rdownsL ls n j).map Value.bool) rfl (HDA.out _) ⟨w2.heap.size, 0, none⟩ 1 1 [.bool (!downB ls k)] rfl rfl (cell_one_new _ _ _) (by intro u hu; rw [List.mem_singleton] at hu; subst hu; rfl) (by unfold maxLen; omega) (by omega) (by simp; omega) ?_; intro v5 w5 hown5 hgr5 _ _; have H5 := Lib.hid (And.intro hown5 hgr5); clear hown5 hgr5))
        go_roundw
        case rel =>
          have h1 := HK2.out.below ((Below.refl w2.heap.size w2).alloc (Nat.le_refl _) (.cells #[.bool (!downB ls k)] 4))
          have h2 := h1.grown (HDA.out (.cells #[.bool (!downB ls k)] 4)) H5.out.2 (by omega)
          have h3 : BkRel P r1 R f (.slice (some ⟨b, off, none⟩) n c) n ls w v5 (.int .i64 ((k : Int) - 1)) w5 := ⟨j + 1, _, by omega, by (have hkj := HKJ.out; congr 1; omega), h2, by
            have h4 := H5.out.1
            unfold OwnV
            rw [List.length_map, rdownsL_len, HDS.out, List.map_append]
            exact h4⟩
          first | exact h3 | ((repeat (apply Exists.intro)); exact And.intro h3 rfl)
        case measure => first | (simp [intOf]; done) | (simp [intOf]; omega)
    · obtain rfl : j = n := by omega
      have hik : (j : Int) - 1 - (j : Int) = -1 := by omega
      have hk0 : decide ((0 : Int) ≤ (-1 : Int)) = false := by decide
      rw [hik]
      have z0 := Lib.cell_of_heap q2 0
      have z1 := Lib.cell_of_heap q2 1
      have zf : ∀ k, wr.frozen? ⟨r1, k, none⟩ = false := fun k => by simp [World.frozen?, q2]
      have hrev : ls.reverse.take j = ls.reverse := List.take_of_length_le (by rw [List.length_reverse, HLN.out]; exact Nat.le_refl _)
      rw [hrev] at q4
      have HX : Hid (Calls Tryd.prog 108 #[.agg #[.int .i64 f, .slice Av j cv], .slice Ad j cd] wr (OkC f j (ls.reverse.drop I ++ ls.reverse.take I) wr)) := by
        by_cases h0 : j = 0
        · subst h0
          have hnil : ls = [] := List.eq_nil_of_length_eq_zero HLN.out
          subst hnil
          have h1 := settle_none f Av Ad cv cd wr (fun e => by
            rcases q4.2 with ⟨hv, _⟩ | ⟨g, cap, cur, hv, _⟩
            · injection hv
            · injection hv with e1; rw [e] at e1; cases e1) (fun a e => by
            rcases q4.2 with ⟨hv, _⟩ | ⟨g, cap, cur, hv, _⟩
            · injection hv with e1; rw [e] at e1; cases e1
            · injection hv with e1; rw [e] at e1; injection e1 with e1; rw [e1])
          have e : ([] : List Lt).reverse.drop I ++ ([] : List Lt).reverse.take I = [] := by simp
          rw [e]
          exact h1
        · obtain ⟨i1, i2, i3, i4⟩ := HII.out (by omega)
          have hat : ∀ k l, k < j → ls.reverse[k]? = some l → ls[j - 1 - k]? = some l := fun k l hk hl => by
            rw [List.getElem?_reverse (by rw [HLN.out]; omega), HLN.out] at hl
            exact hl
          rcases q4.2 with ⟨_, h1⟩ | ⟨g, cap, cur, hv, _, _, hcap, _⟩
          · omega
          · injection hv with e1 _ e3
            subst e1
            subst e3
            refine settle_calls f g 0 j cv cd Ad ls.reverse (rdownsL ls j j) I wr (row_ls q4 (by rw [List.length_reverse]; exact HLN.out)) (BL.of_ownV hdv (rdownsL_len _ _ _)) hcap hn i1 (fun l hl => i2 l (hat I l i1 hl)) ?_ (fun k l hk hl hkk => absurd hkk (i4 k l hk (hat k l (by omega) hl)))
            unfold rdownsL
            rw [List.getElem?_map, List.getElem?_range i1, Option.map_some, i3]; rfl
      have HQ := Lib.hid (And.intro q2 q5)
      have HRL := Lib.hid (heap_lt q2)
      clear q1 q2 q3 q4 q5 hdv hrev
      go_wp2_with fail
      refine HX.out.mono ?_
      rintro e w9 ⟨A9, c9, rfl, hL9, hb9⟩
      have hr9 := (hb9.block r1 (heap_lt HQ.out.1)).trans HQ.out.1
      have hB9 := HQ.out.2.trans (hb9.mono HQ.out.2.size)
      have k0' := Lib.cell_of_heap hr9 0
      have k1' := Lib.cell_of_heap hr9 1
      have kf : ∀ k, w9.frozen? ⟨r1, k, none⟩ = false := fun k => by simp [World.frozen?, hr9]
      have HL9 := Lib.hid (And.intro hL9 (And.intro hr9 hB9))
      clear z0 z1 zf hb9 hr9 hL9 hB9
      go_wp2_with fail
      obtain ⟨X, hX⟩ : ∃ X, X = (w9.setCell ⟨r1, 0, none⟩ (.int .i64 f)).setCell ⟨r1, 1, none⟩ (.slice A9 j c9) := ⟨_, rfl⟩
      obtain ⟨k0, k1, hXB, _, hXK⟩ := res_end HL9.out.2.1 hwr1 HL9.out.2.2 _ _ hX
      rw [← hX]
      refine bodyPost_ret (v := .agg #[.int .i64 f, .slice A9 j c9]) (by simp [results, Tryd.results68, go_sem, k0, k1]) rfl ⟨A9, c9, rfl, ?_, hXB⟩
      have hrl := HRL.out
      exact own_base' (own_kept2' HL9.out.1 (fun g e => hXK g (by have := (World.ownsRow.lt HL9.out.1 g e).1; omega))) HQ.out.2.size

end Go.Proofs.YtjdabkniojmacaaDoor
