/-
  The walk of the reference's TurnOver.
-/
import Derived.Test.YtjobnldepblciaaDoorRefO
namespace Go.Proofs.YtjobnldepblciaaDoor
open Go.RowKit

def downsL (ls : List Lt) (j : Nat) : List Bool := (List.range j).map fun k => !downB ls k
theorem downsL_len (ls : List Lt) (j : Nat) : (downsL ls j).length = j := by simp [downsL]
theorem downsL_succ (ls : List Lt) (j : Nat) : downsL ls (j + 1) = downsL ls j ++ [!downB ls j] := by
  unfold downsL
  rw [List.range_succ, List.map_append]
  rfl
theorem own_obj_ne {w : World} {B sz n R : Nat} {v : Value} {T T' : TypeId} {xs : List Value} {cs : Array Value} {z : Nat × Nat} (h : w.ownsRow B T sz v n xs) (hR : w.heap[R]? = some (.cells cs T' z)) (hT : T ≠ T') : ∀ g, v.ownBlock = some g → g ≠ R := by
  intro g e e2
  rcases h.2 with ⟨hv, _⟩ | ⟨g', _, _, hv, _, hh, _⟩
  · rw [hv] at e; simp [Value.ownBlock] at e
  · have q : g' = g := by rw [hv] at e; simpa [Value.ownBlock] using e
    rw [q, e2, hR] at hh
    injection hh with hh
    injection hh with _ hh
    exact hT hh.symm
theorem RsRel.size {P r1 R : Nat} {f f2 : Int} {vc v : Value} {B n : Nat} {h : Lt → Lt} {ls : List Lt} {w X : World} {iv : Value} (k : RsRel P r1 R f f2 vc v B n h ls w iv X) : w.heap.size ≤ X.heap.size ∧ R < X.heap.size := by
  obtain ⟨j, h1, h2, h3, h4, h5, h6, h7⟩ := k
  exact ⟨h7.size, heap_lt h5⟩
theorem RsRel.grown {P r1 R : Nat} {f f2 : Int} {vc v dv : Value} {B B2 n m : Nat} {h : Lt → Lt} {ls : List Lt} {w X Y : World} {iv : Value} {ds : List Value} (k : RsRel P r1 R f f2 vc v B n h ls w iv X) (hd : X.ownsRow B2 4 1 dv m ds) (hg : X.grownBy Y dv.ownBlock) (hw : w.heap.size ≤ B2) :
    RsRel P r1 R f f2 vc v B n h ls w iv Y := by
  obtain ⟨j, h1, h2, h3, h4, h5, h6, h7⟩ := k
  have e : ∀ (q : Nat) (o : Array Value), X.heap[q]? = some (Obj.cells o 24 (0, 0)) → Y.heap[q]? = X.heap[q]? := fun q o hq => hg.block q (heap_lt hq) (fun e => own_obj_ne hd hq (by decide) q e.symm rfl)
  have e2 : Y.ownsRow B 58 6 v n ((MapL h ls j).flatMap ltCells) := own_kept2' h6 (fun g e1 => hg.block g ((World.ownsRow.lt h6 g e1).2) (fun e3 => own_apart h6 hd (by decide) g e1 e3.symm))
  exact ⟨j, h1, h2, (e _ _ h3).trans h3, (e _ _ h4).trans h4, (e _ _ h5).trans h5, e2, h7.grown hg h7.size (fun q hq => Nat.le_trans hw (World.ownsRow.lt hd q hq).1)⟩

/-- What the reference's TurnOver makes of a letter. -/
def rturnL (l : Lt) : Lt := if l.kind = 2 then ⟨l.kind, l.gate, l.rank, l.id, l.sign, !l.over⟩ else l
def ToRel (P r1 R : Nat) (f : Int) (vc v : Value) (n : Nat) (ls : List Lt) (w : World) (dv iv : Value) (wr : World) : Prop :=
  ∃ j : Nat, j ≤ n ∧ iv = .int .i64 (j : Int) ∧ RsRel P r1 R f f vc v (w.heap.size + 2) n rturnL ls w iv wr ∧ OwnV wr (w.heap.size + 2) 4 dv ((downsL ls j).map Value.bool)

set_option maxHeartbeats 4000000 in
set_option maxRecDepth 100000 in
theorem settle_none (f : Int) (A Ad : Option Addr) (c dc : Nat) (w : World) (hz : A = none → c = 0) (hsp : ∀ a, A = some a → a.spot = none) :
    Calls Tryd.prog 70 #[.agg #[.int .i64 f, .slice A 0 c], .slice Ad 0 dc] w (OkC f 0 [] w) := by
  have HCP : Hid (∀ W, Calls Tryd.prog 71 #[.agg #[.int .i64 f, .slice A 0 c]] W fun e w' => ∃ Av cv, e = .returned (.agg #[.int .i64 f, .slice Av 0 cv]) ∧ w'.ownsRow W.heap.size 58 6 (.slice Av 0 cv) 0 (([] : List Lt).flatMap ltCells) ∧ Below W.heap.size W w') :=
    fun W => refCopy2 f A 0 c [] W ⟨rfl, fun h => absurd h (by omega)⟩ hz hsp (by omega)
  clear hz hsp
  go_enter Tryd.func70, Tryd.ntmps70
  go_wp2_with fail
  obtain ⟨W0, hW0⟩ : ∃ W0, W0 = (w.alloc (.cells #[.int .i64 f, .slice A 0 c] 24)).alloc (.cells #[.int .i64 0, .slice none 0 0] 24) := ⟨_, rfl⟩
  have HF0 := Lib.hid (two_mem w _ _ W0 hW0)
  rw [← hW0]
  clear hW0
  have a0 := Lib.cell_of_heap HF0.out.1 0
  have a1 := Lib.cell_of_heap HF0.out.1 1
  go_loopw [5] (fun iv wr => iv = .int .i64 0 ∧ wr = W0) (fun _ _ => 0)
  case atStart => exact ⟨rfl, rfl⟩
  case round =>
    obtain ⟨rfl, rfl⟩ := hrel
    go_wp2_with fail
    refine (HCP.out _).mono ?_
    rintro e w1 ⟨Av, cv, rfl, ho, hb⟩
    have HM := Lib.hid (two_next HF0.out hb)
    have r0 := Lib.cell_of_heap HM.out.2.1 0
    have r1 := Lib.cell_of_heap HM.out.2.1 1
    have rf : ∀ x, w1.frozen? ⟨w.heap.size + 1, x, none⟩ = false := by intro x; have h1 := HM.out.2.1; simp [World.frozen?, h1]
    have HO := Lib.hid ho
    clear ho hb a0 a1
    go_wp2_with fail
    obtain ⟨X, hX⟩ : ∃ X, X = (w1.setCell ⟨w.heap.size + 1, 0, none⟩ (.int .i64 f)).setCell ⟨w.heap.size + 1, 1, none⟩ (.slice Av 0 cv) := ⟨_, rfl⟩
    obtain ⟨k0, k1, hXB, _, hXK⟩ := res_end HM.out.2.1 (by omega) HM.out.2.2.2 _ _ hX
    rw [← hX]
    exact bodyPost_ret (v := .agg #[.int .i64 f, .slice Av 0 cv]) (by simp [results, Tryd.results70, go_sem, k0, k1]) rfl ⟨Av, cv, rfl, own_base' (own_kept2' HO.out (fun g e => hXK g (by have := (World.ownsRow.lt HO.out g e).1; have := HF0.out.2.2.1; omega))) (by have := HF0.out.2.2.1; omega), hXB⟩

theorem BL.of_ownV {w : World} {B n c : Nat} {A : Option Addr} {ds : List Bool} (h : OwnV w B 4 (.slice A n c) (ds.map Value.bool)) (hn : ds.length = n) : BL w A n ds := by
  rcases h.2 with ⟨hv, h0⟩ | ⟨g, cap, cur, hv, _⟩
  · rw [List.length_map, hn] at h0
    exact ⟨hn, fun hp => by omega⟩
  · injection hv with e1 _ _
    subst e1
    exact BL.of_own (by first | exact h | (unfold OwnV at h ⊢; exact h))

set_option maxHeartbeats 8000000 in
set_option maxRecDepth 100000 in
theorem refTurn_calls (f : Int) (A : Option Addr) (n c I : Nat) (ls : List Lt) (w : World) (hL : LS w A n ls) (hz : A = none → c = 0) (hsp : ∀ a, A = some a → a.spot = none) (hn : n ≤ 1000)
    (hI : 0 < n → I < n ∧ (∀ l, ls[I]? = some l → l.kind = 1) ∧ downB ls I = false ∧ ∀ k l, k < I → ls[k]? = some l → l.kind = 1 → downB ls k = true) :
    Calls Tryd.prog 36 #[.agg #[.int .i64 f, .slice A n c]] w (OkC f n ((ls.map rturnL).drop I ++ (ls.map rturnL).take I) w) := by
  have HLN : Hid (ls.length = n) := hL.1
  have HLL := Lib.hid hL
  have HII := Lib.hid hI
  have HCP : Hid (∀ W, Below w.heap.size w W → Calls Tryd.prog 71 #[.agg #[.int .i64 f, .slice A n c]] W fun e w' => ∃ Av cv, e = .returned (.agg #[.int .i64 f, .slice Av n cv]) ∧ w'.ownsRow W.heap.size 58 6 (.slice Av n cv) n (ls.flatMap ltCells) ∧ Below W.heap.size W w') :=
    fun W hW => refCopy2 f A n c ls W (hL.below hW) hz hsp (by omega)
  have HDN : Hid (∀ W (i : Nat), Below w.heap.size w W → i ≤ n → Calls Tryd.prog 69 #[.agg #[.int .i64 f, .slice A n c], .int .i64 (i : Int)] W fun e w' => e = .returned (.bool (downB ls i)) ∧ Below W.heap.size W w') :=
    fun W i hW hi => down_calls f A n c ls i W (hL.below hW) (by omega) hi
  obtain ⟨i0, hi, hz0, hz1, hz2⟩ := info_parts infoBool
  clear hL hz hsp hI
  go_enter Tryd.func36, Tryd.ntmps36
  go_wp2_with fail
  obtain ⟨W0, hW0⟩ : ∃ W0, W0 = (w.alloc (.cells #[.int .i64 f, .slice A n c] 24)).alloc (.cells #[.int .i64 0, .slice none 0 0] 24) := ⟨_, rfl⟩
  have HF0 := Lib.hid (two_mem w _ _ W0 hW0)
  have HWS : Hid (W0.heap.size = w.heap.size + 2) := by rw [hW0]; unfold Hid; simp
  rw [← hW0]
  clear hW0
  refine (HCP.out _ HF0.out.2.2.2).mono ?_
  rintro e w1 ⟨Av, cv, rfl, ho, hb1⟩
  go_wp2_with fail
  obtain ⟨W1, hW1⟩ : ∃ W1, W1 = w1.alloc (.cells #[.int .i64 f, .slice Av n cv] 24) := ⟨_, rfl⟩
  have hba : Below w1.heap.size w1 W1 := by rw [hW1]; exact (Below.refl _ _).alloc (Nat.le_refl _) _
  have HM1 := Lib.hid (two_next (two_next HF0.out hb1) hba)
  obtain ⟨R, hR⟩ : ∃ R, R = w1.heap.size := ⟨_, rfl⟩
  obtain ⟨P, hP⟩ : ∃ P, P = w.heap.size := ⟨_, rfl⟩
  obtain ⟨r1, hr1⟩ : ∃ r1, r1 = w.heap.size + 1 := ⟨_, rfl⟩
  have HST : Hid (ToRel P r1 R f (.slice A n c) (.slice Av n cv) n ls w (.slice none 0 0) (.int .i64 0) W1) := by
    refine ⟨0, Nat.zero_le _, rfl, ⟨0, Nat.zero_le _, rfl, by rw [hP]; exact HM1.out.1, by rw [hr1]; exact HM1.out.2.1, by rw [hW1, hR]; exact heap_alloc_new w1 _, ?_, HM1.out.2.2.2⟩, World.ownsRow_nil _ _ _ _⟩
    rw [MapL_zero, ← HWS.out]
    exact ownsRow_below ho hba
  have hRw : w.heap.size + 1 < R := by have := (two_next HF0.out hb1).2.2.1; omega
  rw [← hW1, ← hR, ← hr1, ← hP]
  have hwr1 : w.heap.size ≤ r1 := by omega
  have hr1b : r1 < w.heap.size + 2 := by omega
  have hPb : P < w.heap.size + 2 := by omega
  clear hba hW1 hR ho hb1 HM1 hP hr1
  go_loopw [4, 5] (fun dv iv wr => ToRel P r1 R f (.slice A n c) (.slice Av n cv) n ls w dv iv wr) (fun _ iv _ => n - (intOf iv).toNat)
  case atStart => exact HST.out
  case round =>
    obtain ⟨j, hj, rfl, hrs, hdv⟩ := hrel
    have HRS := Lib.hid hrs
    obtain ⟨j', hj', hjj, q1, q2, q3, q4, q5⟩ := hrs
    obtain rfl : j' = j := by injection hjj with _ h; omega
    obtain ⟨Ad, cd, hdve⟩ := own_form hdv
    rw [List.length_map, downsL_len] at hdve
    subst hdve
    have HDV0 := Lib.hid hdv
    have x0 := Lib.cell_of_heap q3 0
    have x1 := Lib.cell_of_heap q3 1
    have y0 := Lib.cell_of_heap q1 0
    have y1 := Lib.cell_of_heap q1 1
    have hjn : j' ≤ n := hj
    by_cases hlt : j' < n
    · obtain ⟨l, hl⟩ : ∃ l, ls[j']? = some l := ⟨_, List.getElem?_eq_getElem (by rw [HLN.out]; exact hlt)⟩
      obtain ⟨gL, rfl⟩ : ∃ gL, Av = some ⟨gL, 0, none⟩ := by
        rcases q4.2 with ⟨_, h0⟩ | ⟨g, cap, cur, hv, _⟩
        · omega
        · injection hv with e1; exact ⟨g, e1⟩
      have hgR : gL ≠ R := row_code_ne q4 q3
      have HAT := Lib.hid (letters_at (MapL_at (h := rturnL) hl))
      have q4' := q4
      have d0 := ownsRow_cell q4' (HAT.out 0 _ rfl)
      have d5 := ownsRow_cell q4' (HAT.out 5 _ rfl)
      have c0 : wr.cell? ⟨gL, j' * 6, none⟩ = some (.int .i64 l.kind) := d0.1
      have c5 : wr.cell? ⟨gL, j' * 6 + 5, none⟩ = some (.bool l.over) := d5.1
      have g5 : wr.frozen? ⟨gL, j' * 6 + 5, none⟩ = false := d5.2.1
      have hgb := d0.2.2
      have hji : (j' : Int) < n := by omega
      have HL := Lib.hid hl
      have hRP : ¬ R = gL := fun e => hgR e.symm
      have hPg : ¬ P = gL := by omega
      have hgD : ∀ g, (Value.slice Ad j' cd).ownBlock = some g → g ≠ gL := fun g e e2 => own_apart q4' hdv (by decide) gL rfl (by rw [← e2]; exact e)
      by_cases hk : l.kind = 2
      · have hke : (l.kind == 2) = true := by rw [beq_iff_eq]; exact hk
        have HREL : Hid (RsRel P r1 R f f (.slice A n c) (.slice (some ⟨gL, 0, none⟩) n cv) (w.heap.size + 2) n rturnL ls w (.int .i64 ((j' : Int) + 1)) (wr.setCell ⟨gL, j' * 6 + 5, none⟩ (.bool (!l.over))).drew) := by
          have e1 := ownsRow_set q4' (j' * 6 + 5) (.bool (!l.over))
          have hh : rturnL l = ⟨l.kind, l.gate, l.rank, l.id, l.sign, !l.over⟩ := by unfold rturnL; rw [if_pos hk]
          rw [letters_set5 (MapL_at hl), ← hh, MapL_set hl] at e1
          exact (RsRel.step (P := P) (r1 := r1) (w := w) (by omega) q1 q2 q3 hPg (by omega) hRP (fun q hq => (Below.heap_setCell _ _ _ q hq)) e1 (q5.setCell (p := ⟨gL, j' * 6 + 5, none⟩) (by show w.heap.size ≤ gL; omega) _)).drew
        have HDV : Hid (OwnV (wr.setCell ⟨gL, j' * 6 + 5, none⟩ (.bool (!l.over))).drew (w.heap.size + 2) 4 (.slice Ad j' cd) ((downsL ls j').map Value.bool)) :=
          own_kept2' (w' := wr.setCell ⟨gL, j' * 6 + 5, none⟩ (.bool (!l.over))) hdv (fun g e => Below.heap_setCell _ _ _ g (hgD g e))
        have HVB : Hid (Below w.heap.size w (wr.setCell ⟨gL, j' * 6 + 5, none⟩ (.bool (!l.over))).drew) := (q5.setCell (p := ⟨gL, j' * 6 + 5, none⟩) (by show w.heap.size ≤ gL; omega) _).drew
        clear hk hl q1 q2 q3 q4 q5 q4' d0 d5 hdv
        go_wp2_with fail
        go_region
        go_wp2_with (first
          | (go_at_call 69; refine (HDN.out _ _ HVB.out hjn).mono ?_; rintro e w2 ⟨rfl, hb⟩; have HK2 := Lib.hid (HREL.out.below hb); have HD2 := Lib.hid (HDV.out.below hb); have HDA : Hid (∀ o, (w2.alloc o).ownsRow (w.heap.size + 2) 4 1 (.slice Ad j' cd) j' ((downsL ls j').map Value.bool)) := (by intro o; have h1 := HD2.out.below ((Below.refl w2.heap.size w2).alloc (Nat.le_refl _) o); unfold OwnV at h1; rw [List.length_map, downsL_len] at h1; exact h1); have hs2 := HK2.out.size; clear hb)
          | (at_builtin; refine wpList_append_own_at _ rfl _ _ 75 rfl (w.heap.size + 2) 4 i0 (.bool false) 1 1 Tryd.underlying75 hi hz0 hz1 hz2 rfl (by decide) (.slice Ad j' cd) j' ((downsL ls j').map Value.bool) rfl (HDA.out _) ⟨w2.heap.size, 0, none⟩ 1 1 [.bool (!downB ls j')] rfl rfl (cell_one_new _ _ _) (by intro u hu; rw [List.mem_singleton] at hu; subst hu; rfl) (by unfold maxLen; omega) (by omega) (by simp; omega) ?_; intro v3 w3 hown3 hgr3 _ _; have H3 := Lib.hid (And.intro hown3 hgr3); clear hown3 hgr3))
        go_roundw
        case rel =>
          have h1 := HK2.out.below ((Below.refl w2.heap.size w2).alloc (Nat.le_refl _) (.cells #[.bool (!downB ls j')] 4))
          have h2 := h1.grown (HDA.out (.cells #[.bool (!downB ls j')] 4)) H3.out.2 (by omega)
          have h3 : ToRel P r1 R f (.slice A n c) (.slice (some ⟨gL, 0, none⟩) n cv) n ls w v3 (.int .i64 ((j' : Int) + 1)) w3 := ⟨j' + 1, by omega, by rw [Int.natCast_add]; rfl, h2, by
            have h4 := H3.out.1
            unfold OwnV
            rw [List.length_map, downsL_len, downsL_succ, List.map_append]
            exact h4⟩
          first | exact h3 | ((repeat (apply Exists.intro)); exact And.intro h3 rfl)
        case measure => simp [intOf]; omega
      · have hke : (l.kind == 2) = false := by rw [beq_eq_false_iff_ne]; exact hk
        have HREL : Hid (RsRel P r1 R f f (.slice A n c) (.slice (some ⟨gL, 0, none⟩) n cv) (w.heap.size + 2) n rturnL ls w (.int .i64 ((j' : Int) + 1)) wr) := ⟨j' + 1, by omega, by rw [Int.natCast_add]; rfl, q1, q2, q3, by rw [MapL_same hl (by unfold rturnL; rw [if_neg hk])]; exact q4, q5⟩
        have HDV : Hid (OwnV wr (w.heap.size + 2) 4 (.slice Ad j' cd) ((downsL ls j').map Value.bool)) := hdv
        have HVB : Hid (Below w.heap.size w wr) := q5
        clear hk hl q1 q2 q3 q4 q5 q4' d0 d5 hdv
        go_wp2_with (first
          | (go_at_call 69; refine (HDN.out _ _ HVB.out hjn).mono ?_; rintro e w2 ⟨rfl, hb⟩; have HK2 := Lib.hid (HREL.out.below hb); have HD2 := Lib.hid (HDV.out.below hb); have HDA : Hid (∀ o, (w2.alloc o).ownsRow (w.heap.size + 2) 4 1 (.slice Ad j' cd) j' ((downsL ls j').map Value.bool)) := (by intro o; have h1 := HD2.out.below ((Below.refl w2.heap.size w2).alloc (Nat.le_refl _) o); unfold OwnV at h1; rw [List.length_map, downsL_len] at h1; exact h1); have hs2 := HK2.out.size; clear hb)
          | (at_builtin; refine wpList_append_own_at _ rfl _ _ 75 rfl (w.heap.size + 2) 4 i0 (.bool false) 1 1 Tryd.underlying75 hi hz0 hz1 hz2 rfl (by decide) (.slice Ad j' cd) j' ((downsL ls j').map Value.bool) rfl (HDA.out _) ⟨w2.heap.size, 0, none⟩ 1 1 [.bool (!downB ls j')] rfl rfl (cell_one_new _ _ _) (by intro u hu; rw [List.mem_singleton] at hu; subst hu; rfl) (by unfold maxLen; omega) (by omega) (by simp; omega) ?_; intro v3 w3 hown3 hgr3 _ _; have H3 := Lib.hid (And.intro hown3 hgr3); clear hown3 hgr3))
        go_roundw
        case rel =>
          have h1 := HK2.out.below ((Below.refl w2.heap.size w2).alloc (Nat.le_refl _) (.cells #[.bool (!downB ls j')] 4))
          have h2 := h1.grown (HDA.out (.cells #[.bool (!downB ls j')] 4)) H3.out.2 (by omega)
          have h3 : ToRel P r1 R f (.slice A n c) (.slice (some ⟨gL, 0, none⟩) n cv) n ls w v3 (.int .i64 ((j' : Int) + 1)) w3 := ⟨j' + 1, by omega, by rw [Int.natCast_add]; rfl, h2, by
            have h4 := H3.out.1
            unfold OwnV
            rw [List.length_map, downsL_len, downsL_succ, List.map_append]
            exact h4⟩
          first | exact h3 | ((repeat (apply Exists.intro)); exact And.intro h3 rfl)
        case measure => simp [intOf]; omega
    · obtain rfl : j' = n := by omega
      have z0 := Lib.cell_of_heap q2 0
      have z1 := Lib.cell_of_heap q2 1
      have zf : ∀ k, wr.frozen? ⟨r1, k, none⟩ = false := fun k => by simp [World.frozen?, q2]
      have hm := MapL_all rturnL ls
      rw [HLN.out] at hm
      have q4' := q4
      rw [hm] at q4'
      have HX : Hid (Calls Tryd.prog 70 #[.agg #[.int .i64 f, .slice Av j' cv], .slice Ad j' cd] wr (OkC f j' ((ls.map rturnL).drop I ++ (ls.map rturnL).take I) wr)) := by
        by_cases h0 : j' = 0
        · subst h0
          have hnil : ls = [] := List.eq_nil_of_length_eq_zero HLN.out
          subst hnil
          have h1 := settle_none f Av Ad cv cd wr (fun e => by
            rcases q4.2 with ⟨hv, _⟩ | ⟨g, cap, cur, hv, _⟩
            · injection hv
            · injection hv with e1; rw [e] at e1; cases e1) (fun a e => by
            rcases q4.2 with ⟨hv, _⟩ | ⟨g, cap, cur, hv, _⟩
            · injection hv with e1; rw [e] at e1; cases e1
            · injection hv with e1; rw [e] at e1; injection e1 with e1; rw [e1])
          have e : (([] : List Lt).map rturnL).drop I ++ (([] : List Lt).map rturnL).take I = [] := by simp
          rw [e]
          exact h1
        · obtain ⟨i1, i2, i3, i4⟩ := HII.out (by omega)
          rcases q4.2 with ⟨_, h1⟩ | ⟨g, cap, cur, hv, _, _, hcap, _⟩
          · omega
          · injection hv with e1 _ e3
            subst e1
            subst e3
            refine settle_calls f g 0 j' cv cd Ad (ls.map rturnL) (downsL ls j') I wr (row_ls q4' (by rw [List.length_map]; exact HLN.out)) (BL.of_ownV hdv (downsL_len _ _)) hcap hn i1 (fun l hl => ?_) ?_ (fun k l hk hl hkk => ?_)
            · rw [List.getElem?_map] at hl
              cases hh : ls[I]? with
              | none => rw [hh] at hl; cases hl
              | some x =>
                rw [hh] at hl
                injection hl with hl
                rw [← hl]
                have := i2 x hh
                unfold rturnL
                rw [if_neg (by omega)]
                exact this
            · unfold downsL
              rw [List.getElem?_map, List.getElem?_range i1, Option.map_some, i3]; rfl
            · unfold downsL
              rw [List.getElem?_map, List.getElem?_range (by omega), Option.map_some]
              rw [List.getElem?_map] at hl
              cases hh : ls[k]? with
              | none => rw [hh] at hl; cases hl
              | some x =>
                rw [hh] at hl
                injection hl with hl
                have hx : x.kind = 1 := by
                  rw [← hl] at hkk
                  unfold rturnL at hkk
                  split at hkk
                  · exact hkk
                  · exact hkk
                rw [i4 k x hk hh hx]; rfl
      have HQ := Lib.hid (And.intro q2 q5)
      have HRL := Lib.hid (heap_lt q2)
      clear q1 q2 q3 q4 q4' q5 hdv hm
      go_wp2_with fail
      refine HX.out.mono ?_
      rintro e w9 ⟨A9, c9, rfl, hL9, hb9⟩
      have hr9 := (hb9.block r1 (heap_lt HQ.out.1)).trans HQ.out.1
      have hB9 := HQ.out.2.trans (hb9.mono HQ.out.2.size)
      have k0' := Lib.cell_of_heap hr9 0
      have k1' := Lib.cell_of_heap hr9 1
      have kf : ∀ k, w9.frozen? ⟨r1, k, none⟩ = false := fun k => by simp [World.frozen?, hr9]
      have HL9 := Lib.hid (And.intro hL9 (And.intro hr9 hB9))
      clear z0 z1 zf hb9 hr9 hL9 hB9
      go_wp2_with fail
      obtain ⟨X, hX⟩ : ∃ X, X = (w9.setCell ⟨r1, 0, none⟩ (.int .i64 f)).setCell ⟨r1, 1, none⟩ (.slice A9 j' c9) := ⟨_, rfl⟩
      obtain ⟨k0, k1, hXB, _, hXK⟩ := res_end HL9.out.2.1 hwr1 HL9.out.2.2 _ _ hX
      rw [← hX]
      refine bodyPost_ret (v := .agg #[.int .i64 f, .slice A9 j' c9]) (by simp [results, Tryd.results36, go_sem, k0, k1]) rfl ⟨A9, c9, rfl, ?_, hXB⟩
      have hrl := HRL.out
      exact own_base' (own_kept2' HL9.out.1 (fun g e => hXK g (by have := (World.ownsRow.lt HL9.out.1 g e).1; omega))) HQ.out.2.size

end Go.Proofs.YtjobnldepblciaaDoor
