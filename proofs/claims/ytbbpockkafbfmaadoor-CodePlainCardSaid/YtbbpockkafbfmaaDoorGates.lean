/-
  OwnV Closed Gates, one after the other.
-/
import Derived.Test.YtbbpockkafbfmaaDoorOther

/-
  Slices of a call's own with elements of one cell; the map of a code as a block that is written.
-/
namespace Go.Proofs.YtbbpockkafbfmaaDoor
open Go.RowKit

/-- The value is a slice of the call's own with these elements. -/
def OwnV (w : World) (B : Nat) (T : TypeId) (v : Value) (vs : List Value) : Prop := w.ownsRow B T 1 v vs.length vs
section
variable {w w' : World} {B g n c : Nat} {T : TypeId} {v : Value} {vs : List Value}
theorem OwnV.below (h : OwnV w B T v vs) (hb : Below w.heap.size w w') : OwnV w' B T v vs := ownsRow_below h hb
theorem OwnV.len (h : OwnV w B T (.slice (some ⟨g, 0, none⟩) n c) vs) : vs.length = n := by
  rcases h.2 with ⟨hv, h0⟩ | ⟨g', cap, cur, hv, _⟩
  · cases hv
  · injection hv with _ e; exact e.symm
/-- What is owned stays owned where its block has not turned. -/
theorem OwnV.kept (h : OwnV w B T (.slice (some ⟨g, 0, none⟩) n c) vs) (hk : w'.heap[g]? = w.heap[g]?) : OwnV w' B T (.slice (some ⟨g, 0, none⟩) n c) vs := by
  refine ⟨h.1, ?_⟩
  rcases h.2 with hn | ⟨g', cap, cur, hv, hg, hh, r⟩
  · exact .inl hn
  · have e : g = g' := by injection hv with e1; injection e1 with e1; injection e1
    subst e
    exact .inr ⟨g, cap, cur, hv, hg, by rw [hk]; exact hh, r⟩
theorem OwnV.cell (h : OwnV w B T (.slice (some ⟨g, 0, none⟩) n c) vs) {k : Nat} (hk : k < n) :
    ∃ x, vs[k]? = some x ∧ w.cell? ⟨g, k, none⟩ = some x ∧ w.frozen? ⟨g, k, none⟩ = false ∧ B ≤ g ∧ g < w.heap.size := by
  have hl := h.len
  have hx : vs[k]? = some vs[k] := List.getElem?_eq_getElem (by omega)
  have hc := h.cells (g := g) rfl k _ hx
  rw [Go.WideShapes.add_plain, Nat.zero_add] at hc
  refine ⟨_, hx, hc, ?_, (h.lt g rfl).1, (h.lt g rfl).2⟩
  rcases h.2 with ⟨hv, h0⟩ | ⟨g', cap, cur, hv, hg, hh, _⟩
  · cases hv
  · injection hv with e1
    injection e1 with e1
    injection e1 with e1
    subst e1
    simp [World.frozen?, hh]
theorem OwnV.set (h : OwnV w B T (.slice (some ⟨g, 0, none⟩) n c) vs) {k : Nat} (hk : k < n) (x : Value) : OwnV (w.setCell ⟨g, k, none⟩ x) B T (.slice (some ⟨g, 0, none⟩) n c) (vs.set k x) := by
  have hl := h.len
  subst hl
  rcases h.2 with ⟨hv, h0⟩ | ⟨g', cap, cur, hv, hg, hh, hc, hm, hs, ht⟩
  · cases hv
  · injection hv with e1 e2 e3
    injection e1 with e1
    injection e1 with e1
    subst e1; subst e3
    refine ⟨by simp, .inr ⟨g, c, cur.setIfInBounds k x, by simp, hg, ?_, by simpa using hc, hm, by simpa using hs, ?_⟩⟩
    · simp [World.setCell, Array.getElem?_modify, hh]
    · rw [Nat.mul_one] at ht ⊢
      rw [List.length_set, Array.toList_setIfInBounds, List.take_set, ht]
end

theorem infoBool : (Tryd.prog.info? 4).map (fun i => (i.zero, i.size, i.bytes)) = some (some (.bool false), 1, 1) := by kernel_rfl
theorem madeCells_bools (n : Nat) : (madeCells (Value.bool false).cells (n * 1)).toList = List.replicate n (Value.bool false) := by
  apply List.ext_getElem
  · simp [madeCells]
  · intro i h1 h2
    simp [madeCells, Value.cells, Nat.mod_one]
theorem wpList_make_bools {w : World} {ops : Array Oper} {rest : List Oper} {o : Oper} {a : Act} {Q : Exit → Act → World → Prop} (hgd : o.guard = none) (l c : Operand) (ho : o.op = Op.makeSlice 102 l c)
    (n : Nat) (hl : a.eval l = .int .i64 n) (hc : a.eval c = .int .i64 n) (hn : n ≤ 100000)
    (hK : ∀ w', OwnV w' w.heap.size 4 (.slice (some ⟨w.heap.size, 0, none⟩) n n) (List.replicate n (.bool false)) → Below w.heap.size w w' → wpList Tryd.prog ops Q rest (a.put o.dst (.slice (some ⟨w.heap.size, 0, none⟩) n n)) w') :
    wpList Tryd.prog ops Q (o :: rest) a w := by
  obtain ⟨i0, hi, hz0, hz1, hz2⟩ := info_parts infoBool
  refine wpList_make_full w hgd l c 102 ho w.heap.size 4 i0 (.bool false) 1 Tryd.underlying102 hi hz0 hz1 .i64 .i64 n n n hl hc rfl rfl (by rw [hz2]; omega) (by unfold maxLen; omega) (Nat.le_refl _) ?_
  intro w' h1 h2
  refine hK w' ?_ ((Below.refl _ _).grown h2 (Nat.le_refl _) (fun k hk => by cases hk))
  unfold OwnV
  rw [List.length_replicate, ← madeCells_bools]
  exact h1

/-- The map of a code as a block: its cells can be written. -/
def DiaB (w : World) (P : Nat) (f : Int) (vL vA vX vS vO : Value) : Prop := ∃ T, w.heap[P]? = some (.cells #[.int .i64 f, vL, vA, vX, vS, vO] T (0, 0))
section
variable {w w' : World} {P : Nat} {f : Int} {vL vA vX vS vO : Value}
theorem DiaB.dia (h : DiaB w P f vL vA vX vS vO) : Dia w P f vL vA vX vS vO := by
  obtain ⟨T, h⟩ := h
  refine ⟨?_, Lib.cell_of_heap h 0, Lib.cell_of_heap h 1, Lib.cell_of_heap h 2, Lib.cell_of_heap h 3, Lib.cell_of_heap h 4, Lib.cell_of_heap h 5⟩
  rcases Nat.lt_or_ge P w.heap.size with q | q
  · exact q
  · rw [Array.getElem?_eq_none q] at h; cases h
theorem DiaB.frozen (h : DiaB w P f vL vA vX vS vO) (k : Nat) : w.frozen? ⟨P, k, none⟩ = false := by
  obtain ⟨T, h⟩ := h
  simp [World.frozen?, h]
theorem DiaB.kept (h : DiaB w P f vL vA vX vS vO) (hk : w'.heap[P]? = w.heap[P]?) : DiaB w' P f vL vA vX vS vO := by
  obtain ⟨T, h⟩ := h
  exact ⟨T, by rw [hk]; exact h⟩
theorem DiaB.setA (h : DiaB w P f vL vA vX vS vO) (v : Value) : DiaB (w.setCell ⟨P, 2, none⟩ v) P f vL v vX vS vO := by
  obtain ⟨T, h⟩ := h
  exact ⟨T, by simp [World.setCell, Array.getElem?_modify, h]⟩
theorem DiaB.setX (h : DiaB w P f vL vA vX vS vO) (v : Value) : DiaB (w.setCell ⟨P, 3, none⟩ v) P f vL vA v vS vO := by
  obtain ⟨T, h⟩ := h
  exact ⟨T, by simp [World.setCell, Array.getElem?_modify, h]⟩
theorem DiaB.setS (h : DiaB w P f vL vA vX vS vO) (v : Value) : DiaB (w.setCell ⟨P, 4, none⟩ v) P f vL vA vX v vO := by
  obtain ⟨T, h⟩ := h
  exact ⟨T, by simp [World.setCell, Array.getElem?_modify, h]⟩
theorem DiaB.setO (h : DiaB w P f vL vA vX vS vO) (v : Value) : DiaB (w.setCell ⟨P, 5, none⟩ v) P f vL vA vX vS v := by
  obtain ⟨T, h⟩ := h
  exact ⟨T, by simp [World.setCell, Array.getElem?_modify, h]⟩
end

/-- On which side of the axis the edges lie. -/
def aboveL (ls : List Lt) : List Bool := (List.range ls.length).map fun k => decide (cntB isPass (ls.take (k + 1)) % 2 = 0)

end Go.Proofs.YtbbpockkafbfmaaDoor

/-
  The walk of the map's method closed.
-/
namespace Go.Proofs.YtbbpockkafbfmaaDoor
open Go.RowKit

theorem LS.kept {w w' : World} {b off n : Nat} {ls : List Lt} (h : LS w (some ⟨b, off, none⟩) n ls) (hs : w.heap.size ≤ w'.heap.size) (hk : w'.heap[b]? = w.heap[b]?) : LS w' (some ⟨b, off, none⟩) n ls :=
  ⟨h.1, fun hn => by
    obtain ⟨b', off', hA, hlt, hc⟩ := h.2 hn
    injection hA with hA
    injection hA with e1 e2
    subst e1; subst e2
    have e : ∀ o, w'.cell? ⟨b, o, none⟩ = w.cell? ⟨b, o, none⟩ := fun o => World.cell?_of_block (w := w) hk
    refine ⟨b, off, rfl, Nat.lt_of_lt_of_le hlt hs, fun k l hk => ?_⟩
    obtain ⟨c0, c1, c2, c3, c4, c5⟩ := hc k l hk
    exact ⟨(e _).trans c0, (e _).trans c1, (e _).trans c2, (e _).trans c3, (e _).trans c4, (e _).trans c5⟩⟩
theorem LS.kept2 {w w' : World} {A : Option Addr} {n : Nat} {ls : List Lt} (h : LS w A n ls) (hs : w.heap.size ≤ w'.heap.size) (hk : ∀ b off, A = some ⟨b, off, none⟩ → b < w.heap.size → w'.heap[b]? = w.heap[b]?) : LS w' A n ls :=
  ⟨h.1, fun hn => by
    obtain ⟨b, off, hA, hlt, hc⟩ := h.2 hn
    have e : ∀ o, w'.cell? ⟨b, o, none⟩ = w.cell? ⟨b, o, none⟩ := fun o => World.cell?_of_block (w := w) (hk b off hA hlt)
    refine ⟨b, off, hA, Nat.lt_of_lt_of_le hlt hs, fun k l hk => ?_⟩
    obtain ⟨c0, c1, c2, c3, c4, c5⟩ := hc k l hk
    exact ⟨(e _).trans c0, (e _).trans c1, (e _).trans c2, (e _).trans c3, (e _).trans c4, (e _).trans c5⟩⟩
theorem fill_bool {bs : List Bool} {n j : Nat} {x : Bool} (hl : bs.length = n) (hj : j < n) (hx : bs[j]? = some x) :
    ((bs.take j).map Value.bool ++ List.replicate (n - j) (Value.bool false)).set j (.bool x) = (bs.take (j + 1)).map Value.bool ++ List.replicate (n - (j + 1)) (Value.bool false) := by
  have h1 : ((bs.take j).map Value.bool).length = j := by rw [List.length_map, List.length_take]; omega
  rw [List.set_append_right _ _ (by omega), h1, Nat.sub_self, show n - j = (n - (j + 1)) + 1 by omega, List.replicate_succ, List.set_cons_zero, List.take_add_one, hx]
  simp
theorem aboveL_at {ls : List Lt} {j : Nat} (h : j < ls.length) : (aboveL ls)[j]? = some (decide (cntB isPass (ls.take (j + 1)) % 2 = 0)) := by
  unfold aboveL
  rw [List.getElem?_map, List.getElem?_range h]
  rfl
theorem above_step {ls : List Lt} {j : Nat} {l : Lt} (h : ls[j]? = some l) : decide (cntB isPass (ls.take (j + 1)) % 2 = 0) = if l.kind = 1 then !decide (cntB isPass (ls.take j) % 2 = 0) else decide (cntB isPass (ls.take j) % 2 = 0) := by
  rw [cntB_succ h]
  by_cases e : l.kind = 1
  · rw [if_pos e, if_pos (by simp [isPass, e]), Bool.eq_iff_iff, decide_eq_true_eq, Bool.not_eq_true', decide_eq_false_iff_not]
    omega
  · rw [if_neg e, if_neg (by simp [isPass, e]), Int.add_zero]

def ClRel (ls : List Lt) (n P g : Nat) (f : Int) (vL vX vS vO : Value) (w0 : World) (v iv : Value) (wr : World) : Prop :=
  ∃ j : Nat, j ≤ n ∧ iv = .int .i64 j ∧ v = .bool (decide (cntB isPass (ls.take j) % 2 = 0)) ∧ DiaB wr P f vL (.slice (some ⟨g, 0, none⟩) n n) vX vS vO ∧
    OwnV wr g 4 (.slice (some ⟨g, 0, none⟩) n n) (((aboveL ls).take j).map Value.bool ++ List.replicate (n - j) (.bool false)) ∧ (∀ k, k < g → k ≠ P → wr.heap[k]? = w0.heap[k]?) ∧ Below P w0 wr
/-- What closed leaves. -/
def ClosedPost (ls : List Lt) (n P : Nat) (f : Int) (vL vX vS vO : Value) (w : World) (e : Ending) (w' : World) : Prop :=
  e = .returned (.bool (decide (n = 0) || (ls.head?.any isPass && decide (cntB isPass ls % 2 = 0)))) ∧ DiaB w' P f vL (.slice (some ⟨w.heap.size, 0, none⟩) n n) vX vS vO ∧
    OwnV w' w.heap.size 4 (.slice (some ⟨w.heap.size, 0, none⟩) n n) ((aboveL ls).map Value.bool) ∧ (∀ k, k < w.heap.size → k ≠ P → w'.heap[k]? = w.heap[k]?) ∧ Below P w w'

set_option maxHeartbeats 4000000 in
set_option maxRecDepth 100000 in
theorem closed_calls (P : Nat) (f : Int) (A : Option Addr) (n c : Nat) (ls : List Lt) (vA vX vS vO : Value) (w : World) (h : DiaB w P f (.slice A n c) vA vX vS vO) (hL : LS w A n ls) (hbP : ∀ b off, A = some ⟨b, off, none⟩ → b ≠ P) (hn : n ≤ 1000) :
    Calls Tryd.prog 78 #[.pointer (some ⟨P, 0, none⟩)] w (ClosedPost ls n P f (.slice A n c) vX vS vO w) := by
  have HD := Lib.hid h
  have HLS := Lib.hid hL
  have HL := Lib.hid hL.1
  have HBP := Lib.hid hbP
  obtain ⟨hP, p0, p1, p2, p3, p4, p5⟩ := h.dia
  have HPP := Lib.hid hP
  go_enter Tryd.func78, Tryd.ntmps78
  go_wp2_with (at_make; refine wpList_make_bools rfl _ _ rfl n rfl rfl (by omega) ?_; intro w1 hown1 hb1; have HD1 := Lib.hid (HD.out.kept (hb1.block P hP)); have f2 := HD1.out.frozen 2; obtain ⟨r, r0, r1, r2, r3, r4, r5⟩ := HD1.out.dia; have HO1 := Lib.hid hown1; have HB1 := Lib.hid hb1; clear hown1 hb1 p0 p1 p2 p3 p4 p5)
  clear r r0 r1 r2 r3 r4 r5 f2 hP hL h
  have HW1 : Hid (ClRel ls n P w.heap.size f (.slice A n c) vX vS vO w (.bool true) (.int .i64 0) (w1.setCell ⟨P, 2, none⟩ (.slice (some ⟨w.heap.size, 0, none⟩) n n))) := by
    refine ⟨0, Nat.zero_le _, rfl, rfl, HD1.out.setA _, ?_, fun k hk hne => ?_, (HB1.out.mono (Nat.le_of_lt HPP.out)).setCell (p := ⟨P, 2, none⟩) (Nat.le_refl _) _⟩
    · have h1 := HO1.out.kept (w' := w1.setCell ⟨P, 2, none⟩ (.slice (some ⟨w.heap.size, 0, none⟩) n n)) (Below.heap_setCell w1 ⟨P, 2, none⟩ _ w.heap.size (by have := HPP.out; simp; omega))
      simpa using h1
    · exact (Below.heap_setCell w1 ⟨P, 2, none⟩ _ k hne).trans (HB1.out.block k hk)
  obtain ⟨W1, hW1⟩ : ∃ W1, W1 = w1.setCell ⟨P, 2, none⟩ (.slice (some ⟨w.heap.size, 0, none⟩) n n) := ⟨_, rfl⟩
  obtain ⟨g, hg⟩ : ∃ g, g = w.heap.size := ⟨_, rfl⟩
  unfold ClosedPost
  rw [← hW1] at HW1 ⊢
  rw [← hg] at HW1 HPP ⊢
  clear hW1
  have HG := Lib.hid hg
  clear hg HO1 HB1 HD1
  go_loopw [3, 22] (fun v iv wr => ClRel ls n P g f (.slice A n c) vX vS vO w v iv wr) (fun _ iv _ => n - (intOf iv).toNat)
  case atStart => exact HW1.out
  case round =>
    obtain ⟨j, hj, rfl, rfl, hdia, hown, hkeep, hbel⟩ := hrel
    have HDJ := Lib.hid hdia
    have HOJ := Lib.hid hown
    have HK := Lib.hid hkeep
    have HBJ := Lib.hid hbel
    have hsz : g ≤ wr.heap.size := by have := hbel.size; have := HG.out; omega
    have HLJ := Lib.hid (HLS.out.kept2 hbel.size (fun b off e hb => hkeep b (by rw [HG.out]; exact hb) (HBP.out b off e)))
    obtain ⟨hP, p0, p1, p2, p3, p4, p5⟩ := hdia.dia
    clear hdia hown hkeep hbel
    by_cases hlt : j < n
    · obtain ⟨bb, oo, l, rfl, hbl, hl, c0, c1, c2, c3, c4, c5⟩ := HLJ.out.at_ hlt
      obtain ⟨y, hy, hyc, hyf, _, hgs⟩ := HOJ.out.cell (k := j) hlt
      have hj1 : (j : Int) < n := by omega
      have HST := Lib.hid (above_step hl)
      have HFB := Lib.hid (fill_bool (bs := aboveL ls) (n := n) (by simp [aboveL, HL.out]) hlt (aboveL_at (by rw [HL.out]; exact hlt)))
      obtain ⟨av, hav⟩ : ∃ av, decide (cntB isPass (ls.take j) % 2 = 0) = av := ⟨_, rfl⟩
      rw [hav] at HST ⊢
      have HREL : Hid (∀ o, ClRel ls n P g f (.slice (some ⟨bb, oo, none⟩) n c) vX vS vO w (.bool (decide (cntB isPass (ls.take (j + 1)) % 2 = 0))) (.int .i64 ((j : Int) + 1)) ((wr.setCell ⟨g, j, none⟩ (.bool (decide (cntB isPass (ls.take (j + 1)) % 2 = 0)))).alloc o)) := by
        intro o
        obtain ⟨wx, hwx⟩ : ∃ wx, wx = wr.setCell ⟨g, j, none⟩ (.bool (decide (cntB isPass (ls.take (j + 1)) % 2 = 0))) := ⟨_, rfl⟩
        have hxs : wx.heap.size = wr.heap.size := by rw [hwx]; simp
        have hxk : ∀ k, k ≠ g → wx.heap[k]? = wr.heap[k]? := fun k hk => by rw [hwx]; exact Below.heap_setCell _ _ _ k hk
        have hxo : OwnV wx g 4 (.slice (some ⟨g, 0, none⟩) n n) (((aboveL ls).take (j + 1)).map Value.bool ++ List.replicate (n - (j + 1)) (.bool false)) := by
          have h1 := HOJ.out.set (k := j) hlt (.bool (decide (cntB isPass (ls.take (j + 1)) % 2 = 0)))
          rw [HFB.out, ← hwx] at h1
          exact h1
        have hxb : Below P w wx := by rw [hwx]; exact HBJ.out.setCell (p := ⟨g, j, none⟩) (Nat.le_of_lt HPP.out) _
        rw [← hwx]
        have hba : Below wx.heap.size wx (wx.alloc o) := (Below.refl _ _).alloc (Nat.le_refl _) _
        refine ⟨j + 1, by omega, by rw [Int.natCast_add]; rfl, rfl, ?_, hxo.below hba, fun k hk hne => ?_, hxb.alloc (by have := HPP.out; omega) _⟩
        · exact (HDJ.out.kept (hxk P (by have := HPP.out; omega))).kept (hba.block P (by omega))
        · exact (hba.block k (by omega)).trans ((hxk k (by omega)).trans (HK.out k hk hne))
      clear hl hy hav
      have hne1 : ¬ g = wr.heap.size := by omega
      by_cases hk : l.kind = 1
      · have hke : (l.kind == 1) = true := by rw [beq_iff_eq]; exact hk
        have HST2 : Hid (decide (cntB isPass (ls.take (j + 1)) % 2 = 0) = !av) := by unfold Hid; rw [HST.out, if_pos hk]
        rw [HST2.out] at HREL
        clear hk
        go_wp2_with fail
        go_roundw
        case rel => exact HREL.out _
        case measure => simp [intOf]; omega
      · have hke : (l.kind == 1) = false := by rw [beq_eq_false_iff_ne]; exact hk
        have HST2 : Hid (decide (cntB isPass (ls.take (j + 1)) % 2 = 0) = av) := by unfold Hid; rw [HST.out, if_neg hk]
        rw [HST2.out] at HREL
        clear hk
        go_wp2_with fail
        go_roundw
        case rel => exact HREL.out _
        case measure => simp [intOf]; omega
    · have hjn : j = n := by omega
      subst hjn
      have HOE : Hid (OwnV wr g 4 (.slice (some ⟨g, 0, none⟩) j j) ((aboveL ls).map Value.bool)) := by
        have h1 := HOJ.out
        rw [List.take_of_length_le (by simp [aboveL, HL.out]), Nat.sub_self] at h1
        unfold Hid
        simpa using h1
      obtain ⟨av, hav⟩ : ∃ av, decide (cntB isPass (ls.take j) % 2 = 0) = av := ⟨_, rfl⟩
      rw [hav]
      have HAV : Hid (decide (cntB isPass ls % 2 = 0) = av) := by
        have h1 := hav
        rw [List.take_of_length_le (by rw [HL.out]; omega)] at h1
        exact h1
      clear hav
      by_cases hz : j = 0
      · have hz1 : (j : Int) = 0 := by omega
        go_wp2_with fail
        go_ret
        refine ⟨ret_bool2 ?_, by rw [← HG.out]; exact HDJ.out, by rw [← HG.out]; exact HOE.out, by rw [← HG.out]; exact HK.out, HBJ.out⟩
        simp [hz]
      have hn0 : 0 < j := by omega
      have hz2 : ((j : Int) == 0) = false := by rw [beq_eq_false_iff_ne]; omega
      obtain ⟨bb, oo, l, rfl, hbl, hl, c0, c1, c2, c3, c4, c5⟩ := HLJ.out.at_ hn0
      have hj0 : (0 : Int) < j := by omega
      have HHD : Hid (ls.head?.any isPass = isPass l) := by
        unfold Hid
        rw [List.head?_eq_getElem?, hl]
        rfl
      clear hl
      simp only [Nat.zero_mul, Nat.add_zero] at c0 c1 c2 c3 c4 c5
      by_cases hk : l.kind = 1
      · have hke : (l.kind == 1) = true := by rw [beq_iff_eq]; exact hk
        have HP1 : Hid (isPass l = true) := by unfold Hid isPass; simp [hk]
        clear hk
        go_wp2_with fail
        go_ret
        refine ⟨ret_bool2 ?_, by rw [← HG.out]; exact HDJ.out, by rw [← HG.out]; exact HOE.out, by rw [← HG.out]; exact HK.out, HBJ.out⟩
        rw [HHD.out, HP1.out, HAV.out]
        simp [hz]
      · have hke : (l.kind == 1) = false := by rw [beq_eq_false_iff_ne]; exact hk
        have HP1 : Hid (isPass l = false) := by unfold Hid isPass; simp [hk]
        clear hk
        go_wp2_with fail
        go_ret
        refine ⟨ret_bool2 ?_, by rw [← HG.out]; exact HDJ.out, by rw [← HG.out]; exact HOE.out, by rw [← HG.out]; exact HK.out, HBJ.out⟩
        rw [HHD.out, HP1.out]
        simp [hz]

end Go.Proofs.YtbbpockkafbfmaaDoor

/-
  The walk of gates: the number of passes of each gate.
-/
namespace Go.Proofs.YtbbpockkafbfmaaDoor
open Go.RowKit

theorem infoInt' : (Tryd.prog.info? 3).map (fun i => (i.zero, i.size, i.bytes)) = some (some (.int .i64 0), 1, 8) := by kernel_rfl
theorem madeCells_ints' (n : Nat) : (madeCells (Value.int .i64 0).cells (n * 1)).toList = List.replicate n (Value.int .i64 0) := by
  apply List.ext_getElem
  · simp [madeCells]
  · intro i h1 h2
    simp [madeCells, Value.cells, Nat.mod_one]
theorem wpList_make_intsV {w : World} {ops : Array Oper} {rest : List Oper} {o : Oper} {a : Act} {Q : Exit → Act → World → Prop} (hgd : o.guard = none) (l c : Operand) (ho : o.op = Op.makeSlice 28 l c)
    (n : Nat) (m : Int) (hm : m = n) (hl : a.eval l = .int .i64 m) (hc : a.eval c = .int .i64 m) (hn : n ≤ 100000)
    (hK : ∀ w', OwnV w' w.heap.size 3 (.slice (some ⟨w.heap.size, 0, none⟩) n n) (List.replicate n (.int .i64 0)) → Below w.heap.size w w' → wpList Tryd.prog ops Q rest (a.put o.dst (.slice (some ⟨w.heap.size, 0, none⟩) n n)) w') :
    wpList Tryd.prog ops Q (o :: rest) a w := by
  obtain ⟨i0, hi, hz0, hz1, hz2⟩ := info_parts infoInt'
  refine wpList_make_full w hgd l c 28 ho w.heap.size 3 i0 (.int .i64 0) 1 Tryd.underlying28 hi hz0 hz1 .i64 .i64 m m n hl hc hm hm (by rw [hz2]; omega) (by unfold maxLen; omega) (Nat.le_refl _) ?_
  intro w' h1 h2
  refine hK w' ?_ ((Below.refl _ _).grown h2 (Nat.le_refl _) (fun k hk => by cases hk))
  unfold OwnV
  rw [List.length_replicate, ← madeCells_ints']
  exact h1

/-- The passes of each gate, among the first j letters. -/
def gatesL (m : Nat) (ls : List Lt) (j : Nat) : List Value := (List.range m).map fun (g : Nat) => .int .i64 (cntB (inGate (g : Int)) (ls.take j))
theorem gatesL_len (m : Nat) (ls : List Lt) (j : Nat) : (gatesL m ls j).length = m := by simp [gatesL]
theorem gatesL_zero (m : Nat) (ls : List Lt) : gatesL m ls 0 = List.replicate m (.int .i64 0) := by
  apply List.ext_getElem
  · simp [gatesL]
  · intro i h1 h2
    simp [gatesL, cntB]
theorem gatesL_at {m : Nat} {ls : List Lt} {j g : Nat} (hg : g < m) : (gatesL m ls j)[g]? = some (.int .i64 (cntB (inGate (g : Int)) (ls.take j))) := by
  unfold gatesL
  rw [List.getElem?_map, List.getElem?_range hg]
  rfl
theorem gatesL_pass {m : Nat} {ls : List Lt} {j g : Nat} {l : Lt} (hl : ls[j]? = some l) (hk : l.kind = 1) (hg : l.gate = (g : Int)) (hgm : g < m) :
    (gatesL m ls j).set g (.int .i64 (cntB (inGate (g : Int)) (ls.take j) + 1)) = gatesL m ls (j + 1) := by
  apply List.ext_getElem?
  intro i
  by_cases hi : i < m
  · rw [gatesL_at hi, cntB_succ hl]
    by_cases e : i = g
    · subst e
      rw [List.getElem?_set_self (by rw [gatesL_len]; exact hi), if_pos (by simp [inGate, hk, hg])]
    · rw [List.getElem?_set_ne (fun c => e c.symm), gatesL_at hi, if_neg (by simp [inGate, hk, hg]; omega), Int.add_zero]
  · rw [List.getElem?_eq_none (by rw [List.length_set, gatesL_len]; omega), List.getElem?_eq_none (by rw [gatesL_len]; omega)]
theorem gatesL_other {m : Nat} {ls : List Lt} {j : Nat} {l : Lt} (hl : ls[j]? = some l) (hk : ¬ l.kind = 1) : gatesL m ls j = gatesL m ls (j + 1) := by
  unfold gatesL
  refine List.map_congr_left fun g _ => ?_
  rw [cntB_succ hl, if_neg (by simp [inGate, hk]), Int.add_zero]

def GaRel (ls : List Lt) (n m g : Nat) (w0 : World) (iv : Value) (wr : World) : Prop :=
  ∃ j : Nat, j ≤ n ∧ iv = .int .i64 j ∧ OwnV wr g 3 (.slice (some ⟨g, 0, none⟩) m m) (gatesL m ls j) ∧ Below g w0 wr ∧ g < wr.heap.size

set_option maxHeartbeats 4000000 in
set_option maxRecDepth 100000 in
theorem gates_calls (fn : Nat) (A : Option Addr) (n c : Nat) (ls : List Lt) (w : World) (h : LS w A n ls) (hn : n ≤ 1000) (hf : fn ≤ 40) (hg : ∀ l, l ∈ ls → l.kind = 1 → 0 ≤ l.gate ∧ l.gate ≤ fn) :
    Calls Tryd.prog 73 #[.agg #[.int .i64 (fn : Int), .slice A n c]] w fun e w' => ∃ g, e = .returned (.slice (some ⟨g, 0, none⟩) (fn + 1) (fn + 1)) ∧ w.heap.size ≤ g ∧ OwnV w' g 3 (.slice (some ⟨g, 0, none⟩) (fn + 1) (fn + 1)) (gatesL (fn + 1) ls n) ∧ Below w.heap.size w w' := by
  have HLS := Lib.hid h
  have HL := Lib.hid h.1
  have HGT := Lib.hid hg
  clear hg h
  go_enter Tryd.func73, Tryd.ntmps73
  go_wp2_with (at_make; refine wpList_make_intsV rfl _ _ rfl (fn + 1) ((fn : Int) + 1) (by omega) rfl rfl (by omega) ?_; intro w1 hown1 hb1; obtain ⟨x, x0, x1⟩ := (Box.made w (fn : Int) A n c 33).below hb1; have HO1 := Lib.hid hown1; have HB1 := Lib.hid hb1; clear hown1 hb1)
  clear x0 x1 x
  have HBW : Hid (Below w.heap.size w w1) := ((Below.refl w.heap.size w).alloc (Nat.le_refl _) (.cells #[.int .i64 (fn : Int), .slice A n c] 33)).trans (HB1.out.mono (by simp))
  have HO2 : Hid (OwnV w1 (w.heap.size + 1) 3 (.slice (some ⟨w.heap.size + 1, 0, none⟩) (fn + 1) (fn + 1)) (gatesL (fn + 1) ls 0)) := by
    unfold Hid
    rw [gatesL_zero]
    have h1 := HO1.out
    simpa using h1
  obtain ⟨g, hg⟩ : ∃ g, g = w.heap.size + 1 := ⟨_, rfl⟩
  have hgw : w.heap.size < g := by omega
  rw [← hg] at HO2 ⊢
  clear hg HO1 HB1
  have HGW := Lib.hid hgw
  clear hgw
  have hg1 : g < w1.heap.size := (HO2.out.cell (k := 0) (by omega)).choose_spec.2.2.2.2
  have HG1 := Lib.hid hg1
  clear hg1
  go_loopw [13] (fun iv wr => GaRel ls n (fn + 1) g w1 iv wr) (fun iv _ => n - (intOf iv).toNat)
  case atStart => exact ⟨0, Nat.zero_le _, rfl, HO2.out, Below.refl _ _, HG1.out⟩
  case round =>
    obtain ⟨j, hj, rfl, hown, hb, hgs⟩ := hrel
    have HO := Lib.hid hown
    have HB := Lib.hid hb
    have HBR := Lib.hid (HBW.out.trans (hb.mono (Nat.le_of_lt HGW.out)))
    clear hown hb
    by_cases hlt : j < n
    · obtain ⟨b, off, l, rfl, hbl, hl, c0, c1, c2, c3, c4, c5⟩ := (HLS.out.below HBR.out).at_ hlt
      have hj1 : (j : Int) < n := by omega
      by_cases hk : l.kind = 1
      · have hke : (l.kind == 1) = true := by rw [beq_iff_eq]; exact hk
        have hgr := HGT.out l (List.mem_of_getElem? hl) hk
        obtain ⟨gn, hgn⟩ := Int.eq_ofNat_of_zero_le hgr.1
        have hgm : gn < fn + 1 := by omega
        have hgi : (gn : Int) < (fn : Int) + 1 := by omega
        obtain ⟨y, hy, hyc, hyf, _, hgs2⟩ := HO.out.cell (k := gn) hgm
        obtain rfl : y = .int .i64 (cntB (inGate (gn : Int)) (ls.take j)) := by rw [gatesL_at hgm] at hy; injection hy with hy; exact hy.symm
        have b0 := cntB_nonneg (inGate (gn : Int)) (ls.take j)
        have b1 := cntB_take_le (inGate (gn : Int)) ls j
        have HST := Lib.hid (gatesL_pass hl hk hgn hgm)
        obtain ⟨cv, hcv⟩ : ∃ cv, cntB (inGate (gn : Int)) (ls.take j) = cv := ⟨_, rfl⟩
        rw [hcv] at hyc b0 b1 HST
        rw [hgn] at c1
        have HREL : Hid (∀ o, GaRel ls n (fn + 1) g w1 (.int .i64 ((j : Int) + 1)) ((wr.setCell ⟨g, gn, none⟩ (.int .i64 (cv + 1))).alloc o)) := by
          intro o
          have hba : Below (wr.setCell ⟨g, gn, none⟩ (.int .i64 (cv + 1))).heap.size (wr.setCell ⟨g, gn, none⟩ (.int .i64 (cv + 1))) ((wr.setCell ⟨g, gn, none⟩ (.int .i64 (cv + 1))).alloc o) := (Below.refl _ _).alloc (Nat.le_refl _) _
          have h1 := HO.out.set (k := gn) hgm (.int .i64 (cv + 1))
          rw [HST.out] at h1
          exact ⟨j + 1, by omega, by rw [Int.natCast_add]; rfl, h1.below hba, (HB.out.setCell (p := ⟨g, gn, none⟩) (Nat.le_refl _) _).alloc (by simp; omega) _, by simp; omega⟩
        clear hl hy hk hgn hgr hcv
        have hne1 : ¬ g = wr.heap.size := by omega
        go_wp2_with fail
        go_roundw
        case rel => exact HREL.out _
        case measure => simp [intOf]; omega
      · have hke : (l.kind == 1) = false := by rw [beq_eq_false_iff_ne]; exact hk
        have HST := Lib.hid (gatesL_other (m := fn + 1) hl hk)
        have HREL : Hid (∀ o, GaRel ls n (fn + 1) g w1 (.int .i64 ((j : Int) + 1)) (wr.alloc o)) := by
          intro o
          have hba : Below wr.heap.size wr (wr.alloc o) := (Below.refl _ _).alloc (Nat.le_refl _) _
          have h1 := HO.out.below hba
          rw [HST.out] at h1
          exact ⟨j + 1, by omega, by rw [Int.natCast_add]; rfl, h1, HB.out.alloc (by omega) _, by simp; omega⟩
        clear hl hk
        go_wp2_with fail
        go_roundw
        case rel => exact HREL.out _
        case measure => simp [intOf]; omega
    · have hjn : j = n := by omega
      subst hjn
      go_wp2_with fail
      go_ret
      exact ⟨g, rfl, Nat.le_of_lt HGW.out, HO.out, HBR.out⟩

end Go.Proofs.YtbbpockkafbfmaaDoor
