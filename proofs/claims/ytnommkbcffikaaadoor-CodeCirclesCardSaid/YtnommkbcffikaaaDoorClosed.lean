/-
  The walk of the map's method closed.
-/
import Derived.Test.YtnommkbcffikaaaDoorOwnV
namespace Go.Proofs.YtnommkbcffikaaaDoor
open Go.RowKit

theorem LS.kept {w w' : World} {b off n : Nat} {ls : List Lt} (h : LS w (some ⟨b, off, none⟩) n ls) (hs : w.heap.size ≤ w'.heap.size) (hk : w'.heap[b]? = w.heap[b]?) : LS w' (some ⟨b, off, none⟩) n ls :=
  ⟨h.1, fun hn => by
    obtain ⟨b', off', hA, hlt, hc⟩ := h.2 hn
    injection hA with hA
    injection hA with e1 e2
    subst e1; subst e2
    have e : ∀ o, w'.cell? ⟨b, o, none⟩ = w.cell? ⟨b, o, none⟩ := fun o => World.cell?_of_block (w := w) hk
    refine ⟨b, off, rfl, Nat.lt_of_lt_of_le hlt hs, fun k l hk => ?_⟩
    obtain ⟨c0, c1, c2, c3, c4, c5⟩ := hc k l hk
    exact ⟨(e _).trans c0, (e _).trans c1, (e _).trans c2, (e _).trans c3, (e _).trans c4, (e _).trans c5⟩⟩
theorem LS.kept2 {w w' : World} {A : Option Addr} {n : Nat} {ls : List Lt} (h : LS w A n ls) (hs : w.heap.size ≤ w'.heap.size) (hk : ∀ b off, A = some ⟨b, off, none⟩ → b < w.heap.size → w'.heap[b]? = w.heap[b]?) : LS w' A n ls :=
  ⟨h.1, fun hn => by
    obtain ⟨b, off, hA, hlt, hc⟩ := h.2 hn
    have e : ∀ o, w'.cell? ⟨b, o, none⟩ = w.cell? ⟨b, o, none⟩ := fun o => World.cell?_of_block (w := w) (hk b off hA hlt)
    refine ⟨b, off, hA, Nat.lt_of_lt_of_le hlt hs, fun k l hk => ?_⟩
    obtain ⟨c0, c1, c2, c3, c4, c5⟩ := hc k l hk
    exact ⟨(e _).trans c0, (e _).trans c1, (e _).trans c2, (e _).trans c3, (e _).trans c4, (e _).trans c5⟩⟩
theorem fill_bool {bs : List Bool} {n j : Nat} {x : Bool} (hl : bs.length = n) (hj : j < n) (hx : bs[j]? = some x) :
    ((bs.take j).map Value.bool ++ List.replicate (n - j) (Value.bool false)).set j (.bool x) = (bs.take (j + 1)).map Value.bool ++ List.replicate (n - (j + 1)) (Value.bool false) := by
  have h1 : ((bs.take j).map Value.bool).length = j := by rw [List.length_map, List.length_take]; omega
  rw [List.set_append_right _ _ (by omega), h1, Nat.sub_self, show n - j = (n - (j + 1)) + 1 by omega, List.replicate_succ, List.set_cons_zero, List.take_add_one, hx]
  simp
theorem aboveL_at {ls : List Lt} {j : Nat} (h : j < ls.length) : (aboveL ls)[j]? = some (decide (cntB isPass (ls.take (j + 1)) % 2 = 0)) := by
  unfold aboveL
  rw [List.getElem?_map, List.getElem?_range h]
  rfl
theorem above_step {ls : List Lt} {j : Nat} {l : Lt} (h : ls[j]? = some l) : decide (cntB isPass (ls.take (j + 1)) % 2 = 0) = if l.kind = 1 then !decide (cntB isPass (ls.take j) % 2 = 0) else decide (cntB isPass (ls.take j) % 2 = 0) := by
  rw [cntB_succ h]
  by_cases e : l.kind = 1
  · rw [if_pos e, if_pos (by simp [isPass, e]), Bool.eq_iff_iff, decide_eq_true_eq, Bool.not_eq_true', decide_eq_false_iff_not]
    omega
  · rw [if_neg e, if_neg (by simp [isPass, e]), Int.add_zero]

def ClRel (ls : List Lt) (n P g : Nat) (f : Int) (vL vX vS vO : Value) (w0 : World) (v iv : Value) (wr : World) : Prop :=
  ∃ j : Nat, j ≤ n ∧ iv = .int .i64 j ∧ v = .bool (decide (cntB isPass (ls.take j) % 2 = 0)) ∧ DiaB wr P f vL (.slice (some ⟨g, 0, none⟩) n n) vX vS vO ∧
    OwnV wr g 4 (.slice (some ⟨g, 0, none⟩) n n) (((aboveL ls).take j).map Value.bool ++ List.replicate (n - j) (.bool false)) ∧ (∀ k, k < g → k ≠ P → wr.heap[k]? = w0.heap[k]?) ∧ Below P w0 wr
/-- What closed leaves. -/
def ClosedPost (ls : List Lt) (n P : Nat) (f : Int) (vL vX vS vO : Value) (w : World) (e : Ending) (w' : World) : Prop :=
  e = .returned (.bool (decide (n = 0) || (ls.head?.any isPass && decide (cntB isPass ls % 2 = 0)))) ∧ DiaB w' P f vL (.slice (some ⟨w.heap.size, 0, none⟩) n n) vX vS vO ∧
    OwnV w' w.heap.size 4 (.slice (some ⟨w.heap.size, 0, none⟩) n n) ((aboveL ls).map Value.bool) ∧ (∀ k, k < w.heap.size → k ≠ P → w'.heap[k]? = w.heap[k]?) ∧ Below P w w'

set_option maxHeartbeats 4000000 in
set_option maxRecDepth 100000 in
theorem closed_calls (P : Nat) (f : Int) (A : Option Addr) (n c : Nat) (ls : List Lt) (vA vX vS vO : Value) (w : World) (h : DiaB w P f (.slice A n c) vA vX vS vO) (hL : LS w A n ls) (hbP : ∀ b off, A = some ⟨b, off, none⟩ → b ≠ P) (hn : n ≤ 1000) :
    Calls Tryd.prog 98 #[.pointer (some ⟨P, 0, none⟩)] w (ClosedPost ls n P f (.slice A n c) vX vS vO w) := by
  have HD := Lib.hid h
  have HLS := Lib.hid hL
  have HL := Lib.hid hL.1
  have HBP := Lib.hid hbP
  obtain ⟨hP, p0, p1, p2, p3, p4, p5⟩ := h.dia
  have HPP := Lib.hid hP
  go_enter Tryd.func98, Tryd.ntmps98
  go_wp2_with (at_make; refine wpList_make_bools rfl _ _ rfl n rfl rfl (by omega) ?_; intro w1 hown1 hb1; have HD1 := Lib.hid (HD.out.kept (hb1.block P hP)); have f2 := HD1.out.frozen 2; obtain ⟨r, r0, r1, r2, r3, r4, r5⟩ := HD1.out.dia; have HO1 := Lib.hid hown1; have HB1 := Lib.hid hb1; clear hown1 hb1 p0 p1 p2 p3 p4 p5)
  clear r r0 r1 r2 r3 r4 r5 f2 hP hL h
  have HW1 : Hid (ClRel ls n P w.heap.size f (.slice A n c) vX vS vO w (.bool true) (.int .i64 0) (w1.setCell ⟨P, 2, none⟩ (.slice (some ⟨w.heap.size, 0, none⟩) n n))) := by
    refine ⟨0, Nat.zero_le _, rfl, rfl, HD1.out.setA _, ?_, fun k hk hne => ?_, (HB1.out.mono (Nat.le_of_lt HPP.out)).setCell (p := ⟨P, 2, none⟩) (Nat.le_refl _) _⟩
    · have h1 := HO1.out.kept (w' := w1.setCell ⟨P, 2, none⟩ (.slice (some ⟨w.heap.size, 0, none⟩) n n)) (Below.heap_setCell w1 ⟨P, 2, none⟩ _ w.heap.size (by have := HPP.out; simp; omega))
      simpa using h1
    · exact (Below.heap_setCell w1 ⟨P, 2, none⟩ _ k hne).trans (HB1.out.block k hk)
  obtain ⟨W1, hW1⟩ : ∃ W1, W1 = w1.setCell ⟨P, 2, none⟩ (.slice (some ⟨w.heap.size, 0, none⟩) n n) := ⟨_, rfl⟩
  obtain ⟨g, hg⟩ : ∃ g, g = w.heap.size := ⟨_, rfl⟩
  unfold ClosedPost
  rw [← hW1] at HW1 ⊢
  rw [← hg] at HW1 HPP ⊢
  clear hW1
  have HG := Lib.hid hg
  clear hg HO1 HB1 HD1
  go_loopw [3, 22] (fun v iv wr => ClRel ls n P g f (.slice A n c) vX vS vO w v iv wr) (fun _ iv _ => n - (intOf iv).toNat)
  case atStart => exact HW1.out
  case round =>
    obtain ⟨j, hj, rfl, rfl, hdia, hown, hkeep, hbel⟩ := hrel
    have HDJ := Lib.hid hdia
    have HOJ := Lib.hid hown
    have HK := Lib.hid hkeep
    have HBJ := Lib.hid hbel
    have hsz : g ≤ wr.heap.size := by have := hbel.size; have := HG.out; omega
    have HLJ := Lib.hid (HLS.out.kept2 hbel.size (fun b off e hb => hkeep b (by rw [HG.out]; exact hb) (HBP.out b off e)))
    obtain ⟨hP, p0, p1, p2, p3, p4, p5⟩ := hdia.dia
    clear hdia hown hkeep hbel
    by_cases hlt : j < n
    · obtain ⟨bb, oo, l, rfl, hbl, hl, c0, c1, c2, c3, c4, c5⟩ := HLJ.out.at_ hlt
      obtain ⟨y, hy, hyc, hyf, _, hgs⟩ := HOJ.out.cell (k := j) hlt
      have hj1 : (j : Int) < n := by omega
      have HST := Lib.hid (above_step hl)
      have HFB := Lib.hid (fill_bool (bs := aboveL ls) (n := n) (by simp [aboveL, HL.out]) hlt (aboveL_at (by rw [HL.out]; exact hlt)))
      obtain ⟨av, hav⟩ : ∃ av, decide (cntB isPass (ls.take j) % 2 = 0) = av := ⟨_, rfl⟩
      rw [hav] at HST ⊢
      have HREL : Hid (∀ o, ClRel ls n P g f (.slice (some ⟨bb, oo, none⟩) n c) vX vS vO w (.bool (decide (cntB isPass (ls.take (j + 1)) % 2 = 0))) (.int .i64 ((j : Int) + 1)) ((wr.setCell ⟨g, j, none⟩ (.bool (decide (cntB isPass (ls.take (j + 1)) % 2 = 0)))).alloc o)) := by
        intro o
        obtain ⟨wx, hwx⟩ : ∃ wx, wx = wr.setCell ⟨g, j, none⟩ (.bool (decide (cntB isPass (ls.take (j + 1)) % 2 = 0))) := ⟨_, rfl⟩
        have hxs : wx.heap.size = wr.heap.size := by rw [hwx]; simp
        have hxk : ∀ k, k ≠ g → wx.heap[k]? = wr.heap[k]? := fun k hk => by rw [hwx]; exact Below.heap_setCell _ _ _ k hk
        have hxo : OwnV wx g 4 (.slice (some ⟨g, 0, none⟩) n n) (((aboveL ls).take (j + 1)).map Value.bool ++ List.replicate (n - (j + 1)) (.bool false)) := by
          have h1 := HOJ.out.set (k := j) hlt (.bool (decide (cntB isPass (ls.take (j + 1)) % 2 = 0)))
          rw [HFB.out, ← hwx] at h1
          exact h1
        have hxb : Below P w wx := by rw [hwx]; exact HBJ.out.setCell (p := ⟨g, j, none⟩) (Nat.le_of_lt HPP.out) _
        rw [← hwx]
        have hba : Below wx.heap.size wx (wx.alloc o) := (Below.refl _ _).alloc (Nat.le_refl _) _
        refine ⟨j + 1, by omega, by rw [Int.natCast_add]; rfl, rfl, ?_, hxo.below hba, fun k hk hne => ?_, hxb.alloc (by have := HPP.out; omega) _⟩
        · exact (HDJ.out.kept (hxk P (by have := HPP.out; omega))).kept (hba.block P (by omega))
        · exact (hba.block k (by omega)).trans ((hxk k (by omega)).trans (HK.out k hk hne))
      clear hl hy hav
      have hne1 : ¬ g = wr.heap.size := by omega
      by_cases hk : l.kind = 1
      · have hke : (l.kind == 1) = true := by rw [beq_iff_eq]; exact hk
        have HST2 : Hid (decide (cntB isPass (ls.take (j + 1)) % 2 = 0) = !av) := by unfold Hid; rw [HST.out, if_pos hk]
        rw [HST2.out] at HREL
        clear hk
        go_wp2_with fail
        go_roundw
        case rel => exact HREL.out _
        case measure => simp [intOf]; omega
      · have hke : (l.kind == 1) = false := by rw [beq_eq_false_iff_ne]; exact hk
        have HST2 : Hid (decide (cntB isPass (ls.take (j + 1)) % 2 = 0) = av) := by unfold Hid; rw [HST.out, if_neg hk]
        rw [HST2.out] at HREL
        clear hk
        go_wp2_with fail
        go_roundw
        case rel => exact HREL.out _
        case measure => simp [intOf]; omega
    · have hjn : j = n := by omega
      subst hjn
      have HOE : Hid (OwnV wr g 4 (.slice (some ⟨g, 0, none⟩) j j) ((aboveL ls).map Value.bool)) := by
        have h1 := HOJ.out
        rw [List.take_of_length_le (by simp [aboveL, HL.out]), Nat.sub_self] at h1
        unfold Hid
        simpa using h1
      obtain ⟨av, hav⟩ : ∃ av, decide (cntB isPass (ls.take j) % 2 = 0) = av := ⟨_, rfl⟩
      rw [hav]
      have HAV : Hid (decide (cntB isPass ls % 2 = 0) = av) := by
        have h1 := hav
        rw [List.take_of_length_le (by rw [HL.out]; omega)] at h1
        exact h1
      clear hav
      by_cases hz : j = 0
      · have hz1 : (j : Int) = 0 := by omega
        go_wp2_with fail
        go_ret
        refine ⟨ret_bool2 ?_, by rw [← HG.out]; exact HDJ.out, by rw [← HG.out]; exact HOE.out, by rw [← HG.out]; exact HK.out, HBJ.out⟩
        simp [hz]
      have hn0 : 0 < j := by omega
      have hz2 : ((j : Int) == 0) = false := by rw [beq_eq_false_iff_ne]; omega
      obtain ⟨bb, oo, l, rfl, hbl, hl, c0, c1, c2, c3, c4, c5⟩ := HLJ.out.at_ hn0
      have hj0 : (0 : Int) < j := by omega
      have HHD : Hid (ls.head?.any isPass = isPass l) := by
        unfold Hid
        rw [List.head?_eq_getElem?, hl]
        rfl
      clear hl
      simp only [Nat.zero_mul, Nat.add_zero] at c0 c1 c2 c3 c4 c5
      by_cases hk : l.kind = 1
      · have hke : (l.kind == 1) = true := by rw [beq_iff_eq]; exact hk
        have HP1 : Hid (isPass l = true) := by unfold Hid isPass; simp [hk]
        clear hk
        go_wp2_with fail
        go_ret
        refine ⟨ret_bool2 ?_, by rw [← HG.out]; exact HDJ.out, by rw [← HG.out]; exact HOE.out, by rw [← HG.out]; exact HK.out, HBJ.out⟩
        rw [HHD.out, HP1.out, HAV.out]
        simp [hz]
      · have hke : (l.kind == 1) = false := by rw [beq_eq_false_iff_ne]; exact hk
        have HP1 : Hid (isPass l = false) := by unfold Hid isPass; simp [hk]
        clear hk
        go_wp2_with fail
        go_ret
        refine ⟨ret_bool2 ?_, by rw [← HG.out]; exact HDJ.out, by rw [← HG.out]; exact HOE.out, by rw [← HG.out]; exact HK.out, HBJ.out⟩
        rw [HHD.out, HP1.out]
        simp [hz]

end Go.Proofs.YtnommkbcffikaaaDoor
