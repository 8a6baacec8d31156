/-
  The walk of follow: the letters of a code from one of them on, forwards or backwards.
-/
import Derived.Test.YtjdabkniojmacaaDoorEarly
namespace Go.Proofs.YtjdabkniojmacaaDoor
open Go.RowKit

/-- The index of the letter that comes j steps behind the first one. -/
def stepM (n : Nat) (first step : Int) (j : Nat) : Nat := ((first + step * j + n) % n).toNat
theorem stepM_lt {n : Nat} (hn : 0 < n) (first step : Int) (j : Nat) : stepM n first step j < n := by
  unfold stepM
  have h1 := Int.emod_nonneg (first + step * j + n) (show (n : Int) ≠ 0 by omega)
  have h2 := Int.emod_lt_of_pos (first + step * j + n) (show (0 : Int) < n by omega)
  omega
theorem stepM_int {n : Nat} (hn : 0 < n) (first step : Int) (j : Nat) : (first + step * j + n) % n = (stepM n first step j : Nat) := by
  unfold stepM
  have h1 := Int.emod_nonneg (first + step * j + n) (show (n : Int) ≠ 0 by omega)
  omega
/-- The letters that one meets. -/
def followL (ls : List Lt) (first step : Int) : List Lt := (List.range ls.length).map fun j => ls.getD (stepM ls.length first step j) zeroLt
theorem followL_len (ls : List Lt) (first step : Int) : (followL ls first step).length = ls.length := by simp [followL]
theorem followL_at {ls : List Lt} {first step : Int} {j : Nat} {l : Lt} (hj : j < ls.length) (hl : ls[stepM ls.length first step j]? = some l) : (followL ls first step)[j]? = some l := by
  unfold followL
  rw [List.getElem?_map, List.getElem?_range hj, Option.map_some, List.getD_eq_getElem?_getD, hl]
  rfl

set_option maxHeartbeats 4000000 in
set_option maxRecDepth 100000 in
theorem follow_calls (f : Int) (A : Option Addr) (n c : Nat) (ls : List Lt) (first step : Int) (w : World) (hL : LS w A n ls) (hn : n ≤ 1000) (hfi : 0 < n → 0 ≤ first ∧ first < n) (hst : step = 1 ∨ step = -1) :
    Calls Tryd.prog 67 #[.agg #[.int .i64 f, .slice A n c], .int .i64 first, .int .i64 step] w (EachPost f (followL ls first step) w) := by
  obtain ⟨i0, hi, hz0, hz1, hz2⟩ := info_parts infoLetter
  obtain ⟨MC, hMC⟩ : ∃ MC, MC = madeCells (Value.agg #[.int .i64 0, .int .i64 0, .int .i64 0, .int .i64 0, .int .i64 0, .bool false]).cells (n * 6) := ⟨_, rfl⟩
  have hmk : ∀ W : World, (Instr.makeSlice 22 (.int .i64 (n : Int)) (.int .i64 (n : Int))).run Tryd.prog W = .ok (.slice (some ⟨W.heap.size, 0, none⟩) n n) (W.alloc (.cells MC 48)) := by
    intro W
    have h1 := run_make (P := Tryd.prog) W 22 48 i0 _ Tryd.underlying22 hi hz0 .i64 .i64 (n : Int) (n : Int) (by omega) (Int.le_refl _) (by rw [hz2]; omega) (by omega)
    rw [hz1, Int.toNat_natCast, ← hMC] at h1
    exact h1
  have HMC : Hid (MC.toList = (List.replicate n (⟨0, 0, 0, 0, 0, false⟩ : Lt)).flatMap ltCells) := by
    unfold Hid
    rw [hMC]
    exact madeCells_letters n
  have HL := Lib.hid hL
  have HLL : Hid ((followL ls first step).length = n) := by unfold Hid; rw [followL_len]; exact hL.1
  have HFA : Hid (∀ (j : Nat) (l : Lt), j < n → ls[stepM n first step j]? = some l → (followL ls first step)[j]? = some l) := by
    intro j l hj hl
    rw [← hL.1] at hj hl
    exact followL_at hj hl
  have HST0 := Lib.hid hst
  obtain ⟨L, hLe⟩ : ∃ L, followL ls first step = L := ⟨_, rfl⟩
  rw [hLe] at HLL HFA ⊢
  clear hMC hi hz0 hz1 hz2 hL hst hLe
  go_enter Tryd.func67, Tryd.ntmps67
  go_wp2_with fail
  have HE1 := Lib.hid (each_mem1 w f (.slice A n c) MC n)
  have HE2 := Lib.hid (each_mem2 w f (.slice A n c) MC n)
  go_cut [8] (fun rv wx => ∃ R gL, rv = .pointer (some ⟨R, 0, none⟩) ∧ EachMem w f (.slice A n c) MC n R gL wx)
  case first =>
    go_region
    all_goals
      go_wp2_with fail
      go_meet
      case rel => first
        | exact ⟨_, _, rfl, HE1.out⟩
        | exact ⟨_, _, rfl, HE2.out⟩
  case rest =>
    obtain ⟨R, gL, rfl, hem⟩ := hcut
    have HEM := Lib.hid hem
    have hb0 := hem.2.2.2.2.2.2.1
    have hsz0 : w.heap.size < wc.heap.size := by
      rcases Nat.lt_or_ge w.heap.size wc.heap.size with q | q
      · exact q
      · rw [Array.getElem?_eq_none q] at hb0; cases hb0
    have HSTT : Hid (EaRel w f id L n R gL (.int .i64 0) wc) := by
      obtain ⟨h1, h2, h3, h4, h5, h6, h7, h8, h9, h10⟩ := HEM.out
      refine ⟨0, Nat.zero_le _, rfl, h1, ⟨?_, .inr ⟨gL, n, MC, rfl, by omega, h2, Nat.le_refl _, by unfold maxLen; omega, ?_, ?_⟩⟩, h10, h6⟩
      · rw [letters_len, eaL_len HLL.out (Nat.zero_le _)]
      · have := congrArg List.length HMC.out
        rw [letters_len, List.length_replicate] at this
        simpa using this
      · rw [HMC.out, List.take_of_length_le (by rw [letters_len, List.length_replicate]; exact Nat.le_refl _)]
        rfl
    have HNE : Hid (R ≠ gL ∧ w.heap.size + 1 < R ∧ w.heap.size + 1 < gL) := ⟨fun c => HEM.out.2.2.1 c.symm, HEM.out.2.2.2.2.2.2.2.1, HEM.out.2.2.2.2.2.2.2.2.1⟩
    have HCB : Hid (wc.heap[w.heap.size]? = some (.cells #[.int .i64 f, .slice A n c] 24 (0, 0))) := hb0
    have HWC : Hid (w.heap.size < wc.heap.size) := hsz0
    clear hem hb0 hsz0
    go_wp2_with fail
    go_loopw [19] (fun iv wr => EaRel w f id L n R gL iv wr ∧ wr.heap[w.heap.size]? = some (.cells #[.int .i64 f, .slice A n c] 24 (0, 0))) (fun iv _ => n - (intOf iv).toNat)
    case atStart => exact ⟨HSTT.out, HCB.out⟩
    case round =>
      obtain ⟨⟨j, hj, rfl, hr, hrow, hres, hb⟩, hcb⟩ := hrel
      have HR := Lib.hid hr
      have HROW := Lib.hid hrow
      have HRES := Lib.hid hres
      have HB := Lib.hid hb
      have HCBR := Lib.hid hcb
      have hRl : R < wr.heap.size := by
        rcases Nat.lt_or_ge R wr.heap.size with q | q
        · exact q
        · rw [Array.getElem?_eq_none q] at hr; cases hr
      have hgl := (World.ownsRow.lt hrow gL rfl).2
      have hbs := hb.size
      have y0 := Lib.cell_of_heap hr 0
      have y1 := Lib.cell_of_heap hr 1
      have x0 := Lib.cell_of_heap hcb 0
      have x1 := Lib.cell_of_heap hcb 1
      clear hr hrow hres hb hcb
      by_cases hlt : j < n
      · have hn0 : 0 < n := by omega
        have hfi := hfi hn0
        have hilt := stepM_lt hn0 first step j
        have hint := stepM_int hn0 first step j
        obtain ⟨b, off, l, rfl, hbl, hl, c0, c1, c2, c3, c4, c5⟩ := (HL.out.below HB.out).at_ hilt
        have HSET := Lib.hid (eaL_set (h := id) HLL.out (HFA.out j l hlt hl) hlt)
        have HAT := Lib.hid (letters_at (eaL_at (h := id) HLL.out hlt))
        have hji : (j : Int) < n := by omega
        obtain ⟨q, hq⟩ : ∃ q, step * (j : Int) = q := ⟨_, rfl⟩
        have hqb : -1000 ≤ q ∧ q ≤ 1000 ∧ -(n : Int) < q := by
          rcases HST0.out with h | h
          · rw [h] at hq; omega
          · rw [h] at hq; omega
        obtain ⟨ix, hix⟩ : ∃ ix, stepM n first step j = ix := ⟨_, rfl⟩
        rw [hq, hix] at hint
        rw [hix] at hilt hl c0 c1 c2 c3 c4 c5
        have w1 : IntKind.i64.wrap (step * (j : Int)) = q := by rw [hq]; exact wrapI (by omega) (by omega)
        have w2 : (first + q + (n : Int)).tmod (n : Int) = ix := by rw [Int.tmod_eq_emod_of_nonneg (by omega)]; exact hint
        have w3 : IntKind.i64.wrap (first + q) = first + q := wrapI (by omega) (by omega)
        have w4 : IntKind.i64.wrap (first + q + (n : Int)) = first + q + (n : Int) := wrapI (by omega) (by omega)
        have w5 : IntKind.i64.wrap ((first + q + (n : Int)).tmod (n : Int)) = ix := by rw [w2]; exact wrapI (by omega) (by omega)
        have hixi : (ix : Int) < n := by omega
        have hnz : ((n : Int) == 0) = false := by rw [beq_eq_false_iff_ne]; omega
        have r0 := ownsRow_cell HROW.out (HAT.out 0 _ rfl)
        have s0 : wr.cell? ⟨gL, j * 6, none⟩ = some (.int .i64 0) := r0.1
        have t0 : wr.frozen? ⟨gL, j * 6, none⟩ = false := r0.2.1
        clear r0
        have r1 := ownsRow_cell HROW.out (HAT.out 1 _ rfl)
        have s1 : wr.cell? ⟨gL, j * 6 + 1, none⟩ = some (.int .i64 0) := r1.1
        have t1 : wr.frozen? ⟨gL, j * 6 + 1, none⟩ = false := r1.2.1
        clear r1
        have r2 := ownsRow_cell HROW.out (HAT.out 2 _ rfl)
        have s2 : wr.cell? ⟨gL, j * 6 + 2, none⟩ = some (.int .i64 0) := r2.1
        have t2 : wr.frozen? ⟨gL, j * 6 + 2, none⟩ = false := r2.2.1
        clear r2
        have r3 := ownsRow_cell HROW.out (HAT.out 3 _ rfl)
        have s3 : wr.cell? ⟨gL, j * 6 + 3, none⟩ = some (.int .i64 0) := r3.1
        have t3 : wr.frozen? ⟨gL, j * 6 + 3, none⟩ = false := r3.2.1
        clear r3
        have r4 := ownsRow_cell HROW.out (HAT.out 4 _ rfl)
        have s4 : wr.cell? ⟨gL, j * 6 + 4, none⟩ = some (.int .i64 0) := r4.1
        have t4 : wr.frozen? ⟨gL, j * 6 + 4, none⟩ = false := r4.2.1
        clear r4
        have r5 := ownsRow_cell HROW.out (HAT.out 5 _ rfl)
        have s5 : wr.cell? ⟨gL, j * 6 + 5, none⟩ = some (.bool false) := r5.1
        have t5 : wr.frozen? ⟨gL, j * 6 + 5, none⟩ = false := r5.2.1
        clear r5
        have hn00 : ¬ n = 0 := by omega
        clear hl hq hix hqb
        go_wp2_with fail
        go_region
        go_wp2_with fail
        go_roundw
        case rel =>
          have h1 := ownsRow_set (ownsRow_set (ownsRow_set (ownsRow_set (ownsRow_set (ownsRow_set HROW.out (j * 6) (.int .i64 l.kind)) (j * 6 + 1) (.int .i64 l.gate)) (j * 6 + 2) (.int .i64 l.rank)) (j * 6 + 3) (.int .i64 l.id)) (j * 6 + 4) (.int .i64 l.sign)) (j * 6 + 5) (.bool l.over)
          have hS := HSET.out
          rw [id] at hS
          rw [letters_set (by rw [eaL_len HLL.out (Nat.le_of_lt hlt)]; exact hlt), hS] at h1
          have hk : ∀ q, q ≠ gL → ((((((wr.setCell ⟨gL, j * 6, none⟩ (.int .i64 l.kind)).setCell ⟨gL, j * 6 + 1, none⟩ (.int .i64 l.gate)).setCell ⟨gL, j * 6 + 2, none⟩ (.int .i64 l.rank)).setCell ⟨gL, j * 6 + 3, none⟩ (.int .i64 l.id)).setCell ⟨gL, j * 6 + 4, none⟩ (.int .i64 l.sign)).setCell ⟨gL, j * 6 + 5, none⟩ (.bool l.over)).heap[q]? = wr.heap[q]? := fun q hq =>
            ((((((Below.heap_setCell _ _ _ q hq).trans (Below.heap_setCell _ _ _ q hq)).trans (Below.heap_setCell _ _ _ q hq)).trans (Below.heap_setCell _ _ _ q hq)).trans (Below.heap_setCell _ _ _ q hq)).trans (Below.heap_setCell _ _ _ q hq))
          have hne := HNE.out
          have hgg : w.heap.size ≤ gL := by omega
          have hbel := ((((((HB.out.setCell (p := ⟨gL, j * 6, none⟩) hgg (.int .i64 l.kind)).setCell (p := ⟨gL, j * 6 + 1, none⟩) hgg (.int .i64 l.gate)).setCell (p := ⟨gL, j * 6 + 2, none⟩) hgg (.int .i64 l.rank)).setCell (p := ⟨gL, j * 6 + 3, none⟩) hgg (.int .i64 l.id)).setCell (p := ⟨gL, j * 6 + 4, none⟩) hgg (.int .i64 l.sign)).setCell (p := ⟨gL, j * 6 + 5, none⟩) hgg (.bool l.over))
          have hrr := EaRel.next (f := f) (h := id) (ls := L) (R := R) (wx := _) hlt h1 ((hk R hne.1).trans HR.out) ((hk _ (by omega)).trans HRES.out) hbel
          have hcc := (hk _ (by omega)).trans HCBR.out
          clear h1 hk hbel
          generalize ((((((wr.setCell ⟨gL, j * 6, none⟩ (.int .i64 l.kind)).setCell ⟨gL, j * 6 + 1, none⟩ (.int .i64 l.gate)).setCell ⟨gL, j * 6 + 2, none⟩ (.int .i64 l.rank)).setCell ⟨gL, j * 6 + 3, none⟩ (.int .i64 l.id)).setCell ⟨gL, j * 6 + 4, none⟩ (.int .i64 l.sign)).setCell ⟨gL, j * 6 + 5, none⟩ (.bool l.over)) = X at hrr hcc ⊢
          obtain ⟨j', e1, e2, e3, e4, e5, e6⟩ := hrr
          exact ⟨⟨j', e1, e2, e3, e4, e5, e6.drew⟩, hcc⟩
        case measure => simp [intOf]; omega
      · have hjn : j = n := by omega
        subst hjn
        have z0 := Lib.cell_of_heap HRES.out 0
        have z1 := Lib.cell_of_heap HRES.out 1
        have zf : ∀ k, wr.frozen? ⟨w.heap.size + 1, k, none⟩ = false := fun k => by have h1 := HRES.out; simp [World.frozen?, h1]
        have zf0 := zf 0
        have zf1 := zf 1
        clear zf
        go_wp2_with fail
        obtain ⟨X, hX⟩ : ∃ X, X = (wr.setCell ⟨w.heap.size + 1, 0, none⟩ (.int .i64 f)).setCell ⟨w.heap.size + 1, 1, none⟩ (.slice (some ⟨gL, 0, none⟩) j j) := ⟨_, rfl⟩
        obtain ⟨k0, k1, hXB, _, hXK⟩ := res_end HRES.out (by omega) HB.out _ _ hX
        rw [← hX]
        refine bodyPost_ret (v := .agg #[.int .i64 f, .slice (some ⟨gL, 0, none⟩) j j]) (by simp [results, Tryd.results67, go_sem, k0, k1]) rfl ?_
        have hne := HNE.out
        have h1 := own_base' (B := w.heap.size) (own_kept2' HROW.out (fun g e => hXK g (by have e' : gL = g := (by simpa [Value.ownBlock] using e); omega))) (by omega)
        have hl : L.length = j := HLL.out
        refine ⟨gL, by rw [hl], ?_, hXB⟩
        unfold OwnL
        rw [hl]
        have he : eaL id L j j = L := by
          unfold eaL
          rw [List.take_of_length_le (by rw [HLL.out]; exact Nat.le_refl _), Nat.sub_self, List.replicate_zero, List.append_nil, List.map_id]
        rw [he] at h1
        exact h1

end Go.Proofs.YtjdabkniojmacaaDoor
