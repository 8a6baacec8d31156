/-
  The walks of each with Insert's closure, and of Insert of codes that goes through (out of InsB).
-/
import Derived.Test.YtplpccgbciglpaaDoorInsP
namespace Go.Proofs.YtplpccgbciglpaaDoor
open Go.RowKit

set_option maxHeartbeats 4000000 in
set_option maxRecDepth 100000 in
theorem each_insert (f : Int) (A : Option Addr) (n c : Nat) (ls : List Lt) (w : World) (hL : LS w A n ls) (hn : n ≤ 1000) (h : Lt → Lt) (v1 : Value)
    (hch : ∀ l W, l ∈ ls → Below w.heap.size w W → Calls Tryd.prog 50 #[l.val, v1] W fun e W' => e = .returned (h l).val ∧ Below W.heap.size W W') :
    Calls Tryd.prog 49 #[.agg #[.int .i64 f, .slice A n c], .func (.func 50) #[] #[v1]] w (EachPost f (ls.map h) w) := by
  obtain ⟨i0, hi, hz0, hz1, hz2⟩ := info_parts infoLetter
  obtain ⟨MC, hMC⟩ : ∃ MC, MC = madeCells (Value.agg #[.int .i64 0, .int .i64 0, .int .i64 0, .int .i64 0, .int .i64 0, .bool false]).cells (n * 6) := ⟨_, rfl⟩
  have hmk : ∀ W : World, (Instr.makeSlice 22 (.int .i64 (n : Int)) (.int .i64 (n : Int))).run Tryd.prog W = .ok (.slice (some ⟨W.heap.size, 0, none⟩) n n) (W.alloc (.cells MC 56)) := by
    intro W
    have h1 := run_make (P := Tryd.prog) W 22 56 i0 _ Tryd.underlying22 hi hz0 .i64 .i64 (n : Int) (n : Int) (by omega) (Int.le_refl _) (by rw [hz2]; omega) (by omega)
    rw [hz1, Int.toNat_natCast, ← hMC] at h1
    exact h1
  have HMC : Hid (MC.toList = (List.replicate n (⟨0, 0, 0, 0, 0, false⟩ : Lt)).flatMap ltCells) := by
    unfold Hid
    rw [hMC]
    exact madeCells_letters n
  clear hMC hi hz0 hz1 hz2
  go_enter Tryd.func49, Tryd.ntmps49
  go_wp2_with fail
  have HE1 := Lib.hid (each_mem1 w f (.slice A n c) MC n)
  have HE2 := Lib.hid (each_mem2 w f (.slice A n c) MC n)
  go_cut [5] (fun rv wx => ∃ R gL, rv = .pointer (some ⟨R, 0, none⟩) ∧ EachMem w f (.slice A n c) MC n R gL wx)
  case first =>
    go_region
    all_goals
      go_wp2_with fail
      go_meet
      case rel => first
        | exact ⟨_, _, rfl, HE1.out⟩
        | exact ⟨_, _, rfl, HE2.out⟩
  case rest =>
    obtain ⟨R, gL, rfl, hem⟩ := hcut
    have HEM := Lib.hid hem
    have hb0 := hem.2.2.2.2.2.2.1
    have x0 := Lib.cell_of_heap hb0 0
    have x1 := Lib.cell_of_heap hb0 1
    have hsz0 : w.heap.size < wc.heap.size := by
      rcases Nat.lt_or_ge w.heap.size wc.heap.size with q | q
      · exact q
      · rw [Array.getElem?_eq_none q] at hb0; cases hb0
    have HL := Lib.hid hL
    have HLL := Lib.hid hL.1
    have HCH := Lib.hid hch
    have HST : Hid (EaRel w f h ls n R gL (.int .i64 0) wc) := by
      obtain ⟨h1, h2, h3, h4, h5, h6, h7, h8, h9, h10⟩ := HEM.out
      refine ⟨0, Nat.zero_le _, rfl, h1, ⟨?_, .inr ⟨gL, n, MC, rfl, by omega, h2, Nat.le_refl _, by unfold maxLen; omega, ?_, ?_⟩⟩, h10, h6⟩
      · rw [letters_len, eaL_len HLL.out (Nat.zero_le _)]
      · have := congrArg List.length HMC.out
        rw [letters_len, List.length_replicate] at this
        simpa using this
      · rw [HMC.out, List.take_of_length_le (by rw [letters_len, List.length_replicate]; exact Nat.le_refl _)]
        rfl
    have HNE : Hid (R ≠ gL ∧ w.heap.size + 1 < R ∧ w.heap.size + 1 < gL) := ⟨fun c => HEM.out.2.2.1 c.symm, HEM.out.2.2.2.2.2.2.2.1, HEM.out.2.2.2.2.2.2.2.2.1⟩
    clear hem hb0 hsz0 hL hch
    go_wp2_with fail
    go_loopw [18] (fun iv wr => EaRel w f h ls n R gL iv wr) (fun iv _ => n - (intOf iv).toNat)
    case atStart => exact HST.out
    case round =>
      obtain ⟨j, hj, rfl, hr, hrow, hres, hb⟩ := hrel
      have HR := Lib.hid hr
      have HROW := Lib.hid hrow
      have HRES := Lib.hid hres
      have HB := Lib.hid hb
      have hRl : R < wr.heap.size := by
        rcases Nat.lt_or_ge R wr.heap.size with q | q
        · exact q
        · rw [Array.getElem?_eq_none q] at hr; cases hr
      have hgl := (World.ownsRow.lt hrow gL rfl).2
      have hbs := hb.size
      have y0 := Lib.cell_of_heap hr 0
      have y1 := Lib.cell_of_heap hr 1
      clear hr hrow hres hb
      by_cases hlt : j < n
      · obtain ⟨b, off, l, rfl, hbl, hl, c0, c1, c2, c3, c4, c5⟩ := (HL.out.below HB.out).at_ hlt
        have hji : (j : Int) < n := by omega
        have HC : Hid (∀ W, Below w.heap.size w W → Calls Tryd.prog 50 #[.agg #[.int .i64 l.kind, .int .i64 l.gate, .int .i64 l.rank, .int .i64 l.id, .int .i64 l.sign, .bool l.over], v1] W fun e W' => e = .returned (.agg #[.int .i64 (h l).kind, .int .i64 (h l).gate, .int .i64 (h l).rank, .int .i64 (h l).id, .int .i64 (h l).sign, .bool (h l).over]) ∧ Below W.heap.size W W') :=
          fun W hW => HCH.out l W (List.mem_of_getElem? hl) hW
        have HSET := Lib.hid (eaL_set (h := h) HLL.out hl hlt)
        have HAT := Lib.hid (letters_at (eaL_at (h := h) HLL.out hlt))
        obtain ⟨l', hl'⟩ : ∃ l', h l = l' := ⟨_, rfl⟩
        rw [hl'] at HC HSET
        clear hl hl'
        go_wp2_with fail
        obtain ⟨W1, hW1⟩ : ∃ W1, W1 = wr.alloc (.cells #[.int .i64 l.kind, .int .i64 l.gate, .int .i64 l.rank, .int .i64 l.id, .int .i64 l.sign, .bool l.over] 56) := ⟨_, rfl⟩
        obtain ⟨B, hB⟩ : ∃ B, B = wr.heap.size := ⟨_, rfl⟩
        have HW1 : Hid (Below wr.heap.size wr W1) := by rw [hW1]; exact (Below.refl _ _).alloc (Nat.le_refl _) _
        have hs1 : B < W1.heap.size := by rw [hW1, hB]; simp
        have HS0 : Hid (EachS R gL B (j * 6) n l W1 W1) := by
          have e : ∀ q x, q < wr.heap.size → W1.cell? ⟨q, x, none⟩ = wr.cell? ⟨q, x, none⟩ := fun q x hq => HW1.out.cell (p := ⟨q, x, none⟩) hq
          have z : ∀ x, W1.frozen? ⟨gL, x, none⟩ = wr.frozen? ⟨gL, x, none⟩ := fun x => HW1.out.frozen (p := ⟨gL, x, none⟩) hgl
          have hc := Lib.cell_of_heap (heap_alloc_new wr (.cells #[.int .i64 l.kind, .int .i64 l.gate, .int .i64 l.rank, .int .i64 l.id, .int .i64 l.sign, .bool l.over] 56))
          rw [← hW1, ← hB] at hc
          have r0 := ownsRow_cell HROW.out (HAT.out 0 _ rfl)
          have r1 := ownsRow_cell HROW.out (HAT.out 1 _ rfl)
          have r2 := ownsRow_cell HROW.out (HAT.out 2 _ rfl)
          have r3 := ownsRow_cell HROW.out (HAT.out 3 _ rfl)
          have r4 := ownsRow_cell HROW.out (HAT.out 4 _ rfl)
          have r5 := ownsRow_cell HROW.out (HAT.out 5 _ rfl)
          exact ⟨(e _ _ hRl).trans y1, hc 0, hc 1, hc 2, hc 3, hc 4, hc 5, (e _ _ hgl).trans r0.1, (e _ _ hgl).trans r1.1, (e _ _ hgl).trans r2.1, (e _ _ hgl).trans r3.1, (e _ _ hgl).trans r4.1, (e _ _ hgl).trans r5.1,
            (z _).trans r0.2.1, (z _).trans r1.2.1, (z _).trans r2.2.1, (z _).trans r3.2.1, (z _).trans r4.2.1, (z _).trans r5.2.1, Below.refl _ _⟩
        have HSZ : Hid (R < W1.heap.size ∧ gL < W1.heap.size ∧ B < W1.heap.size) := by have := HW1.out.size; exact ⟨by omega, by omega, hs1⟩
        rw [← hW1, ← hB]
        have HBE := Lib.hid hB
        have HWW : Hid (Below w.heap.size w W1) := HB.out.trans (HW1.out.mono HB.out.size)
        clear hW1 hB c0 c1 c2 c3 c4 c5 y0 y1
        have HROW1 := Lib.hid (ownsRow_below HROW.out HW1.out)
        have HR1 : Hid (W1.heap[R]? = some (.cells #[.int .i64 f, .slice (some ⟨gL, 0, none⟩) n n] 24 (0, 0))) := (HW1.out.block R hRl).trans HR.out
        have HRES1 : Hid (W1.heap[w.heap.size + 1]? = some (.cells #[.int .i64 0, .slice none 0 0] 24 (0, 0))) := (HW1.out.block _ (by have := HNE.out; omega)).trans HRES.out
        obtain ⟨s1, b0, b1, b2, b3, b4, b5, c0, c1, c2, c3, c4, c5, f0, f1, f2, f3, f4, f5, _⟩ := HS0.out
        go_region_with (first
          | (go_at_call 50; (with_reducible refine (HC.out _ HWW.out.drew).mono ?_); rintro e w2 ⟨rfl, hbw⟩; have HB2 : Hid (Below W1.heap.size W1 w2) := ((Below.refl _ _).drew).trans (hbw.mono (by simp)); obtain ⟨t1, d0, d1, d2, d3, d4, d5, e0, e1, e2, e3, e4, e5, g0, g1, g2, g3, g4, g5, _⟩ := HS0.out.of HSZ.out.1 HSZ.out.2.1 HSZ.out.2.2 HB2.out; clear hbw))
        all_goals
          go_wp2_with fail
          go_roundw
          case rel =>
            have h1 := ownsRow_set (ownsRow_set (ownsRow_set (ownsRow_set (ownsRow_set (ownsRow_set (ownsRow_below HROW1.out HB2.out) (j * 6) (.int .i64 l'.kind)) (j * 6 + 1) (.int .i64 l'.gate)) (j * 6 + 2) (.int .i64 l'.rank)) (j * 6 + 3) (.int .i64 l'.id)) (j * 6 + 4) (.int .i64 l'.sign)) (j * 6 + 5) (.bool l'.over)
            rw [letters_set (by rw [eaL_len HLL.out (Nat.le_of_lt hlt)]; exact hlt), HSET.out] at h1
            have hk : ∀ q, q ≠ gL → ((((((w2.setCell ⟨gL, j * 6, none⟩ (.int .i64 l'.kind)).setCell ⟨gL, j * 6 + 1, none⟩ (.int .i64 l'.gate)).setCell ⟨gL, j * 6 + 2, none⟩ (.int .i64 l'.rank)).setCell ⟨gL, j * 6 + 3, none⟩ (.int .i64 l'.id)).setCell ⟨gL, j * 6 + 4, none⟩ (.int .i64 l'.sign)).setCell ⟨gL, j * 6 + 5, none⟩ (.bool l'.over)).heap[q]? = w2.heap[q]? := fun q hq =>
              ((((((Below.heap_setCell _ _ _ q hq).trans (Below.heap_setCell _ _ _ q hq)).trans (Below.heap_setCell _ _ _ q hq)).trans (Below.heap_setCell _ _ _ q hq)).trans (Below.heap_setCell _ _ _ q hq)).trans (Below.heap_setCell _ _ _ q hq))
            have hb2 : Below w.heap.size w w2 := HWW.out.trans (HB2.out.mono HWW.out.size)
            have hne := HNE.out
            have hgg : w.heap.size ≤ gL := by omega
            have hrr := EaRel.next (f := f) (h := h) (ls := ls) (R := R) hlt h1 ((hk R hne.1).trans ((HB2.out.block R HSZ.out.1).trans HR1.out)) ((hk _ (by omega)).trans ((HB2.out.block _ (by have := HSZ.out.1; omega)).trans HRES1.out))
              ((((((hb2.setCell (p := ⟨gL, j * 6, none⟩) hgg _).setCell (p := ⟨gL, j * 6 + 1, none⟩) hgg _).setCell (p := ⟨gL, j * 6 + 2, none⟩) hgg _).setCell (p := ⟨gL, j * 6 + 3, none⟩) hgg _).setCell (p := ⟨gL, j * 6 + 4, none⟩) hgg _).setCell (p := ⟨gL, j * 6 + 5, none⟩) hgg _)
            first | exact hrr | ((repeat (apply Exists.intro)); exact And.intro hrr rfl)
          case measure => simp [intOf]; omega
      · have hjn : j = n := by omega
        subst hjn
        have z0 := Lib.cell_of_heap HRES.out 0
        have z1 := Lib.cell_of_heap HRES.out 1
        have zf : ∀ k, wr.frozen? ⟨w.heap.size + 1, k, none⟩ = false := fun k => by have h1 := HRES.out; simp [World.frozen?, h1]
        have zf0 := zf 0
        have zf1 := zf 1
        clear zf
        go_wp2_with fail
        obtain ⟨X, hX⟩ : ∃ X, X = (wr.setCell ⟨w.heap.size + 1, 0, none⟩ (.int .i64 f)).setCell ⟨w.heap.size + 1, 1, none⟩ (.slice (some ⟨gL, 0, none⟩) j j) := ⟨_, rfl⟩
        have hXF : X.heap[w.heap.size + 1]? = some (.cells #[.int .i64 f, .slice (some ⟨gL, 0, none⟩) j j] 24 (0, 0)) := by
          rw [hX]
          simp [World.setCell, Array.getElem?_modify, HRES.out]
        have hXK : ∀ q, q ≠ w.heap.size + 1 → X.heap[q]? = wr.heap[q]? := fun q hq => by
          rw [hX]
          exact (Below.heap_setCell _ _ _ q hq).trans (Below.heap_setCell _ _ _ q hq)
        have hXB : Below w.heap.size w X := by
          rw [hX]
          exact (HB.out.setCell (p := ⟨w.heap.size + 1, 0, none⟩) (by show w.heap.size ≤ w.heap.size + 1; omega) _).setCell (p := ⟨w.heap.size + 1, 1, none⟩) (by show w.heap.size ≤ w.heap.size + 1; omega) _
        rw [← hX]
        have k0 := Lib.cell_of_heap hXF 0
        have k1 := Lib.cell_of_heap hXF 1
        refine bodyPost_ret (v := .agg #[.int .i64 f, .slice (some ⟨gL, 0, none⟩) j j]) (by simp [results, Tryd.results49, go_sem, k0, k1]) rfl ?_
        have hne := HNE.out
        have h1 := own_base' (B := w.heap.size) (own_kept2' HROW.out (fun g e => hXK g (by have e' : gL = g := (by simpa [Value.ownBlock] using e); omega))) (by omega)
        have hl : (ls.map h).length = j := by rw [List.length_map]; exact HLL.out
        refine ⟨gL, by rw [hl], ?_, hXB⟩
        unfold OwnL
        rw [hl]
        have he : eaL h ls j j = ls.map h := by
          unfold eaL
          rw [List.take_of_length_le (by rw [HLL.out]; exact Nat.le_refl _), Nat.sub_self, List.replicate_zero, List.append_nil]
        rw [he] at h1
        exact h1

def insO0 : Oper := { dst := some 14, op := Go.Op.fieldAddr 24 (Go.Operand.tmp 2) 0, type := 0, pos := "fingers.go:32", after := #[], guard := none }
def insO1 : Oper := { dst := some 15, op := Go.Op.load 3 (Go.Operand.tmp 14), type := 3, pos := "fingers.go:32", after := #[{ on := 0, ground := Go.Ground.data }], guard := none }
def insO2 : Oper := { dst := some 16, op := Go.Op.binOp Go.BinOp.eql 3 (Go.Operand.tmp 15) (Go.Operand.const (Go.Value.int Go.IntKind.i64 40)) 3, type := 4, pos := "fingers.go:32", after := #[{ on := 1, ground := Go.Ground.data }], guard := none }
def insO3 : Oper := { dst := some 17, op := Go.Op.move (Go.Operand.tmp 16), type := 4, pos := "fingers.go:32", after := #[{ on := 2, ground := Go.Ground.data }], guard := none }
def insO4 : Oper := { dst := some 18, op := Go.Op.fieldAddr 41 (Go.Operand.tmp 3) 0, type := 0, pos := "fingers.go:32", after := #[{ on := 3, ground := Go.Ground.guard }], guard := some (3, false) }
def insO5 : Oper := { dst := some 19, op := Go.Op.load 3 (Go.Operand.tmp 18), type := 3, pos := "fingers.go:32", after := #[{ on := 4, ground := Go.Ground.data }, { on := 3, ground := Go.Ground.guard }], guard := some (3, false) }
def insO6 : Oper := { dst := some 20, op := Go.Op.binOp Go.BinOp.lss 3 (Go.Operand.tmp 19) (Go.Operand.const (Go.Value.int Go.IntKind.i64 0)) 3, type := 4, pos := "fingers.go:32", after := #[{ on := 5, ground := Go.Ground.data }, { on := 3, ground := Go.Ground.guard }], guard := some (3, false) }
def insO7 : Oper := { dst := some 21, op := Go.Op.pick (Go.Operand.tmp 17) (Go.Operand.const (Go.Value.bool true)) (Go.Operand.tmp 20), type := 4, pos := "fingers.go:32", after := #[{ on := 3, ground := Go.Ground.data }, { on := 6, ground := Go.Ground.data }], guard := none }
def insO8 : Oper := { dst := some 22, op := Go.Op.move (Go.Operand.tmp 21), type := 4, pos := "fingers.go:32", after := #[{ on := 7, ground := Go.Ground.data }, { on := 3, ground := Go.Ground.chain }], guard := none }
def insO9 : Oper := { dst := some 23, op := Go.Op.fieldAddr 41 (Go.Operand.tmp 3) 0, type := 0, pos := "fingers.go:32", after := #[{ on := 8, ground := Go.Ground.guard }], guard := some (8, false) }
def insO10 : Oper := { dst := some 24, op := Go.Op.load 3 (Go.Operand.tmp 23), type := 3, pos := "fingers.go:32", after := #[{ on := 9, ground := Go.Ground.data }, { on := 8, ground := Go.Ground.guard }], guard := some (8, false) }
def insO11 : Oper := { dst := some 25, op := Go.Op.fieldAddr 24 (Go.Operand.tmp 2) 0, type := 0, pos := "fingers.go:32", after := #[{ on := 8, ground := Go.Ground.guard }], guard := some (8, false) }
def insO12 : Oper := { dst := some 26, op := Go.Op.load 3 (Go.Operand.tmp 25), type := 3, pos := "fingers.go:32", after := #[{ on := 11, ground := Go.Ground.data }, { on := 8, ground := Go.Ground.guard }], guard := some (8, false) }
def insO13 : Oper := { dst := some 27, op := Go.Op.binOp Go.BinOp.gtr 3 (Go.Operand.tmp 24) (Go.Operand.tmp 26) 3, type := 4, pos := "fingers.go:32", after := #[{ on := 10, ground := Go.Ground.data }, { on := 12, ground := Go.Ground.data }, { on := 8, ground := Go.Ground.guard }], guard := some (8, false) }
def insO14 : Oper := { dst := some 28, op := Go.Op.pick (Go.Operand.tmp 22) (Go.Operand.const (Go.Value.bool true)) (Go.Operand.tmp 27), type := 4, pos := "fingers.go:32", after := #[{ on := 8, ground := Go.Ground.data }, { on := 13, ground := Go.Ground.data }], guard := none }
def insO15 : Oper := { dst := some 29, op := Go.Op.move (Go.Operand.tmp 28), type := 4, pos := "fingers.go:32", after := #[{ on := 14, ground := Go.Ground.data }, { on := 8, ground := Go.Ground.chain }], guard := none }
def insO16 : Oper := { dst := some 30, op := Go.Op.fieldAddr 41 (Go.Operand.tmp 3) 1, type := 0, pos := "fingers.go:32", after := #[{ on := 15, ground := Go.Ground.guard }], guard := some (15, false) }
def insO17 : Oper := { dst := some 31, op := Go.Op.load 3 (Go.Operand.tmp 30), type := 3, pos := "fingers.go:32", after := #[{ on := 16, ground := Go.Ground.data }, { on := 15, ground := Go.Ground.guard }], guard := some (15, false) }
def insO18 : Oper := { dst := some 32, op := Go.Op.binOp Go.BinOp.lss 3 (Go.Operand.tmp 31) (Go.Operand.const (Go.Value.int Go.IntKind.i64 0)) 3, type := 4, pos := "fingers.go:32", after := #[{ on := 17, ground := Go.Ground.data }, { on := 15, ground := Go.Ground.guard }], guard := some (15, false) }
def insO19 : Oper := { dst := some 33, op := Go.Op.pick (Go.Operand.tmp 29) (Go.Operand.const (Go.Value.bool true)) (Go.Operand.tmp 32), type := 4, pos := "fingers.go:32", after := #[{ on := 15, ground := Go.Ground.data }, { on := 18, ground := Go.Ground.data }], guard := none }
def insO20 : Oper := { dst := some 34, op := Go.Op.move (Go.Operand.tmp 33), type := 4, pos := "fingers.go:32", after := #[{ on := 19, ground := Go.Ground.data }, { on := 15, ground := Go.Ground.chain }], guard := none }
def insO21 : Oper := { dst := some 35, op := Go.Op.fieldAddr 41 (Go.Operand.tmp 3) 1, type := 0, pos := "fingers.go:32", after := #[{ on := 20, ground := Go.Ground.guard }], guard := some (20, false) }
def insO22 : Oper := { dst := some 36, op := Go.Op.load 3 (Go.Operand.tmp 35), type := 3, pos := "fingers.go:32", after := #[{ on := 21, ground := Go.Ground.data }, { on := 20, ground := Go.Ground.guard }], guard := some (20, false) }
def insO23 : Oper := { dst := some 37, op := Go.Op.load 24 (Go.Operand.tmp 2), type := 24, pos := "fingers.go:32", after := #[{ on := 20, ground := Go.Ground.guard }], guard := some (20, false) }
def insO24 : Oper := { dst := some 38, op := Go.Op.call { callee := Go.Callee.value (Go.Operand.func 48), args := #[Go.Operand.tmp 37], argTypes := #[24] }, type := 35, pos := "fingers.go:32", after := #[{ on := 23, ground := Go.Ground.data }, { on := 20, ground := Go.Ground.chain }, { on := 20, ground := Go.Ground.guard }], guard := some (20, false) }
def insO25 : Oper := { dst := some 39, op := Go.Op.fieldAddr 41 (Go.Operand.tmp 3) 0, type := 0, pos := "fingers.go:32", after := #[{ on := 20, ground := Go.Ground.guard }], guard := some (20, false) }
def insO26 : Oper := { dst := some 40, op := Go.Op.load 3 (Go.Operand.tmp 39), type := 3, pos := "fingers.go:32", after := #[{ on := 25, ground := Go.Ground.data }, { on := 20, ground := Go.Ground.guard }], guard := some (20, false) }
def insO27 : Oper := { dst := some 41, op := Go.Op.indexAddr 35 (Go.Operand.tmp 38) (Go.Operand.tmp 40), type := 0, pos := "fingers.go:32", after := #[{ on := 24, ground := Go.Ground.data }, { on := 26, ground := Go.Ground.data }, { on := 20, ground := Go.Ground.guard }], guard := some (20, false) }
def insO28 : Oper := { dst := some 42, op := Go.Op.load 3 (Go.Operand.tmp 41), type := 3, pos := "fingers.go:32", after := #[{ on := 27, ground := Go.Ground.data }, { on := 20, ground := Go.Ground.guard }], guard := some (20, false) }
def insO29 : Oper := { dst := some 43, op := Go.Op.binOp Go.BinOp.gtr 3 (Go.Operand.tmp 36) (Go.Operand.tmp 42) 3, type := 4, pos := "fingers.go:32", after := #[{ on := 22, ground := Go.Ground.data }, { on := 28, ground := Go.Ground.data }, { on := 20, ground := Go.Ground.guard }], guard := some (20, false) }
def insO30 : Oper := { dst := some 44, op := Go.Op.pick (Go.Operand.tmp 34) (Go.Operand.const (Go.Value.bool true)) (Go.Operand.tmp 43), type := 4, pos := "fingers.go:32", after := #[{ on := 20, ground := Go.Ground.data }, { on := 29, ground := Go.Ground.data }], guard := none }

/-- A code with these letters, without an error. -/
def OkF (f : Int) (n : Nat) (L : List Lt) (w : World) (e : Ending) (w' : World) : Prop :=
  ∃ gL, e = .returned (.tuple #[.agg #[.int .i64 f, .slice (some ⟨gL, 0, none⟩) n n], .int .i64 0]) ∧ OwnL w' w.heap.size (.slice (some ⟨gL, 0, none⟩) n n) L ∧ Below w.heap.size w w'
theorem gates_cell {w : World} {B gg N n G : Nat} {ls : List Lt} {q : Int} (ho : OwnV w B 3 (.slice (some ⟨gg, 0, none⟩) N N) (gatesL N ls n)) (hG : G < N) (hn : ls.length = n) (hq : cntB (inGate (G : Int)) ls = q) : w.cell? ⟨gg, G, none⟩ = some (.int .i64 q) := by
  obtain ⟨x, hx, hc, _⟩ := ho.cell (k := G) hG
  rw [gatesL_at hG, List.take_of_length_le (by omega), hq] at hx
  injection hx with hx
  rw [hc, hx]

set_option maxHeartbeats 4000000 in
set_option maxRecDepth 100000 in
theorem insert_f (fn G : Nat) (v : Int) (A : Option Addr) (n c : Nat) (ls : List Lt) (w : World) (hL : LS w A n ls) (hn : n ≤ 1000) (hfn : fn < 40) (hG : G ≤ fn) (hv : 0 ≤ v) (hp : ∀ l, l ∈ ls → plainL (fn : Int) l) (hrk : ∀ l, l ∈ ls → l.kind = 1 → 0 ≤ l.rank ∧ l.rank ≤ 1000000) (hvq : v ≤ cntB (inGate (G : Int)) ls) (hC : ChkAt (fn : Int) A n c 0 w) :
    Calls Tryd.prog 18 #[.agg #[.int .i64 (fn : Int), .slice A n c], .agg #[.int .i64 (G : Int), .int .i64 v]] w (OkF ((fn : Int) + 1) n (ls.map (insL (G : Int) v)) w) := by
  have HCK := Lib.hid hC
  have HLN : Hid (ls.length = n) := hL.1
  have HLM : Hid ((ls.map (insL (G : Int) v)).length = n) := by unfold Hid; rw [List.length_map]; exact hL.1
  have hgp : ∀ l, l ∈ ls → l.kind = 1 → 0 ≤ l.gate ∧ l.gate ≤ (fn : Int) := fun l hl hk1 => by
    rcases hp l hl with h | h
    · exact h.2.2.2.2
    · exact absurd (hk1.symm.trans h.1) (by decide)
  have HGA : Hid (∀ W, Below w.heap.size w W → Calls Tryd.prog 48 #[.agg #[.int .i64 (fn : Int), .slice A n c]] W fun e w' => ∃ g, e = .returned (.slice (some ⟨g, 0, none⟩) (fn + 1) (fn + 1)) ∧ W.heap.size ≤ g ∧ OwnV w' g 3 (.slice (some ⟨g, 0, none⟩) (fn + 1) (fn + 1)) (gatesL (fn + 1) ls n) ∧ Below W.heap.size W w') :=
    fun W hW => gates_calls fn A n c ls W (hL.below hW) (by omega) (by omega) hgp
  obtain ⟨q, hq⟩ : ∃ q, cntB (inGate (G : Int)) ls = q := ⟨_, rfl⟩
  have hq1 : q ≤ 1000 := by
    have h1 := cntB_take_le (inGate (G : Int)) ls ls.length
    rw [List.take_of_length_le (Nat.le_refl _), hq] at h1
    have := hL.1
    omega
  rw [hq] at hvq
  have HQ := Lib.hid hq
  have HFE : Hid (∀ (W : World) (pq : Nat), Below w.heap.size w W → W.heap[pq]? = some (.cells #[.int .i64 (G : Int), .int .i64 v] 41 (0, 0)) →
      Calls Tryd.prog 49 #[.agg #[.int .i64 (fn : Int), .slice A n c], .func (.func 50) #[] #[.pointer (some ⟨pq, 0, none⟩)]] W (EachPost (fn : Int) (ls.map (insL (G : Int) v)) W)) := by
    intro W pq hW c1
    refine each_insert (fn : Int) A n c ls W (hL.below hW) hn (insL (G : Int) v) _ fun l W' hl hW' => ?_
    refine insert1_calls (G : Int) v pq l W' ⟨by omega, by omega⟩ ⟨hv, by omega⟩ ((hW'.block pq ?_).trans c1) (fun hk1 => ⟨⟨(hgp l hl hk1).1, by have := (hgp l hl hk1).2; omega⟩, hrk l hl hk1⟩)
    rcases Nat.lt_or_ge pq W.heap.size with k | k
    · exact k
    · rw [Array.getElem?_eq_none k] at c1; cases c1
  have t1 : (((fn : Nat) : Int) == 40) = false := by rw [beq_eq_false_iff_ne]; omega
  have t2 : decide (((G : Nat) : Int) < 0) = false := by rw [decide_eq_false_iff_not]; omega
  have t3 : decide ((fn : Int) < (G : Int)) = false := by rw [decide_eq_false_iff_not]; omega
  have t3' : decide (fn < G) = false := by rw [decide_eq_false_iff_not]; omega
  have t4 : decide (v < 0) = false := by rw [decide_eq_false_iff_not]; omega
  have t5 : decide (q < v) = false := by rw [decide_eq_false_iff_not]; omega
  have hGi : (G : Int) < ((fn + 1 : Nat) : Int) := by omega
  have hGn : G < fn + 1 := by omega
  have hGj : (G : Int) < (fn : Int) + 1 := by omega
  have u0 : IntKind.i64.wrap ((fn : Int) + 1) = (fn : Int) + 1 := wrapI (by omega) (by omega)
  have hmf : ∀ (fn : Fn) (first cap : Array Value) (w : World), (Instr.makeFunc fn first cap).run Tryd.prog w = .ok (.func fn first cap) w := fun _ _ _ _ => rfl
  clear hC hL hp hq hvq hgp hrk
  go_enter Tryd.func18, Tryd.ntmps18
  go_wp2_with fail
  obtain ⟨W0, hW0⟩ : ∃ W0, W0 = ((w.alloc (.cells #[.int .i64 (fn : Int), .slice A n c] 24)).alloc (.cells #[.int .i64 (G : Int), .int .i64 v] 41)).alloc (.cells #[.int .i64 0, .slice none 0 0] 24) := ⟨_, rfl⟩
  have HF0 := Lib.hid (forget_mem w (.cells #[.int .i64 (fn : Int), .slice A n c] 24) (.cells #[.int .i64 (G : Int), .int .i64 v] 41) (.cells #[.int .i64 0, .slice none 0 0] 24) W0 hW0)
  rw [← hW0]
  clear hW0
  refine (HCK.out _ HF0.out.2.2.2.2).mono ?_
  rintro e V ⟨rfl, hb1⟩
  have HM1 := Lib.hid (forget_next HF0.out hb1)
  obtain ⟨P, hP⟩ : ∃ P, P = w.heap.size := ⟨_, rfl⟩
  obtain ⟨Q, hQ⟩ : ∃ Q, Q = w.heap.size + 1 := ⟨_, rfl⟩
  have a0 : V.cell? ⟨P, 0, none⟩ = some (.int .i64 (fn : Int)) := by rw [hP]; exact Lib.cell_of_heap HM1.out.1 0
  have a1 : V.cell? ⟨P, 1, none⟩ = some (.slice A n c) := by rw [hP]; exact Lib.cell_of_heap HM1.out.1 1
  have a2 : V.cell? ⟨Q, 0, none⟩ = some (.int .i64 (G : Int)) := by rw [hQ]; exact Lib.cell_of_heap HM1.out.2.1 0
  have a3 : V.cell? ⟨Q, 1, none⟩ = some (.int .i64 v) := by rw [hQ]; exact Lib.cell_of_heap HM1.out.2.1 1
  have hPV : P < V.heap.size := by have := HM1.out.2.2.2.1; omega
  have hQV : Q < V.heap.size := by have := HM1.out.2.2.2.1; omega
  have HS1 : Hid (PlS P Q (fn : Int) (.slice A n c) (G : Int) v V V) := ⟨a0, a1, a2, a3, Below.refl _ _⟩
  clear hb1
  go_wp2_with fail
  obtain ⟨R, hR⟩ : ∃ R, R = w.heap.size + 1 + 1 := ⟨_, rfl⟩
  rw [← hR, ← hQ, ← hP]
  have HEQ := Lib.hid (And.intro hP (And.intro hQ hR))
  clear hP hQ hR
  refine wp_region_held_drew (S := (fun w' => w'.cell? ⟨P, 0, none⟩ = some (.int .i64 (fn : Int)) ∧ w'.cell? ⟨P, 1, none⟩ = some (.slice A n c) ∧ w'.cell? ⟨Q, 0, none⟩ = some (.int .i64 (G : Int)) ∧ w'.cell? ⟨Q, 1, none⟩ = some (.int .i64 v) ∧ Below V.heap.size V w')) (by kernel_rfl) ?_ (fun hHeld => ?_)
  · exact HS1.out.of hPV hQV (Below.refl _ _).drew
  refine takeW 0 insO0 (some 14) ?_ ?_ (by assumption) ?_
  rotate_left
  · (intro w hSw; dsimp only [insO0] at hSw ⊢; go_simp <;> with_reducible rfl)
  try simp only [Act.put, List.setIfInBounds_toArray, List.set_cons_zero, List.set_cons_succ]
  refine takeW 1 insO1 (some 15) ?_ ?_ (by assumption) ?_
  rotate_left
  · (intro w hSw; dsimp only [insO1] at hSw ⊢; go_simp <;> with_reducible rfl)
  try simp only [Act.put, List.setIfInBounds_toArray, List.set_cons_zero, List.set_cons_succ]
  refine takeW 2 insO2 (some 16) ?_ ?_ (by assumption) ?_
  rotate_left
  · (intro w hSw; dsimp only [insO2] at hSw ⊢; go_simp <;> with_reducible rfl)
  try simp only [Act.put, List.setIfInBounds_toArray, List.set_cons_zero, List.set_cons_succ]
  refine takeW 3 insO3 (some 17) ?_ ?_ (by assumption) ?_
  rotate_left
  · (intro w hSw; dsimp only [insO3] at hSw ⊢; go_simp <;> with_reducible rfl)
  try simp only [Act.put, List.setIfInBounds_toArray, List.set_cons_zero, List.set_cons_succ]
  refine takeW 4 insO4 (some 18) ?_ ?_ (by assumption) ?_
  rotate_left
  · (intro w hSw; dsimp only [insO4] at hSw ⊢; go_simp <;> with_reducible rfl)
  try simp only [Act.put, List.setIfInBounds_toArray, List.set_cons_zero, List.set_cons_succ]
  refine takeW 5 insO5 (some 19) ?_ ?_ (by assumption) ?_
  rotate_left
  · (intro w hSw; dsimp only [insO5] at hSw ⊢; go_simp <;> with_reducible rfl)
  try simp only [Act.put, List.setIfInBounds_toArray, List.set_cons_zero, List.set_cons_succ]
  refine takeW 6 insO6 (some 20) ?_ ?_ (by assumption) ?_
  rotate_left
  · (intro w hSw; dsimp only [insO6] at hSw ⊢; go_simp <;> with_reducible rfl)
  try simp only [Act.put, List.setIfInBounds_toArray, List.set_cons_zero, List.set_cons_succ]
  refine takeW 7 insO7 (some 21) ?_ ?_ (by assumption) ?_
  rotate_left
  · (intro w hSw; dsimp only [insO7] at hSw ⊢; go_simp <;> with_reducible rfl)
  try simp only [Act.put, List.setIfInBounds_toArray, List.set_cons_zero, List.set_cons_succ]
  refine takeW 8 insO8 (some 22) ?_ ?_ (by assumption) ?_
  rotate_left
  · (intro w hSw; dsimp only [insO8] at hSw ⊢; go_simp <;> with_reducible rfl)
  try simp only [Act.put, List.setIfInBounds_toArray, List.set_cons_zero, List.set_cons_succ]
  refine takeW 9 insO9 (some 23) ?_ ?_ (by assumption) ?_
  rotate_left
  · (intro w hSw; dsimp only [insO9] at hSw ⊢; go_simp <;> with_reducible rfl)
  try simp only [Act.put, List.setIfInBounds_toArray, List.set_cons_zero, List.set_cons_succ]
  refine takeW 10 insO10 (some 24) ?_ ?_ (by assumption) ?_
  rotate_left
  · (intro w hSw; dsimp only [insO10] at hSw ⊢; go_simp <;> with_reducible rfl)
  try simp only [Act.put, List.setIfInBounds_toArray, List.set_cons_zero, List.set_cons_succ]
  refine takeW 11 insO11 (some 25) ?_ ?_ (by assumption) ?_
  rotate_left
  · (intro w hSw; dsimp only [insO11] at hSw ⊢; go_simp <;> with_reducible rfl)
  try simp only [Act.put, List.setIfInBounds_toArray, List.set_cons_zero, List.set_cons_succ]
  refine takeW 12 insO12 (some 26) ?_ ?_ (by assumption) ?_
  rotate_left
  · (intro w hSw; dsimp only [insO12] at hSw ⊢; go_simp <;> with_reducible rfl)
  try simp only [Act.put, List.setIfInBounds_toArray, List.set_cons_zero, List.set_cons_succ]
  refine takeW 13 insO13 (some 27) ?_ ?_ (by assumption) ?_
  rotate_left
  · (intro w hSw; dsimp only [insO13] at hSw ⊢; go_simp <;> with_reducible rfl)
  try simp only [Act.put, List.setIfInBounds_toArray, List.set_cons_zero, List.set_cons_succ]
  refine takeW 14 insO14 (some 28) ?_ ?_ (by assumption) ?_
  rotate_left
  · (intro w hSw; dsimp only [insO14] at hSw ⊢; go_simp <;> with_reducible rfl)
  try simp only [Act.put, List.setIfInBounds_toArray, List.set_cons_zero, List.set_cons_succ]
  refine takeW 15 insO15 (some 29) ?_ ?_ (by assumption) ?_
  rotate_left
  · (intro w hSw; dsimp only [insO15] at hSw ⊢; go_simp <;> with_reducible rfl)
  try simp only [Act.put, List.setIfInBounds_toArray, List.set_cons_zero, List.set_cons_succ]
  refine takeW 16 insO16 (some 30) ?_ ?_ (by assumption) ?_
  rotate_left
  · (intro w hSw; dsimp only [insO16] at hSw ⊢; go_simp <;> with_reducible rfl)
  try simp only [Act.put, List.setIfInBounds_toArray, List.set_cons_zero, List.set_cons_succ]
  refine takeW 17 insO17 (some 31) ?_ ?_ (by assumption) ?_
  rotate_left
  · (intro w hSw; dsimp only [insO17] at hSw ⊢; go_simp <;> with_reducible rfl)
  try simp only [Act.put, List.setIfInBounds_toArray, List.set_cons_zero, List.set_cons_succ]
  refine takeW 18 insO18 (some 32) ?_ ?_ (by assumption) ?_
  rotate_left
  · (intro w hSw; dsimp only [insO18] at hSw ⊢; go_simp <;> with_reducible rfl)
  try simp only [Act.put, List.setIfInBounds_toArray, List.set_cons_zero, List.set_cons_succ]
  refine takeW 19 insO19 (some 33) ?_ ?_ (by assumption) ?_
  rotate_left
  · (intro w hSw; dsimp only [insO19] at hSw ⊢; go_simp <;> with_reducible rfl)
  try simp only [Act.put, List.setIfInBounds_toArray, List.set_cons_zero, List.set_cons_succ]
  refine takeW 20 insO20 (some 34) ?_ ?_ (by assumption) ?_
  rotate_left
  · (intro w hSw; dsimp only [insO20] at hSw ⊢; go_simp <;> with_reducible rfl)
  try simp only [Act.put, List.setIfInBounds_toArray, List.set_cons_zero, List.set_cons_succ]
  refine takeW 21 insO21 (some 35) ?_ ?_ (by assumption) ?_
  rotate_left
  · (intro w hSw; dsimp only [insO21] at hSw ⊢; go_simp <;> with_reducible rfl)
  try simp only [Act.put, List.setIfInBounds_toArray, List.set_cons_zero, List.set_cons_succ]
  refine takeW 22 insO22 (some 36) ?_ ?_ (by assumption) ?_
  rotate_left
  · (intro w hSw; dsimp only [insO22] at hSw ⊢; go_simp <;> with_reducible rfl)
  try simp only [Act.put, List.setIfInBounds_toArray, List.set_cons_zero, List.set_cons_succ]
  refine takeW 23 insO23 (some 37) ?_ ?_ (by assumption) ?_
  rotate_left
  · (intro w hSw; dsimp only [insO23] at hSw ⊢; go_simp <;> with_reducible rfl)
  try simp only [Act.put, List.setIfInBounds_toArray, List.set_cons_zero, List.set_cons_succ]
  refine takeW 25 insO25 (some 39) ?_ ?_ (by assumption) ?_
  rotate_left
  · (intro w hSw; dsimp only [insO25] at hSw ⊢; go_simp <;> with_reducible rfl)
  try simp only [Act.put, List.setIfInBounds_toArray, List.set_cons_zero, List.set_cons_succ]
  refine takeW 26 insO26 (some 40) ?_ ?_ (by assumption) ?_
  rotate_left
  · (intro w hSw; dsimp only [insO26] at hSw ⊢; go_simp <;> with_reducible rfl)
  try simp only [Act.put, List.setIfInBounds_toArray, List.set_cons_zero, List.set_cons_succ]
  refine wpAnyH_ready (rs := [24]) (by kernel_rfl) (by simp) ?_
  refine AllReadyH.cons (o := { dst := some 38, op := Go.Op.call { callee := Go.Callee.value (Go.Operand.func 48), args := #[Go.Operand.tmp 37], argTypes := #[24] }, type := 35, pos := "fingers.go:32", after := #[{ on := 23, ground := Go.Ground.data }, { on := 20, ground := Go.Ground.chain }, { on := 20, ground := Go.Ground.guard }], guard := some (20, false) }) rfl (fun K hK => ?_) AllReadyH.nil
  go_simp
  refine (HGA.out _ ?_).mono ?_
  · exact HM1.out.2.2.2.2.trans (((PlS.last (P := P) (Q := Q) (f := (fn : Int)) (vc := .slice A n c) (g := (G : Int)) (v := v) (V := V) (by assumption))).mono HM1.out.2.2.2.2.size)
  rintro e w2 ⟨gg, rfl, hg1, ho, hbw⟩
  have HBW : Hid (Below V.heap.size V w2) := ((PlS.last (P := P) (Q := Q) (f := (fn : Int)) (vc := .slice A n c) (g := (G : Int)) (v := v) (V := V) (by assumption))).trans (hbw.mono ((PlS.last (P := P) (Q := Q) (f := (fn : Int)) (vc := .slice A n c) (g := (G : Int)) (v := v) (V := V) (by assumption))).size)
  have hcg := gates_cell ho hGn HLN.out HQ.out
  clear ho hg1 hbw
  go_wp2_with fail
  refine hK.out _ _ ?_ (fun hHeld => ?_)
  · exact HS1.out.of hPV hQV HBW.out
  clear hK K
  try simp only [Act.put, List.setIfInBounds_toArray, List.set_cons_zero, List.set_cons_succ]
  refine takeW 27 insO27 (some 41) ?_ ?_ (by assumption) ?_
  rotate_left
  · (intro w hSw; dsimp only [insO27] at hSw ⊢; go_simp <;> with_reducible rfl)
  try simp only [Act.put, List.setIfInBounds_toArray, List.set_cons_zero, List.set_cons_succ]
  refine wpAnyH_ready (rs := [28]) (by kernel_rfl) (by simp) ?_
  refine AllReadyH.cons (o := { dst := some 42, op := Go.Op.load 3 (Go.Operand.tmp 41), type := 3, pos := "fingers.go:32", after := #[{ on := 27, ground := Go.Ground.data }, { on := 20, ground := Go.Ground.guard }], guard := some (20, false) }) rfl (fun K hK => ?_) AllReadyH.nil
  go_simp
  refine hK.out _ _ ?_ (fun hHeld => ?_)
  · exact HS1.out.of hPV hQV HBW.out
  clear hK K
  try simp only [Act.put, List.setIfInBounds_toArray, List.set_cons_zero, List.set_cons_succ]
  refine takeW 29 insO29 (some 43) ?_ ?_ (by assumption) ?_
  rotate_left
  · (intro w hSw; dsimp only [insO29] at hSw ⊢; go_simp <;> with_reducible rfl)
  try simp only [Act.put, List.setIfInBounds_toArray, List.set_cons_zero, List.set_cons_succ]
  refine takeW 30 insO30 (some 44) ?_ ?_ (by assumption) ?_
  rotate_left
  · (intro w hSw; dsimp only [insO30] at hSw ⊢; go_simp <;> with_reducible rfl)
  try simp only [Act.put, List.setIfInBounds_toArray, List.set_cons_zero, List.set_cons_succ]
  refine wpAnyH_done (by kernel_rfl) ?_ _
  obtain ⟨y0, y1, y2, y3, _⟩ := HS1.out.of hPV hQV HBW.out
  have HMD := Lib.hid (forget_next HM1.out HBW.out)
  have HQ2 : Hid (w2.heap[Q]? = some (.cells #[.int .i64 (G : Int), .int .i64 v] 41 (0, 0))) := by obtain ⟨_, hQ, _⟩ := HEQ.out; rw [hQ]; exact HMD.out.2.1
  clear a0 a1 a2 a3
  go_upto_region 8 with (first
    | (go_at_call 49; refine (HFE.out w2 Q HMD.out.2.2.2.2 HQ2.out).mono ?_; rintro e w5 ⟨gL, rfl, ho5, hb5⟩; rw [HLM.out] at ho5 ⊢; have HO5 := Lib.hid (And.intro ho5 hb5); have HM5 := Lib.hid (forget_next HMD.out hb5); clear ho5 hb5 y0 y1 y2 y3))
  obtain ⟨Y, hY⟩ : ∃ Y, Y = w5.alloc (.cells #[.int .i64 ((fn : Int) + 1), .slice (some ⟨gL, 0, none⟩) n n] 24) := ⟨_, rfl⟩
  have HYB : Hid (Below w5.heap.size w5 Y) := by rw [hY]; exact (Below.refl _ _).alloc (Nat.le_refl _) _
  have HMY := Lib.hid (forget_next HM5.out HYB.out)
  have b0 : Y.cell? ⟨w5.heap.size, 0, none⟩ = some (.int .i64 ((fn : Int) + 1)) := by rw [hY]; exact Lib.cell_of_heap (heap_alloc_new w5 _) 0
  have b1 : Y.cell? ⟨w5.heap.size, 1, none⟩ = some (.slice (some ⟨gL, 0, none⟩) n n) := by rw [hY]; exact Lib.cell_of_heap (heap_alloc_new w5 _) 1
  rw [← hY]
  clear hY
  obtain ⟨B, hB⟩ : ∃ B, B = w5.heap.size := ⟨_, rfl⟩
  rw [← hB] at b0 b1 ⊢
  clear hB
  obtain ⟨hP, hQ, hR⟩ := HEQ.out
  have r0 : Y.cell? ⟨R, 0, none⟩ = some (.int .i64 0) := by rw [hR]; exact Lib.cell_of_heap HMY.out.2.2.1 0
  have r1 : Y.cell? ⟨R, 1, none⟩ = some (.slice none 0 0) := by rw [hR]; exact Lib.cell_of_heap HMY.out.2.2.1 1
  have rf : ∀ x, Y.frozen? ⟨R, x, none⟩ = false := by intro x; rw [hR]; have h1 := HMY.out.2.2.1; simp [World.frozen?, h1]
  clear hP hQ hR
  go_wp2_with fail
  obtain ⟨X, hX⟩ : ∃ X, X = (Y.setCell ⟨R, 0, none⟩ (.int .i64 ((fn : Int) + 1))).setCell ⟨R, 1, none⟩ (.slice (some ⟨gL, 0, none⟩) n n) := ⟨_, rfl⟩
  rw [← hX]
  obtain ⟨hP, hQ, hR⟩ := HEQ.out
  obtain ⟨k0, k1, hXB, _, hXK⟩ := res_end (r := R) (by rw [hR]; exact HMY.out.2.2.1) (by omega) HMY.out.2.2.2.2 _ _ hX
  have hgL := (World.ownsRow.lt HO5.out.1 gL rfl).1
  have hw1 := HMD.out.2.2.2.1
  refine bodyPost_ret (v := .tuple #[.agg #[.int .i64 ((fn : Int) + 1), .slice (some ⟨gL, 0, none⟩) n n], .int .i64 0]) (by simp [results, Tryd.results18, go_sem, k0, k1]) rfl ⟨gL, rfl, ?_, hXB⟩
  exact own_base' (own_kept2' (ownsRow_below HO5.out.1 HYB.out) (fun g e => hXK g (by have e' : gL = g := (by simpa [Value.ownBlock] using e); omega))) (by omega)

end Go.Proofs.YtplpccgbciglpaaDoor
