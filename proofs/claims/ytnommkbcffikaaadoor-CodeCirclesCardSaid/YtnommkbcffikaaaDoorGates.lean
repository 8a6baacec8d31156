/-
  The walk of gates: the number of passes of each gate.
-/
import Derived.Test.YtnommkbcffikaaaDoorClosed
namespace Go.Proofs.YtnommkbcffikaaaDoor
open Go.RowKit

theorem infoInt' : (Tryd.prog.info? 3).map (fun i => (i.zero, i.size, i.bytes)) = some (some (.int .i64 0), 1, 8) := by kernel_rfl
theorem madeCells_ints' (n : Nat) : (madeCells (Value.int .i64 0).cells (n * 1)).toList = List.replicate n (Value.int .i64 0) := by
  apply List.ext_getElem
  · simp [madeCells]
  · intro i h1 h2
    simp [madeCells, Value.cells, Nat.mod_one]
theorem wpList_make_intsV {w : World} {ops : Array Oper} {rest : List Oper} {o : Oper} {a : Act} {Q : Exit → Act → World → Prop} (hgd : o.guard = none) (l c : Operand) (ho : o.op = Op.makeSlice 32 l c)
    (n : Nat) (m : Int) (hm : m = n) (hl : a.eval l = .int .i64 m) (hc : a.eval c = .int .i64 m) (hn : n ≤ 100000)
    (hK : ∀ w', OwnV w' w.heap.size 3 (.slice (some ⟨w.heap.size, 0, none⟩) n n) (List.replicate n (.int .i64 0)) → Below w.heap.size w w' → wpList Tryd.prog ops Q rest (a.put o.dst (.slice (some ⟨w.heap.size, 0, none⟩) n n)) w') :
    wpList Tryd.prog ops Q (o :: rest) a w := by
  obtain ⟨i0, hi, hz0, hz1, hz2⟩ := info_parts infoInt'
  refine wpList_make_full w hgd l c 32 ho w.heap.size 3 i0 (.int .i64 0) 1 Tryd.underlying32 hi hz0 hz1 .i64 .i64 m m n hl hc hm hm (by rw [hz2]; omega) (by unfold maxLen; omega) (Nat.le_refl _) ?_
  intro w' h1 h2
  refine hK w' ?_ ((Below.refl _ _).grown h2 (Nat.le_refl _) (fun k hk => by cases hk))
  unfold OwnV
  rw [List.length_replicate, ← madeCells_ints']
  exact h1

/-- The passes of each gate, among the first j letters. -/
def gatesL (m : Nat) (ls : List Lt) (j : Nat) : List Value := (List.range m).map fun (g : Nat) => .int .i64 (cntB (inGate (g : Int)) (ls.take j))
theorem gatesL_len (m : Nat) (ls : List Lt) (j : Nat) : (gatesL m ls j).length = m := by simp [gatesL]
theorem gatesL_zero (m : Nat) (ls : List Lt) : gatesL m ls 0 = List.replicate m (.int .i64 0) := by
  apply List.ext_getElem
  · simp [gatesL]
  · intro i h1 h2
    simp [gatesL, cntB]
theorem gatesL_at {m : Nat} {ls : List Lt} {j g : Nat} (hg : g < m) : (gatesL m ls j)[g]? = some (.int .i64 (cntB (inGate (g : Int)) (ls.take j))) := by
  unfold gatesL
  rw [List.getElem?_map, List.getElem?_range hg]
  rfl
theorem gatesL_pass {m : Nat} {ls : List Lt} {j g : Nat} {l : Lt} (hl : ls[j]? = some l) (hk : l.kind = 1) (hg : l.gate = (g : Int)) (hgm : g < m) :
    (gatesL m ls j).set g (.int .i64 (cntB (inGate (g : Int)) (ls.take j) + 1)) = gatesL m ls (j + 1) := by
  apply List.ext_getElem?
  intro i
  by_cases hi : i < m
  · rw [gatesL_at hi, cntB_succ hl]
    by_cases e : i = g
    · subst e
      rw [List.getElem?_set_self (by rw [gatesL_len]; exact hi), if_pos (by simp [inGate, hk, hg])]
    · rw [List.getElem?_set_ne (fun c => e c.symm), gatesL_at hi, if_neg (by simp [inGate, hk, hg]; omega), Int.add_zero]
  · rw [List.getElem?_eq_none (by rw [List.length_set, gatesL_len]; omega), List.getElem?_eq_none (by rw [gatesL_len]; omega)]
theorem gatesL_other {m : Nat} {ls : List Lt} {j : Nat} {l : Lt} (hl : ls[j]? = some l) (hk : ¬ l.kind = 1) : gatesL m ls j = gatesL m ls (j + 1) := by
  unfold gatesL
  refine List.map_congr_left fun g _ => ?_
  rw [cntB_succ hl, if_neg (by simp [inGate, hk]), Int.add_zero]

def GaRel (ls : List Lt) (n m g : Nat) (w0 : World) (iv : Value) (wr : World) : Prop :=
  ∃ j : Nat, j ≤ n ∧ iv = .int .i64 j ∧ OwnV wr g 3 (.slice (some ⟨g, 0, none⟩) m m) (gatesL m ls j) ∧ Below g w0 wr ∧ g < wr.heap.size

set_option maxHeartbeats 4000000 in
set_option maxRecDepth 100000 in
theorem gates_calls (fn : Nat) (A : Option Addr) (n c : Nat) (ls : List Lt) (w : World) (h : LS w A n ls) (hn : n ≤ 1000) (hf : fn ≤ 40) (hg : ∀ l, l ∈ ls → l.kind = 1 → 0 ≤ l.gate ∧ l.gate ≤ fn) :
    Calls Tryd.prog 71 #[.agg #[.int .i64 (fn : Int), .slice A n c]] w fun e w' => ∃ g, e = .returned (.slice (some ⟨g, 0, none⟩) (fn + 1) (fn + 1)) ∧ w.heap.size ≤ g ∧ OwnV w' g 3 (.slice (some ⟨g, 0, none⟩) (fn + 1) (fn + 1)) (gatesL (fn + 1) ls n) ∧ Below w.heap.size w w' := by
  have HLS := Lib.hid h
  have HL := Lib.hid h.1
  have HGT := Lib.hid hg
  clear hg h
  go_enter Tryd.func71, Tryd.ntmps71
  go_wp2_with (at_make; refine wpList_make_intsV rfl _ _ rfl (fn + 1) ((fn : Int) + 1) (by omega) rfl rfl (by omega) ?_; intro w1 hown1 hb1; obtain ⟨x, x0, x1⟩ := (Box.made w (fn : Int) A n c 24).below hb1; have HO1 := Lib.hid hown1; have HB1 := Lib.hid hb1; clear hown1 hb1)
  clear x0 x1 x
  have HBW : Hid (Below w.heap.size w w1) := ((Below.refl w.heap.size w).alloc (Nat.le_refl _) (.cells #[.int .i64 (fn : Int), .slice A n c] 24)).trans (HB1.out.mono (by simp))
  have HO2 : Hid (OwnV w1 (w.heap.size + 1) 3 (.slice (some ⟨w.heap.size + 1, 0, none⟩) (fn + 1) (fn + 1)) (gatesL (fn + 1) ls 0)) := by
    unfold Hid
    rw [gatesL_zero]
    have h1 := HO1.out
    simpa using h1
  obtain ⟨g, hg⟩ : ∃ g, g = w.heap.size + 1 := ⟨_, rfl⟩
  have hgw : w.heap.size < g := by omega
  rw [← hg] at HO2 ⊢
  clear hg HO1 HB1
  have HGW := Lib.hid hgw
  clear hgw
  have hg1 : g < w1.heap.size := (HO2.out.cell (k := 0) (by omega)).choose_spec.2.2.2.2
  have HG1 := Lib.hid hg1
  clear hg1
  go_loopw [13] (fun iv wr => GaRel ls n (fn + 1) g w1 iv wr) (fun iv _ => n - (intOf iv).toNat)
  case atStart => exact ⟨0, Nat.zero_le _, rfl, HO2.out, Below.refl _ _, HG1.out⟩
  case round =>
    obtain ⟨j, hj, rfl, hown, hb, hgs⟩ := hrel
    have HO := Lib.hid hown
    have HB := Lib.hid hb
    have HBR := Lib.hid (HBW.out.trans (hb.mono (Nat.le_of_lt HGW.out)))
    clear hown hb
    by_cases hlt : j < n
    · obtain ⟨b, off, l, rfl, hbl, hl, c0, c1, c2, c3, c4, c5⟩ := (HLS.out.below HBR.out).at_ hlt
      have hj1 : (j : Int) < n := by omega
      by_cases hk : l.kind = 1
      · have hke : (l.kind == 1) = true := by rw [beq_iff_eq]; exact hk
        have hgr := HGT.out l (List.mem_of_getElem? hl) hk
        obtain ⟨gn, hgn⟩ := Int.eq_ofNat_of_zero_le hgr.1
        have hgm : gn < fn + 1 := by omega
        have hgi : (gn : Int) < (fn : Int) + 1 := by omega
        obtain ⟨y, hy, hyc, hyf, _, hgs2⟩ := HO.out.cell (k := gn) hgm
        obtain rfl : y = .int .i64 (cntB (inGate (gn : Int)) (ls.take j)) := by rw [gatesL_at hgm] at hy; injection hy with hy; exact hy.symm
        have b0 := cntB_nonneg (inGate (gn : Int)) (ls.take j)
        have b1 := cntB_take_le (inGate (gn : Int)) ls j
        have HST := Lib.hid (gatesL_pass hl hk hgn hgm)
        obtain ⟨cv, hcv⟩ : ∃ cv, cntB (inGate (gn : Int)) (ls.take j) = cv := ⟨_, rfl⟩
        rw [hcv] at hyc b0 b1 HST
        rw [hgn] at c1
        have HREL : Hid (∀ o, GaRel ls n (fn + 1) g w1 (.int .i64 ((j : Int) + 1)) ((wr.setCell ⟨g, gn, none⟩ (.int .i64 (cv + 1))).alloc o)) := by
          intro o
          have hba : Below (wr.setCell ⟨g, gn, none⟩ (.int .i64 (cv + 1))).heap.size (wr.setCell ⟨g, gn, none⟩ (.int .i64 (cv + 1))) ((wr.setCell ⟨g, gn, none⟩ (.int .i64 (cv + 1))).alloc o) := (Below.refl _ _).alloc (Nat.le_refl _) _
          have h1 := HO.out.set (k := gn) hgm (.int .i64 (cv + 1))
          rw [HST.out] at h1
          exact ⟨j + 1, by omega, by rw [Int.natCast_add]; rfl, h1.below hba, (HB.out.setCell (p := ⟨g, gn, none⟩) (Nat.le_refl _) _).alloc (by simp; omega) _, by simp; omega⟩
        clear hl hy hk hgn hgr hcv
        have hne1 : ¬ g = wr.heap.size := by omega
        go_wp2_with fail
        go_roundw
        case rel => exact HREL.out _
        case measure => simp [intOf]; omega
      · have hke : (l.kind == 1) = false := by rw [beq_eq_false_iff_ne]; exact hk
        have HST := Lib.hid (gatesL_other (m := fn + 1) hl hk)
        have HREL : Hid (∀ o, GaRel ls n (fn + 1) g w1 (.int .i64 ((j : Int) + 1)) (wr.alloc o)) := by
          intro o
          have hba : Below wr.heap.size wr (wr.alloc o) := (Below.refl _ _).alloc (Nat.le_refl _) _
          have h1 := HO.out.below hba
          rw [HST.out] at h1
          exact ⟨j + 1, by omega, by rw [Int.natCast_add]; rfl, h1, HB.out.alloc (by omega) _, by simp; omega⟩
        clear hl hk
        go_wp2_with fail
        go_roundw
        case rel => exact HREL.out _
        case measure => simp [intOf]; omega
    · have hjn : j = n := by omega
      subst hjn
      go_wp2_with fail
      go_ret
      exact ⟨g, rfl, Nat.le_of_lt HGW.out, HO.out, HBR.out⟩

end Go.Proofs.YtnommkbcffikaaaDoor
