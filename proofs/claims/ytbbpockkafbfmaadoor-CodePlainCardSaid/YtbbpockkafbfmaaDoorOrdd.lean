/-
  The walk of the map's method ordered.
-/
import Derived.Test.YtbbpockkafbfmaaDoorGates
import Derived.StillTailTactics
namespace Go.Proofs.YtbbpockkafbfmaaDoor
open Go.RowKit

theorem wrapI {x : Int} (h1 : -9223372036854775808 ≤ x) (h2 : x ≤ 9223372036854775807) : IntKind.i64.wrap x = x := by
  simp only [IntKind.wrap, IntKind.bits, IntKind.signed]
  simp
  omega
theorem wpList_make_boolsV {w : World} {ops : Array Oper} {rest : List Oper} {o : Oper} {a : Act} {Q : Exit → Act → World → Prop} (hgd : o.guard = none) (l c : Operand) (ho : o.op = Op.makeSlice 102 l c)
    (n : Nat) (m : Int) (hm : m = n) (hl : a.eval l = .int .i64 m) (hc : a.eval c = .int .i64 m) (hn : n ≤ 100000)
    (hK : ∀ w', OwnV w' w.heap.size 4 (.slice (some ⟨w.heap.size, 0, none⟩) n n) (List.replicate n (.bool false)) → Below w.heap.size w w' → wpList Tryd.prog ops Q rest (a.put o.dst (.slice (some ⟨w.heap.size, 0, none⟩) n n)) w') :
    wpList Tryd.prog ops Q (o :: rest) a w := by
  obtain ⟨i0, hi, hz0, hz1, hz2⟩ := info_parts infoBool
  refine wpList_make_full w hgd l c 102 ho w.heap.size 4 i0 (.bool false) 1 Tryd.underlying102 hi hz0 hz1 .i64 .i64 m m n hl hc hm hm (by rw [hz2]; omega) (by unfold maxLen; omega) (Nat.le_refl _) ?_
  intro w' h1 h2
  refine hK w' ?_ ((Below.refl _ _).grown h2 (Nat.le_refl _) (fun k hk => by cases hk))
  unfold OwnV
  rw [List.length_replicate, ← madeCells_bools]
  exact h1

/-- How many passes lie in the gates before a gate. -/
def befG (ls : List Lt) : Nat → Int
  | 0 => 0
  | g + 1 => befG ls g + cntB (inGate (g : Int)) ls
/-- The sums of the first k + 1 gates, zeros behind them. -/
def befL (m : Nat) (ls : List Lt) (k : Nat) : List Value := (List.range m).map fun g => .int .i64 (if g ≤ k then befG ls g else 0)

theorem befL_len (m : Nat) (ls : List Lt) (k : Nat) : (befL m ls k).length = m := by simp [befL]
theorem befL_at {m : Nat} {ls : List Lt} {k g : Nat} (hg : g < m) : (befL m ls k)[g]? = some (.int .i64 (if g ≤ k then befG ls g else 0)) := by
  unfold befL
  rw [List.getElem?_map, List.getElem?_range hg]
  rfl
theorem befL_zero (m : Nat) (ls : List Lt) : befL m ls 0 = List.replicate m (.int .i64 0) := by
  apply List.ext_getElem?
  intro i
  by_cases hi : i < m
  · rw [befL_at hi, List.getElem?_replicate, if_pos hi]
    by_cases e : i = 0
    · subst e; rfl
    · rw [if_neg (by omega)]
  · rw [List.getElem?_eq_none (by rw [befL_len]; omega), List.getElem?_eq_none (by simp; omega)]
theorem befL_succ {m : Nat} {ls : List Lt} {k : Nat} (_hk : k + 1 < m) : (befL m ls k).set (k + 1) (.int .i64 (befG ls k + cntB (inGate (k : Int)) ls)) = befL m ls (k + 1) := by
  apply List.ext_getElem?
  intro i
  by_cases hi : i < m
  · by_cases e : i = k + 1
    · subst e
      rw [List.getElem?_set_self (by rw [befL_len]; exact hi), befL_at hi, if_pos (Nat.le_refl _)]
      rfl
    · rw [List.getElem?_set_ne (fun c => e c.symm), befL_at hi, befL_at hi]
      by_cases c : i ≤ k
      · rw [if_pos c, if_pos (by omega)]
      · rw [if_neg c, if_neg (by omega)]
  · rw [List.getElem?_eq_none (by rw [List.length_set, befL_len]; omega), List.getElem?_eq_none (by rw [befL_len]; omega)]
theorem befG_bd (ls : List Lt) : ∀ g, 0 ≤ befG ls g ∧ befG ls g ≤ g * ls.length
  | 0 => by simp [befG]
  | g + 1 => by
    obtain ⟨h1, h2⟩ := befG_bd ls g
    have h3 := cntB_nonneg (inGate (g : Int)) ls
    have h4 : cntB (inGate (g : Int)) ls ≤ ls.length := by
      unfold cntB
      have := List.length_filter_le (inGate (g : Int)) ls
      omega
    rw [befG]
    rw [show ((g + 1 : Nat) : Int) * (ls.length : Int) = (g : Int) * ls.length + ls.length by rw [Int.natCast_add, Int.add_mul]; simp]
    omega
def BeRel (ls : List Lt) (m g fn : Nat) (w0 : World) (iv : Value) (wr : World) : Prop :=
  ∃ j : Nat, j ≤ fn ∧ iv = .int .i64 j ∧ OwnV wr g 3 (.slice (some ⟨g, 0, none⟩) m m) (befL m ls j) ∧ Below g w0 wr

def intV (k : Nat) : Value := .int .i64 (k : Int)
/-- What ordered notes: which spots are taken, the letter at each spot, the spot of each letter. -/
structure OrdS where
  tk : List Bool
  ax : List Nat
  sp : List Nat
def ordStep (ls : List Lt) (st : OrdS) (i : Nat) (l : Lt) : Option OrdS :=
  if l.kind = 1 then
    if 1 ≤ l.rank ∧ l.rank ≤ cntB (inGate l.gate) ls then
      if st.tk[(befG ls l.gate.toNat + l.rank - 1).toNat]? = some false then
        some ⟨st.tk.set (befG ls l.gate.toNat + l.rank - 1).toNat true, st.ax.set (befG ls l.gate.toNat + l.rank - 1).toNat i, st.sp.set i (befG ls l.gate.toNat + l.rank - 1).toNat⟩
      else none
    else none
  else some st
/-- What has been noted behind the first letters; none where the order has been found wrong. -/
def ordM (ls : List Lt) (m n : Nat) : Nat → Option OrdS
  | 0 => some ⟨List.replicate m false, List.replicate m 0, List.replicate n 0⟩
  | j + 1 => (ordM ls m n j).bind fun st => match ls[j]? with
    | some l => ordStep ls st j l
    | none => some st
theorem ordM_succ {ls : List Lt} {m n j : Nat} {st : OrdS} {l : Lt} (h : ordM ls m n j = some st) (hl : ls[j]? = some l) : ordM ls m n (j + 1) = ordStep ls st j l := by
  rw [ordM, h, Option.bind_some, hl]
theorem ordM_none {ls : List Lt} {m n j : Nat} (h : ordM ls m n j = none) : ∀ k, j ≤ k → ordM ls m n k = none := by
  intro k hk
  obtain ⟨d, rfl⟩ := Nat.exists_eq_add_of_le hk
  induction d with
  | zero => exact h
  | succ d ih => rw [← Nat.add_assoc, ordM, ih (by omega), Option.bind_none]
theorem befG_mono (ls : List Lt) {g k : Nat} (h : g ≤ k) : befG ls g ≤ befG ls k := by
  obtain ⟨d, rfl⟩ := Nat.exists_eq_add_of_le h
  induction d with
  | zero => exact Int.le_refl _
  | succ d ih =>
    have h1 := ih (by omega)
    have h2 := cntB_nonneg (inGate ((g + d : Nat) : Int)) ls
    rw [← Nat.add_assoc, befG]
    omega
/-- What ordered leaves. -/
def OrderedPost (ls : List Lt) (n m P : Nat) (f : Int) (vL vA vO : Value) (w : World) (e : Ending) (w' : World) : Prop :=
  Below P w w' ∧ (∀ k, k < w.heap.size → k ≠ P → w'.heap[k]? = w.heap[k]?) ∧
  ((ordM ls m n n = none ∧ e = .returned (.bool false)) ∨
   ∃ st x s, ordM ls m n n = some st ∧ e = .returned (.bool true) ∧ w.heap.size ≤ x ∧ x < s ∧ DiaB w' P f vL vA (.slice (some ⟨x, 0, none⟩) m m) (.slice (some ⟨s, 0, none⟩) n n) vO ∧
     OwnV w' x 3 (.slice (some ⟨x, 0, none⟩) m m) (st.ax.map intV) ∧ OwnV w' s 3 (.slice (some ⟨s, 0, none⟩) n n) (st.sp.map intV))
def OrRel (ls : List Lt) (n m fn P g1 g2 t x s : Nat) (f : Int) (vL vA vO : Value) (w : World) (iv : Value) (wr : World) : Prop :=
  ∃ j st, j ≤ n ∧ iv = .int .i64 (j : Int) ∧ ordM ls m n j = some st ∧ DiaB wr P f vL vA (.slice (some ⟨x, 0, none⟩) m m) (.slice (some ⟨s, 0, none⟩) n n) vO ∧
    OwnV wr g1 3 (.slice (some ⟨g1, 0, none⟩) (fn + 1) (fn + 1)) (gatesL (fn + 1) ls n) ∧ OwnV wr g2 3 (.slice (some ⟨g2, 0, none⟩) (fn + 1) (fn + 1)) (befL (fn + 1) ls fn) ∧
    OwnV wr t 4 (.slice (some ⟨t, 0, none⟩) m m) (st.tk.map Value.bool) ∧ OwnV wr x 3 (.slice (some ⟨x, 0, none⟩) m m) (st.ax.map intV) ∧
    OwnV wr s 3 (.slice (some ⟨s, 0, none⟩) n n) (st.sp.map intV) ∧ (∀ k, k < w.heap.size → k ≠ P → wr.heap[k]? = w.heap[k]?) ∧ Below P w wr

set_option maxHeartbeats 4000000 in
set_option maxRecDepth 100000 in
theorem ordered_calls (P fn m : Nat) (A : Option Addr) (n c : Nat) (ls : List Lt) (vA vX vS vO : Value) (w : World) (h : DiaB w P (fn : Int) (.slice A n c) vA vX vS vO) (hL : LS w A n ls) (hbP : ∀ b off, A = some ⟨b, off, none⟩ → b ≠ P) (hn : n ≤ 1000) (hf : fn ≤ 40)
    (hg : ∀ l, l ∈ ls → l.kind = 1 → 0 ≤ l.gate ∧ l.gate ≤ fn) (hm : befG ls (fn + 1) = m) :
    Calls Tryd.prog 80 #[.pointer (some ⟨P, 0, none⟩)] w (OrderedPost ls n m P (fn : Int) (.slice A n c) vA vO w) := by
  have HD := Lib.hid h
  have HLS := Lib.hid hL
  have HL := Lib.hid hL.1
  have HBP := Lib.hid hbP
  have HGT := Lib.hid hg
  have HGA := Lib.hid (gates_calls fn A n c ls w hL hn hf hg)
  obtain ⟨hP, p0, p1, p2, p3, p4, p5⟩ := h.dia
  go_enter Tryd.func80, Tryd.ntmps80
  go_wp2_with fail
  refine HGA.out.mono ?_
  rintro e w1 ⟨g1, rfl, hg1, hown1, hb1⟩
  have HO1 := Lib.hid hown1
  have HB1 := Lib.hid hb1
  have HD1 := Lib.hid (HD.out.kept (hb1.block P hP))
  have hgb : w1.heap.size = w1.heap.size := rfl
  obtain ⟨r, r0, r1, r2, r3, r4, r5⟩ := HD1.out.dia
  clear hown1 hb1 p0 p1 p2 p3 p4 p5 hgb
  go_wp2_with (at_make; refine wpList_make_intsV rfl _ _ rfl (fn + 1) _ (by omega) rfl rfl (by omega) ?_; intro w2 hown2 hb2; obtain ⟨s, s0, s1, s2, s3, s4, s5⟩ := (HD1.out.dia).below hb2; have HO2 := Lib.hid hown2; have HB2 := Lib.hid hb2; clear hown2 hb2)
  have hg1s : g1 < w1.heap.size := (HO1.out.cell (k := 0) (by omega)).choose_spec.2.2.2.2
  have HG1 := Lib.hid hg1s
  have HC2 := Lib.hid (HO1.out.below HB2.out)
  have HS2 : Hid (OwnV w2 w1.heap.size 3 (.slice (some ⟨w1.heap.size, 0, none⟩) (fn + 1) (fn + 1)) (befL (fn + 1) ls 0)) := by
    unfold Hid
    rw [befL_zero]
    exact HO2.out
  have HD2 := Lib.hid (HD1.out.kept (HB2.out.block P r))
  have HPW := Lib.hid (Nat.lt_of_lt_of_le hP (HB1.out.size))
  have HPP := Lib.hid hP
  have HGW := Lib.hid hg1
  have HWG := Lib.hid HB1.out.size
  have HW2 : Hid (Below w.heap.size w w2) := HB1.out.trans (HB2.out.mono HB1.out.size)
  obtain ⟨g2, hg2⟩ : ∃ g2, g2 = w1.heap.size := ⟨_, rfl⟩
  rw [← hg2] at HG1 HS2 HPW HWG ⊢
  clear hg2 HO2 HO1 r r0 r1 r2 r3 r4 r5 s s0 s1 s2 s3 s4 s5 hg1s h hL HB2
  go_loopw [23] (fun iv wr => BeRel ls (fn + 1) g2 fn w2 iv wr) (fun iv _ => fn - (intOf iv).toNat)
  case atStart => exact ⟨0, Nat.zero_le _, rfl, HS2.out, Below.refl _ _⟩
  case round =>
    obtain ⟨j, hj, rfl, hown, hb⟩ := hrel
    have HO := Lib.hid hown
    have HB := Lib.hid hb
    have HC := Lib.hid (HC2.out.kept (hb.block g1 HG1.out))
    clear hown hb
    by_cases hlt : j < fn
    · have hj1 : (j : Int) < fn := by omega
      have hj2 : (j : Int) < (fn : Int) + 1 := by omega
      have hj3 : (j : Int) + 1 < (fn : Int) + 1 := by omega
      obtain ⟨y, hy, hyc, hyf, _, hys⟩ := HO.out.cell (k := j) (by omega)
      obtain rfl : y = .int .i64 (befG ls j) := by rw [befL_at (by omega), if_pos (Nat.le_refl _)] at hy; injection hy with hy; exact hy.symm
      obtain ⟨z, hz, hzc, hzf, _, hzs⟩ := HO.out.cell (k := j + 1) (by omega)
      obtain ⟨u, hu, huc, huf, _, hus⟩ := HC.out.cell (k := j) (by omega)
      obtain rfl : u = .int .i64 (cntB (inGate (j : Int)) ls) := by
        rw [gatesL_at (by omega), List.take_of_length_le (by rw [HL.out]; omega)] at hu
        injection hu with hu; exact hu.symm
      have HST := Lib.hid (befL_succ (m := fn + 1) (ls := ls) (k := j) (by omega))
      have h1 := befG_bd ls (j + 1)
      have h2 := befG_bd ls j
      have h3 : ((j + 1 : Nat) : Int) * (ls.length : Int) ≤ 41 * 1000 := by
        have e1 : (ls.length : Int) ≤ 1000 := by rw [HL.out]; omega
        have e2 : ((j + 1 : Nat) : Int) ≤ 41 := by omega
        have := Int.mul_le_mul e2 e1 (by omega) (by omega)
        omega
      have h4 : befG ls (j + 1) = befG ls j + cntB (inGate (j : Int)) ls := rfl
      have hbd : befG ls j + cntB (inGate (j : Int)) ls ≤ 41000 := by rw [← h4]; omega
      have hbd0 : 0 ≤ befG ls j + cntB (inGate (j : Int)) ls := by rw [← h4]; exact h1.1
      obtain ⟨bv, hbv⟩ : ∃ bv, befG ls j = bv := ⟨_, rfl⟩
      obtain ⟨cv, hcv⟩ : ∃ cv, cntB (inGate (j : Int)) ls = cv := ⟨_, rfl⟩
      rw [hbv] at hyc hbd hbd0 HST
      rw [hcv] at huc hbd hbd0 HST
      have HREL : Hid (BeRel ls (fn + 1) g2 fn w2 (.int .i64 ((j : Int) + 1)) (wr.setCell ⟨g2, j + 1, none⟩ (.int .i64 (bv + cv))).drew) := by
        have k1 := HO.out.set (k := j + 1) (by omega) (.int .i64 (bv + cv))
        rw [HST.out] at k1
        exact ⟨j + 1, by omega, by rw [Int.natCast_add]; rfl, k1, (HB.out.setCell (p := ⟨g2, j + 1, none⟩) (Nat.le_refl _) _).drew⟩
      clear hy hz hu h1 h2 h3 h4 hbv hcv
      go_wp2_with fail
      go_region
      go_wp2_with fail
      go_roundw
      case rel => exact HREL.out
      case measure => simp [intOf]; omega
    · have hjn : j = fn := by omega
      subst hjn
      obtain ⟨y, hy, hyc, hyf, _, hys⟩ := HO.out.cell (k := j) (by omega)
      obtain rfl : y = .int .i64 (befG ls j) := by rw [befL_at (by omega), if_pos (Nat.le_refl _)] at hy; injection hy with hy; exact hy.symm
      obtain ⟨u, hu, huc, huf, _, hus⟩ := HC.out.cell (k := j) (by omega)
      obtain rfl : u = .int .i64 (cntB (inGate (j : Int)) ls) := by
        rw [gatesL_at (by omega), List.take_of_length_le (by rw [HL.out]; omega)] at hu
        injection hu with hu; exact hu.symm
      have HDR := Lib.hid (HD2.out.kept (HB.out.block P HPW.out))
      obtain ⟨hPr, p0, p1, p2, p3, p4, p5⟩ := HDR.out.dia
      have hj5 : (j : Int) < (j : Int) + 1 := by omega
      clear hy hu
      go_wp2_with fail
      have h1 := befG_bd ls (j + 1)
      have h3 : ((j + 1 : Nat) : Int) * (ls.length : Int) ≤ 41 * 1000 := by
        have e1 : (ls.length : Int) ≤ 1000 := by rw [HL.out]; omega
        have e2 : ((j + 1 : Nat) : Int) ≤ 41 := by omega
        have := Int.mul_le_mul e2 e1 (by omega) (by omega)
        omega
      have h4 : befG ls (j + 1) = befG ls j + cntB (inGate (j : Int)) ls := rfl
      obtain ⟨bv, hbv⟩ : ∃ bv, befG ls j = bv := ⟨_, rfl⟩
      obtain ⟨cv, hcv⟩ : ∃ cv, cntB (inGate (j : Int)) ls = cv := ⟨_, rfl⟩
      have hbd : befG ls j + cntB (inGate (j : Int)) ls ≤ 41000 := by rw [← h4]; omega
      have hbd0 : 0 ≤ befG ls j + cntB (inGate (j : Int)) ls := by rw [← h4]; exact h1.1
      rw [hbv] at hyc hbd hbd0
      rw [hcv] at huc hbd hbd0
      obtain ⟨tn, htn⟩ := Int.eq_ofNat_of_zero_le hbd0
      have HTN := Lib.hid htn
      have HTN2 : Hid ((tn : Int) = m) := by unfold Hid; rw [← hm, h4, hbv, hcv]; exact htn.symm
      have htb : tn ≤ 100000 := by omega
      clear h1 h3 h4 htn
      go_still_tail 17, (by kernel_rfl)
      change wpList _ _ _ _ _ wr.drew
      have HDRW := Lib.hid (show DiaB wr.drew P (j : Int) (.slice A n c) vA vX vS vO from HDR.out)
      have HOW := Lib.hid (show OwnV wr.drew g2 3 (.slice (some ⟨g2, 0, none⟩) (j + 1) (j + 1)) (befL (j + 1) ls j) from HO.out)
      have HCW := Lib.hid (show OwnV wr.drew g1 3 (.slice (some ⟨g1, 0, none⟩) (j + 1) (j + 1)) (gatesL (j + 1) ls n) from HC.out)
      have HBW : Hid (Below w.heap.size w wr.drew) := (HW2.out.trans (HB.out.mono HWG.out)).drew
      clear hyc hyf huc huf hys hus p0 p1 p2 p3 p4 p5 hPr
      generalize wr.drew = w3 at HDRW HOW HCW HBW ⊢
      have hP3 : P < w3.heap.size := HDRW.out.dia.1
      go_wp2_with (first
        | (at_make; refine wpList_make_boolsV rfl _ _ rfl tn (bv + cv) HTN.out (by go_simp; exact wrapI (by omega) (by omega)) (by go_simp; exact wrapI (by omega) (by omega)) (by omega) ?_; intro w4 hown4 hb4; have HO4 := Lib.hid hown4; have HB4 := Lib.hid hb4; have HD4 := Lib.hid (HDRW.out.kept (hb4.block P hP3)); have hP4 : P < w4.heap.size := HD4.out.dia.1; obtain ⟨r, r0, r1, r2, r3, r4, r5⟩ := HD4.out.dia; clear hown4 hb4)
        | (at_make; refine wpList_make_intsV rfl _ _ rfl tn _ rfl rfl rfl (by omega) ?_; intro w5 hown5 hb5; have HO5 := Lib.hid hown5; have HB5 := Lib.hid hb5; have HD5 := Lib.hid (HD4.out.kept (hb5.block P hP4)); have hP5 : P < w5.heap.size := HD5.out.dia.1; have f3 := HD5.out.frozen 3; obtain ⟨s, s0, s1, s2, s3, s4, s5⟩ := HD5.out.dia; clear hown5 hb5 r r0 r1 r2 r3 r4 r5)
        | (at_make; refine wpList_make_intsV rfl _ _ rfl n _ rfl rfl rfl (by omega) ?_; intro w6 hown6 hb6; have HO6 := Lib.hid hown6; have HB6 := Lib.hid hb6; have HD6 := Lib.hid ((HD5.out.setX (.slice (some ⟨w4.heap.size, 0, none⟩) tn tn)).kept (hb6.block P (by simpa using hP5))); have f4 := HD6.out.frozen 4; obtain ⟨q, q0, q1, q2, q3, q4, q5⟩ := HD6.out.dia; clear hown6 hb6 s s0 s1 s2 s3 s4 s5 f3))
      have HTM : Hid (tn = m) := by
        unfold Hid
        have h1 := HTN2.out
        omega
      obtain ⟨t, ht⟩ : ∃ t, t = w3.heap.size := ⟨_, rfl⟩
      obtain ⟨x, hx⟩ : ∃ x, x = w4.heap.size := ⟨_, rfl⟩
      obtain ⟨s, hs⟩ : ∃ s, s = w5.heap.size := ⟨_, rfl⟩
      have l1 : g2 < w3.heap.size := (HOW.out.lt g2 rfl).2
      have l2 : w3.heap.size < w4.heap.size := (HO4.out.lt _ rfl).2
      have l3 : w4.heap.size < w5.heap.size := (HO5.out.lt _ rfl).2
      have HLT : Hid (P < w.heap.size ∧ w.heap.size ≤ g1 ∧ g1 < g2 ∧ g2 < t ∧ t < x ∧ x < s) := ⟨HPP.out, HGW.out, HG1.out, by omega, by omega, by omega⟩
      have HST : Hid (OrRel ls n m j P g1 g2 t x s (j : Int) (.slice A n c) vA vO w (.int .i64 0) (w6.setCell ⟨P, 4, none⟩ (.slice (some ⟨s, 0, none⟩) n n))) := by
        obtain ⟨o1, o2, o3, o4, o5, o6⟩ := HLT.out
        have hk7 : ∀ k, k < w5.heap.size → k ≠ P → (w6.setCell ⟨P, 4, none⟩ (.slice (some ⟨s, 0, none⟩) n n)).heap[k]? = w5.heap[k]? := fun k h1 h2 =>
          (Below.heap_setCell w6 ⟨P, 4, none⟩ _ k h2).trans ((HB6.out.block k (by simpa using h1)).trans (Below.heap_setCell w5 ⟨P, 3, none⟩ _ k h2))
        have hk4 : ∀ k, k < w3.heap.size → k ≠ P → (w6.setCell ⟨P, 4, none⟩ (.slice (some ⟨s, 0, none⟩) n n)).heap[k]? = w3.heap[k]? := fun k h1 h2 =>
          (hk7 k (by omega) h2).trans ((HB5.out.block k (by omega)).trans (HB4.out.block k h1))
        refine ⟨0, _, Nat.zero_le _, rfl, rfl, ?_, ?_, ?_, ?_, ?_, ?_, ?_, ?_⟩
        · have h1 := HD6.out.setS (.slice (some ⟨s, 0, none⟩) n n)
          rw [← hx, HTM.out] at h1
          exact h1
        · exact HCW.out.kept (hk4 g1 (by omega) (by omega))
        · exact HOW.out.kept (hk4 g2 (by omega) (by omega))
        · have h1 := HO4.out
          rw [← ht, HTM.out] at h1
          have h2 := h1.kept ((hk7 t (by omega) (by omega)).trans (HB5.out.block t (by omega)))
          rw [List.map_replicate]
          exact h2
        · have h1 := HO5.out
          rw [← hx, HTM.out] at h1
          have h2 := h1.kept (hk7 x (by omega) (by omega))
          rw [List.map_replicate]
          exact h2
        · have h1 := HO6.out
          have e5 : ∀ v, (w5.setCell ⟨P, 3, none⟩ v).heap.size = w5.heap.size := fun v => by simp
          rw [e5, ← hs] at h1
          have h2 := h1.kept (Below.heap_setCell w6 ⟨P, 4, none⟩ (.slice (some ⟨s, 0, none⟩) n n) s (by show s ≠ P; omega))
          rw [List.map_replicate]
          exact h2
        · exact fun k h1 h2 => (hk4 k (by omega) h2).trans (HBW.out.block k h1)
        · have b3 : Below P w w3 := HBW.out.mono (by omega)
          have b4 : Below P w w4 := b3.trans (HB4.out.mono (by omega))
          have b5 : Below P w w5 := b4.trans (HB5.out.mono (by omega))
          exact ((b5.setCell (p := ⟨P, 3, none⟩) (Nat.le_refl _) _).trans (HB6.out.mono (by simp; omega))).setCell (p := ⟨P, 4, none⟩) (Nat.le_refl _) _
      obtain ⟨W7, hW7⟩ : ∃ W7, W7 = w6.setCell ⟨P, 4, none⟩ (.slice (some ⟨s, 0, none⟩) n n) := ⟨_, rfl⟩
      rw [← hs, ← hW7, ← ht]
      rw [← hW7] at HST
      have HTME := HTM.out
      clear HO4 HB4 HO5 HB5 HO6 HB6 HD6 HD5 HD4 hW7 hs hx ht l1 l2 l3 HTM q q0 q1 q2 q3 q4 q5 f4
      clear HDRW HOW HCW HBW
      subst HTME
      go_loopw [80] (fun iv wr => OrRel ls n tn j P g1 g2 t x s (j : Int) (.slice A n c) vA vO w iv wr) (fun iv _ => n - (intOf iv).toNat)
      case atStart => exact HST.out
      case round =>
        obtain ⟨k, st, hk, rfl, hst, hdia, hg1o, hg2o, hto, hxo, hso, hkeep, hbel⟩ := hrel
        obtain ⟨o1, o2, o3, o4, o5, o6⟩ := HLT.out
        have HLR := Lib.hid (HLS.out.kept2 hbel.size (fun b off e hb => hkeep b hb (HBP.out b off e)))
        have HSTE := Lib.hid hst
        have HDJ := Lib.hid hdia
        have HG1O := Lib.hid hg1o
        have HG2O := Lib.hid hg2o
        have HTO := Lib.hid hto
        have HXO := Lib.hid hxo
        have HSO := Lib.hid hso
        have HKE := Lib.hid hkeep
        have HBE := Lib.hid hbel
        obtain ⟨hPr, p0, p1, p2, p3, p4, p5⟩ := hdia.dia
        have hsl : s < wr.heap.size := (hso.lt s rfl).2
        clear hst hdia hg1o hg2o hto hxo hso hkeep hbel
        by_cases hlt : k < n
        · obtain ⟨b, off, l, rfl, hbl, hl, c0, c1, c2, c3, c4, c5⟩ := HLR.out.at_ hlt
          have hk1 : (k : Int) < n := by omega
          by_cases hkd : l.kind = 1
          · have hke : (l.kind == 1) = true := by rw [beq_iff_eq]; exact hkd
            have hgr := HGT.out l (List.mem_of_getElem? hl) hkd
            obtain ⟨gn, hgn⟩ := Int.eq_ofNat_of_zero_le hgr.1
            have hgm : gn < j + 1 := by omega
            have hgi : (gn : Int) < (j : Int) + 1 := by omega
            obtain ⟨u, hu, huc, huf, _, hus⟩ := HG1O.out.cell (k := gn) hgm
            obtain rfl : u = .int .i64 (cntB (inGate (gn : Int)) ls) := by
              rw [gatesL_at hgm, List.take_of_length_le (by rw [HL.out]; omega)] at hu
              injection hu with hu; exact hu.symm
            obtain ⟨y, hy, hyc, hyf, _, hys⟩ := HG2O.out.cell (k := gn) hgm
            obtain rfl : y = .int .i64 (befG ls gn) := by rw [befL_at hgm, if_pos (by omega)] at hy; injection hy with hy; exact hy.symm
            have HM1 : Hid (befG ls gn + cntB (inGate (gn : Int)) ls ≤ tn) := by
              have h1 := befG_mono ls (show gn + 1 ≤ j + 1 by omega)
              unfold Hid
              rw [hm] at h1
              exact h1
            have hb0 := (befG_bd ls gn).1
            have hc0 := cntB_nonneg (inGate (gn : Int)) ls
            have HGN := Lib.hid hgn
            have HSTEP : Hid (∀ r, ordStep ls st k l = r → ordM ls tn n (k + 1) = r) := fun r hr => (ordM_succ HSTE.out hl).trans hr
            have HOE : Hid (ordStep ls st k l = if 1 ≤ l.rank ∧ l.rank ≤ cntB (inGate (gn : Int)) ls then
                (if st.tk[(befG ls gn + l.rank - 1).toNat]? = some false then
                  some ⟨st.tk.set (befG ls gn + l.rank - 1).toNat true, st.ax.set (befG ls gn + l.rank - 1).toNat k, st.sp.set k (befG ls gn + l.rank - 1).toNat⟩ else none) else none) := by
              unfold Hid ordStep
              rw [if_pos hkd, hgn, Int.toNat_natCast]
            have HNO : Hid (ordStep ls st k l = none → ordM ls tn n n = none) := fun h => ordM_none (HSTEP.out _ h) n (by omega)
            obtain ⟨bv, hbv⟩ : ∃ bv, befG ls gn = bv := ⟨_, rfl⟩
            obtain ⟨cv, hcv⟩ : ∃ cv, cntB (inGate (gn : Int)) ls = cv := ⟨_, rfl⟩
            rw [hbv] at hyc HM1 hb0 HOE
            rw [hcv] at huc HM1 hc0 HOE
            rw [hgn] at c1
            obtain ⟨r, hr⟩ : ∃ r, l.rank = r := ⟨_, rfl⟩
            rw [hr] at c2 HOE
            have hM1 := HM1.out
            clear hbv hcv hr hu hy hgr hgn hl hkd HGN
            by_cases h1r : 1 ≤ r
            · by_cases hrc : r ≤ cv
              · obtain ⟨p, hp⟩ := Int.eq_ofNat_of_zero_le (show 0 ≤ bv + r - 1 by omega)
                have hpm : p < tn := by omega
                have hpi : (p : Int) < tn := by omega
                obtain ⟨tv, htv, htc, htf, _, hts⟩ := HTO.out.cell (k := p) hpm
                obtain ⟨bb, hbb, rfl⟩ : ∃ bb, st.tk[p]? = some bb ∧ tv = .bool bb := by
                  rw [List.getElem?_map] at htv
                  cases hh : st.tk[p]? with
                  | none => rw [hh] at htv; cases htv
                  | some bb => rw [hh] at htv; injection htv with htv; exact ⟨bb, rfl, htv.symm⟩
                obtain ⟨xv, hxv, hxc, hxf, _, hxs⟩ := HXO.out.cell (k := p) hpm
                obtain ⟨sv, hsv, hsc, hsf, _, hss⟩ := HSO.out.cell (k := k) hlt
                have HOE2 := HOE.out
                rw [if_pos ⟨h1r, hrc⟩, hp, Int.toNat_natCast, hbb] at HOE2
                cases bb with
                | true =>
                  have HE := Lib.hid (HNO.out (by rw [HOE2]; simp))
                  clear htv hbb hxv hsv HOE2
                  have d1 : decide (r < 1) = false := by rw [decide_eq_false_iff_not]; omega
                  have d2 : decide (cv < r) = false := by rw [decide_eq_false_iff_not]; omega
                  go_wp2_with fail
                  go_quiet (fail)
                  go_wp2_with fail
                  go_quiet (fail)
                  go_wp2_with fail
                  go_ret
                  exact ⟨(by first | exact HBE.out.alloc (by omega) _ | exact below_drewN (HBE.out.alloc (by omega) _) _ | exact below_drewN (below_drewN (HBE.out.alloc (by omega) _) _) _), fun q h1 h2 => (((Below.refl wr.heap.size wr).alloc (Nat.le_refl _) _).block q (by omega)).trans (HKE.out q h1 h2), .inl ⟨HE.out, rfl⟩⟩
                | false =>
                  have d1 : decide (r < 1) = false := by rw [decide_eq_false_iff_not]; omega
                  have d2 : decide (cv < r) = false := by rw [decide_eq_false_iff_not]; omega
                  have HNX := Lib.hid (HSTEP.out _ HOE2)
                  have ne1 : ¬ t = wr.heap.size := by omega
                  have ne2 : ¬ x = wr.heap.size := by omega
                  have ne3 : ¬ s = wr.heap.size := by omega
                  have ne4 : ¬ t = x := by omega
                  have ne5 : ¬ t = s := by omega
                  have ne6 : ¬ x = s := by omega
                  have ne7 : ¬ P = t := by omega
                  have HREL : Hid (∀ o q, OrRel ls n tn j P g1 g2 t x s (j : Int) (.slice (some ⟨b, off, none⟩) n c) vA vO w (.int .i64 ((k : Int) + 1)) ((((((wr.alloc o).drewN q).setCell ⟨t, p, none⟩ (.bool true)).setCell ⟨x, p, none⟩ (.int .i64 (k : Int))).setCell ⟨s, k, none⟩ (.int .i64 (p : Int))).drew)) := by
                    intro o q
                    have hba : Below wr.heap.size wr ((wr.alloc o).drewN q) := below_drewN ((Below.refl _ _).alloc (Nat.le_refl _) _) _
                    obtain ⟨wa, hwa⟩ : ∃ wa, wa = (wr.alloc o).drewN q := ⟨_, rfl⟩
                    rw [← hwa] at hba ⊢
                    have hsa := hba.size
                    obtain ⟨wb, hwb⟩ : ∃ wb, wb = wa.setCell ⟨t, p, none⟩ (.bool true) := ⟨_, rfl⟩
                    obtain ⟨wc, hwc⟩ : ∃ wc, wc = wb.setCell ⟨x, p, none⟩ (.int .i64 (k : Int)) := ⟨_, rfl⟩
                    obtain ⟨wd, hwd⟩ : ∃ wd, wd = wc.setCell ⟨s, k, none⟩ (.int .i64 (p : Int)) := ⟨_, rfl⟩
                    have kb : ∀ q, q ≠ t → wb.heap[q]? = wa.heap[q]? := fun q hq => by rw [hwb]; exact Below.heap_setCell _ _ _ q hq
                    have kc : ∀ q, q ≠ x → wc.heap[q]? = wb.heap[q]? := fun q hq => by rw [hwc]; exact Below.heap_setCell _ _ _ q hq
                    have kd : ∀ q, q ≠ s → wd.heap[q]? = wc.heap[q]? := fun q hq => by rw [hwd]; exact Below.heap_setCell _ _ _ q hq
                    have kall : ∀ q, q < wr.heap.size → q ≠ t → q ≠ x → q ≠ s → wd.heap[q]? = wr.heap[q]? := fun q h0 h1 h2 h3 => (kd q h3).trans ((kc q h2).trans ((kb q h1).trans (hba.block q h0)))
                    have b1 : Below P w wa := HBE.out.trans (hba.mono (by omega))
                    have b2 : Below P w wb := by rw [hwb]; exact b1.setCell (p := ⟨t, p, none⟩) (by show P ≤ t; omega) _
                    have b3 : Below P w wc := by rw [hwc]; exact b2.setCell (p := ⟨x, p, none⟩) (by show P ≤ x; omega) _
                    have b4 : Below P w wd := by rw [hwd]; exact b3.setCell (p := ⟨s, k, none⟩) (by show P ≤ s; omega) _
                    rw [← hwb, ← hwc, ← hwd]
                    refine ⟨k + 1, _, by omega, by rw [Int.natCast_add]; rfl, HNX.out, ?_, ?_, ?_, ?_, ?_, ?_, ?_, b4.drew⟩
                    · exact HDJ.out.kept (kall P hPr (by omega) (by omega) (by omega))
                    · exact HG1O.out.kept (kall g1 (by omega) (by omega) (by omega) (by omega))
                    · exact HG2O.out.kept (kall g2 (by omega) (by omega) (by omega) (by omega))
                    · have h1 := (HTO.out.below hba).set (k := p) hpm (.bool true)
                      rw [← hwb] at h1
                      have h2 := h1.kept ((kd t (by omega)).trans (kc t (by omega)))
                      rw [← List.map_set] at h2
                      exact h2
                    · have h1 := (HXO.out.kept ((kb x (by omega)).trans (hba.block x (by omega)))).set (k := p) hpm (.int .i64 (k : Int))
                      rw [← hwc] at h1
                      have h2 := h1.kept (kd x (by omega))
                      rw [show (Value.int .i64 (k : Int)) = intV k from rfl, ← List.map_set] at h2
                      exact h2
                    · have h1 := (HSO.out.kept ((kc s (by omega)).trans ((kb s (by omega)).trans (hba.block s (by omega))))).set (k := k) hlt (.int .i64 (p : Int))
                      rw [← hwd] at h1
                      rw [show (Value.int .i64 (p : Int)) = intV p from rfl, ← List.map_set] at h1
                      exact h1
                    · exact fun q h1 h2 => (kall q (by omega) (by omega) (by omega) (by omega)).trans (HKE.out q h1 h2)
                  clear htv hbb hxv hsv HOE2
                  go_wp2_with fail
                  go_quiet (fail)
                  go_wp2_with fail
                  go_quiet (fail)
                  go_wp2_with fail
                  go_region
                  go_wp2_with fail
                  go_roundw
                  case rel => exact HREL.out _ _
                  case measure => simp [intOf]; omega
              · have HE := Lib.hid (HNO.out (by rw [HOE.out, if_neg (fun e => hrc e.2)]))
                have d1 : decide (r < 1) = false := by rw [decide_eq_false_iff_not]; omega
                have d2 : cv < r := by omega
                go_wp2_with fail
                go_quiet (fail)
                go_wp2_with fail
                go_quiet (fail)
                go_wp2_with fail
                go_ret
                exact ⟨(by first | exact HBE.out.alloc (by omega) _ | exact below_drewN (HBE.out.alloc (by omega) _) _ | exact below_drewN (below_drewN (HBE.out.alloc (by omega) _) _) _), fun q h1 h2 => (((Below.refl wr.heap.size wr).alloc (Nat.le_refl _) _).block q (by omega)).trans (HKE.out q h1 h2), .inl ⟨HE.out, rfl⟩⟩
            · have HE := Lib.hid (HNO.out (by rw [HOE.out, if_neg (fun e => h1r e.1)]))
              have d1 : r < 1 := by omega
              go_wp2_with fail
              go_quiet (fail)
              go_wp2_with fail
              go_quiet (fail)
              go_wp2_with fail
              go_ret
              exact ⟨(by first | exact HBE.out.alloc (by omega) _ | exact below_drewN (HBE.out.alloc (by omega) _) _ | exact below_drewN (below_drewN (HBE.out.alloc (by omega) _) _) _), fun q h1 h2 => (((Below.refl wr.heap.size wr).alloc (Nat.le_refl _) _).block q (by omega)).trans (HKE.out q h1 h2), .inl ⟨HE.out, rfl⟩⟩
          · have hke : (l.kind == 1) = false := by rw [beq_eq_false_iff_ne]; exact hkd
            have HREL : Hid (∀ o, OrRel ls n tn j P g1 g2 t x s (j : Int) (.slice (some ⟨b, off, none⟩) n c) vA vO w (.int .i64 ((k : Int) + 1)) (wr.alloc o)) := by
              intro o
              have hba : Below wr.heap.size wr (wr.alloc o) := (Below.refl _ _).alloc (Nat.le_refl _) _
              refine ⟨k + 1, st, by omega, by rw [Int.natCast_add]; rfl, ?_, HDJ.out.kept (hba.block P hPr), HG1O.out.below hba, HG2O.out.below hba, HTO.out.below hba, HXO.out.below hba, HSO.out.below hba, fun q h1 h2 => (hba.block q (by omega)).trans (HKE.out q h1 h2), HBE.out.alloc (by omega) _⟩
              rw [ordM_succ HSTE.out hl, ordStep, if_neg hkd]
            clear hl hkd
            go_wp2_with fail
            go_roundw
            case rel => exact HREL.out _
            case measure => simp [intOf]; omega
        · have hkn : k = n := by omega
          subst hkn
          go_wp2_with fail
          go_ret
          exact ⟨HBE.out, HKE.out, .inr ⟨st, x, s, HSTE.out, rfl, by omega, o6, HDJ.out, HXO.out, HSO.out⟩⟩

end Go.Proofs.YtbbpockkafbfmaaDoor
