/-
  The walk of each: a change made to each letter of a code.
-/
import Derived.Test.YtbbpockkafbfmaaDoorRev
import Derived.Deep.DeepCutAuto
import Derived.Deep.RegionHeld3
namespace Go.Proofs.YtbbpockkafbfmaaDoor
open Go.RowKit

def ltCells (l : Lt) : List Value := [.int .i64 l.kind, .int .i64 l.gate, .int .i64 l.rank, .int .i64 l.id, .int .i64 l.sign, .bool l.over]
/-- An own slice of letters. -/
def OwnL (w : World) (B : Nat) (v : Value) (ls : List Lt) : Prop := w.ownsRow B 50 6 v ls.length (ls.flatMap ltCells)
theorem infoLetter : (Tryd.prog.info? 50).map (fun i => (i.zero, i.size, i.bytes)) = some (some (.agg #[.int .i64 0, .int .i64 0, .int .i64 0, .int .i64 0, .int .i64 0, .bool false]), 6, 48) := by kernel_rfl

theorem madeCells_letters (n : Nat) : (madeCells (Value.agg #[.int .i64 0, .int .i64 0, .int .i64 0, .int .i64 0, .int .i64 0, .bool false]).cells (n * 6)).toList = (List.replicate n (⟨0, 0, 0, 0, 0, false⟩ : Lt)).flatMap ltCells := by
  have hz : (Value.agg #[.int .i64 0, .int .i64 0, .int .i64 0, .int .i64 0, .int .i64 0, .bool false]).cells = #[.int .i64 0, .int .i64 0, .int .i64 0, .int .i64 0, .int .i64 0, .bool false] := by rfl
  rw [hz]
  apply List.ext_getElem?
  intro i
  have hr : ∀ m k, ((List.replicate m (⟨0, 0, 0, 0, 0, false⟩ : Lt)).flatMap ltCells)[k]? = if k < m * 6 then (ltCells ⟨0, 0, 0, 0, 0, false⟩)[k % 6]? else none := by
    intro m
    induction m with
    | zero => intro k; simp
    | succ m ih =>
      intro k
      rw [List.replicate_succ, List.flatMap_cons, List.getElem?_append]
      have hl : (ltCells ⟨0, 0, 0, 0, 0, false⟩).length = 6 := rfl
      by_cases hk : k < 6
      · rw [if_pos (by rw [hl]; exact hk), if_pos (by omega), Nat.mod_eq_of_lt hk]
      · rw [if_neg (by rw [hl]; exact hk), ih, hl]
        by_cases h2 : k < (m + 1) * 6
        · rw [if_pos (by omega), if_pos h2, show k % 6 = (k - 6) % 6 by omega]
        · rw [if_neg (by omega), if_neg h2]
  rw [hr]
  by_cases hi : i < n * 6
  · rw [if_pos hi, List.getElem?_eq_getElem (by simp [madeCells]; exact hi)]
    have h6 : i % 6 = 0 ∨ i % 6 = 1 ∨ i % 6 = 2 ∨ i % 6 = 3 ∨ i % 6 = 4 ∨ i % 6 = 5 := by omega
    rcases h6 with h | h | h | h | h | h <;> simp [madeCells, ltCells, h]
  · rw [if_neg hi, List.getElem?_eq_none (by simp [madeCells]; omega)]

def EachMem (w : World) (f : Int) (vc : Value) (MC : Array Value) (n R gL : Nat) (wx : World) : Prop :=
  wx.heap[R]? = some (.cells #[.int .i64 f, .slice (some ⟨gL, 0, none⟩) n n] 33 (0, 0)) ∧ wx.heap[gL]? = some (.cells MC 50 (0, 0)) ∧ gL ≠ R ∧ w.heap.size < R ∧ w.heap.size < gL ∧ Below w.heap.size w wx ∧
    wx.heap[w.heap.size]? = some (.cells #[.int .i64 f, vc] 33 (0, 0)) ∧ w.heap.size + 1 < R ∧ w.heap.size + 1 < gL ∧ wx.heap[w.heap.size + 1]? = some (.cells #[.int .i64 0, .slice none 0 0] 33 (0, 0))
theorem alloc4 (w : World) (a b c d : Obj)  :
    ((((w.alloc a).alloc b).alloc c).alloc d).drew.heap[w.heap.size]? = some a ∧ ((((w.alloc a).alloc b).alloc c).alloc d).drew.heap[w.heap.size + 1]? = some b ∧ ((((w.alloc a).alloc b).alloc c).alloc d).drew.heap[w.heap.size + 1 + 1]? = some c ∧
      ((((w.alloc a).alloc b).alloc c).alloc d).drew.heap[w.heap.size + 1 + 1 + 1]? = some d ∧ Below w.heap.size w ((((w.alloc a).alloc b).alloc c).alloc d).drew := by
  have s1 : (w.alloc a).heap.size = w.heap.size + 1 := by simp
  have s2 : ((w.alloc a).alloc b).heap.size = w.heap.size + 1 + 1 := by simp
  have s3 : (((w.alloc a).alloc b).alloc c).heap.size = w.heap.size + 1 + 1 + 1 := by simp
  have h4 := heap_alloc_new (((w.alloc a).alloc b).alloc c) d
  have h3 := heap_alloc_new ((w.alloc a).alloc b) c
  have h2 := heap_alloc_new (w.alloc a) b
  have h1 := heap_alloc_new w a
  rw [s1] at h2
  rw [s2] at h3
  rw [s3] at h4
  have k : ∀ (x : World) (o : Obj) q, q < x.heap.size → (x.alloc o).heap[q]? = x.heap[q]? := fun x o q hq => ((Below.refl x.heap.size x).alloc (Nat.le_refl _) o).block q hq
  refine ⟨?_, ?_, ?_, h4, ?_⟩
  · show ((((w.alloc a).alloc b).alloc c).alloc d).heap[w.heap.size]? = _
    rw [k _ d _ (by omega), k _ c _ (by omega), k _ b _ (by omega)]; exact h1
  · show ((((w.alloc a).alloc b).alloc c).alloc d).heap[w.heap.size + 1]? = _
    rw [k _ d _ (by omega), k _ c _ (by omega)]; exact h2
  · show ((((w.alloc a).alloc b).alloc c).alloc d).heap[w.heap.size + 1 + 1]? = _
    rw [k _ d _ (by omega)]; exact h3
  · exact (((((Below.refl _ _).alloc (Nat.le_refl _) _).alloc (by simp) _).alloc (by simp; omega) _).alloc (by simp; omega) _).drew
theorem each_mem1 (w : World) (f : Int) (vc : Value) (MC : Array Value) (n : Nat) : EachMem w f vc MC n (w.heap.size + 1 + 1 + 1) (w.heap.size + 1 + 1)
    ((((w.alloc (.cells #[.int .i64 f, vc] 33)).alloc (.cells #[.int .i64 0, .slice none 0 0] 33)).alloc (.cells MC 50)).alloc (.cells #[.int .i64 f, .slice (some ⟨w.heap.size + 1 + 1, 0, none⟩) n n] 33)).drew := by
  obtain ⟨h1, h2, h3, h4, h5⟩ := alloc4 w _ _ _ _
  exact ⟨h4, h3, by omega, by omega, by omega, h5, h1, by omega, by omega, h2⟩
theorem each_mem2 (w : World) (f : Int) (vc : Value) (MC : Array Value) (n : Nat) : EachMem w f vc MC n (w.heap.size + 1 + 1) (w.heap.size + 1 + 1 + 1)
    ((((w.alloc (.cells #[.int .i64 f, vc] 33)).alloc (.cells #[.int .i64 0, .slice none 0 0] 33)).alloc (.cells #[.int .i64 f, .slice (some ⟨w.heap.size + 1 + 1 + 1, 0, none⟩) n n] 33)).alloc (.cells MC 50)).drew := by
  obtain ⟨h1, h2, h3, h4, h5⟩ := alloc4 w _ _ _ _
  exact ⟨h3, h4, by omega, by omega, by omega, h5, h1, by omega, by omega, h2⟩

theorem own_base' {w : World} {B B' : Nat} {T : TypeId} {sz n : Nat} {v : Value} {xs : List Value} (h : w.ownsRow B' T sz v n xs) (hB : B ≤ B') : w.ownsRow B T sz v n xs := by
  refine ⟨h.1, ?_⟩
  rcases h.2 with hn | ⟨g, cap, cur, hv, hg, r⟩
  · exact .inl hn
  · exact .inr ⟨g, cap, cur, hv, Nat.le_trans hB hg, r⟩
theorem own_kept2' {w w' : World} {B : Nat} {T : TypeId} {sz n : Nat} {v : Value} {xs : List Value} (h : w.ownsRow B T sz v n xs) (hk : ∀ g, v.ownBlock = some g → w'.heap[g]? = w.heap[g]?) : w'.ownsRow B T sz v n xs := by
  refine ⟨h.1, ?_⟩
  rcases h.2 with hn | ⟨g, cap, cur, hv, hg, hh, r⟩
  · exact .inl hn
  · exact .inr ⟨g, cap, cur, hv, hg, (hk g (by rw [hv]; rfl)).trans hh, r⟩
def zeroLt : Lt := ⟨0, 0, 0, 0, 0, false⟩
theorem letters_at {ls : List Lt} : ∀ {k : Nat} {l : Lt}, ls[k]? = some l → ∀ i x, (ltCells l)[i]? = some x → (ls.flatMap ltCells)[k * 6 + i]? = some x := by
  induction ls with
  | nil => intro k l h; cases h
  | cons p ps ih =>
    intro k l h i x hx
    have hi : i < 6 := by
      rcases Nat.lt_or_ge i (ltCells l).length with q | q
      · exact q
      · rw [List.getElem?_eq_none q] at hx; cases hx
    rw [List.flatMap_cons, List.getElem?_append]
    have hl : (ltCells p).length = 6 := rfl
    cases k with
    | zero =>
      simp only [List.getElem?_cons_zero, Option.some.injEq] at h
      subst h
      rw [if_pos (by rw [hl]; omega), Nat.zero_mul, Nat.zero_add]
      exact hx
    | succ k =>
      rw [if_neg (by rw [hl]; omega), hl, show (k + 1) * 6 + i - 6 = k * 6 + i by omega]
      exact ih (by simpa using h) i x hx
theorem letters_set {ls : List Lt} : ∀ {k : Nat} {l : Lt}, k < ls.length → (((((((ls.flatMap ltCells).set (k * 6) (.int .i64 l.kind)).set (k * 6 + 1) (.int .i64 l.gate)).set (k * 6 + 2) (.int .i64 l.rank)).set (k * 6 + 3) (.int .i64 l.id)).set (k * 6 + 4) (.int .i64 l.sign)).set (k * 6 + 5) (.bool l.over)) = (ls.set k l).flatMap ltCells := by
  induction ls with
  | nil => intro k l h; cases h
  | cons p ps ih =>
    intro k l h
    cases k with
    | zero => rfl
    | succ k =>
      have := ih (k := k) (l := l) (by simpa using h)
      rw [show (k + 1) * 6 = k * 6 + 6 by omega, List.set_cons_succ, List.flatMap_cons, List.flatMap_cons, ← this]
      rfl
theorem letters_len (ls : List Lt) : (ls.flatMap ltCells).length = ls.length * 6 := by
  induction ls with
  | nil => rfl
  | cons p ps ih => rw [List.flatMap_cons, List.length_append, ih, List.length_cons]; simp [ltCells]; omega
/-- The letters that have been changed, zeros behind them. -/
def eaL (h : Lt → Lt) (ls : List Lt) (n j : Nat) : List Lt := (ls.take j).map h ++ List.replicate (n - j) zeroLt
theorem eaL_len {h : Lt → Lt} {ls : List Lt} {n j : Nat} (hl : ls.length = n) (hj : j ≤ n) : (eaL h ls n j).length = n := by
  unfold eaL
  simp
  omega
theorem eaL_at {h : Lt → Lt} {ls : List Lt} {n j : Nat} (hl : ls.length = n) (hj : j < n) : (eaL h ls n j)[j]? = some zeroLt := by
  unfold eaL
  rw [List.getElem?_append_right (by simp; omega), List.length_map, List.length_take, List.getElem?_replicate, if_pos (by omega)]
theorem eaL_set {h : Lt → Lt} {ls : List Lt} {n j : Nat} {l : Lt} (hl : ls.length = n) (hx : ls[j]? = some l) (hj : j < n) : (eaL h ls n j).set j (h l) = eaL h ls n (j + 1) := by
  unfold eaL
  have h1 : ((ls.take j).map h).length = j := by rw [List.length_map, List.length_take]; omega
  rw [List.set_append_right _ _ (by omega), h1, Nat.sub_self, show n - j = (n - (j + 1)) + 1 by omega, List.replicate_succ, List.set_cons_zero, List.take_add_one, hx]
  simp
/-- What the change of a letter reads and writes. -/
def EachS (R gL B o : Nat) (n : Nat) (l : Lt) (W w' : World) : Prop :=
  w'.cell? ⟨R, 1, none⟩ = some (.slice (some ⟨gL, 0, none⟩) n n) ∧
  w'.cell? ⟨B, 0, none⟩ = some (.int .i64 l.kind) ∧ w'.cell? ⟨B, 1, none⟩ = some (.int .i64 l.gate) ∧ w'.cell? ⟨B, 2, none⟩ = some (.int .i64 l.rank) ∧ w'.cell? ⟨B, 3, none⟩ = some (.int .i64 l.id) ∧ w'.cell? ⟨B, 4, none⟩ = some (.int .i64 l.sign) ∧ w'.cell? ⟨B, 5, none⟩ = some (.bool l.over) ∧
  w'.cell? ⟨gL, o, none⟩ = some (.int .i64 0) ∧ w'.cell? ⟨gL, o + 1, none⟩ = some (.int .i64 0) ∧ w'.cell? ⟨gL, o + 2, none⟩ = some (.int .i64 0) ∧ w'.cell? ⟨gL, o + 3, none⟩ = some (.int .i64 0) ∧ w'.cell? ⟨gL, o + 4, none⟩ = some (.int .i64 0) ∧ w'.cell? ⟨gL, o + 5, none⟩ = some (.bool false) ∧
  w'.frozen? ⟨gL, o, none⟩ = false ∧ w'.frozen? ⟨gL, o + 1, none⟩ = false ∧ w'.frozen? ⟨gL, o + 2, none⟩ = false ∧ w'.frozen? ⟨gL, o + 3, none⟩ = false ∧ w'.frozen? ⟨gL, o + 4, none⟩ = false ∧ w'.frozen? ⟨gL, o + 5, none⟩ = false ∧ Below W.heap.size W w'
theorem EachS.of {R gL B o n : Nat} {l : Lt} {W w' : World} (h : EachS R gL B o n l W W) (hR : R < W.heap.size) (hg : gL < W.heap.size) (hB : B < W.heap.size) (hw : Below W.heap.size W w') : EachS R gL B o n l W w' := by
  obtain ⟨h1, b0, b1, b2, b3, b4, b5, c0, c1, c2, c3, c4, c5, f0, f1, f2, f3, f4, f5, _⟩ := h
  have e : ∀ q x, q < W.heap.size → w'.cell? ⟨q, x, none⟩ = W.cell? ⟨q, x, none⟩ := fun q x hq => hw.cell (p := ⟨q, x, none⟩) hq
  have z : ∀ x, w'.frozen? ⟨gL, x, none⟩ = W.frozen? ⟨gL, x, none⟩ := fun x => hw.frozen (p := ⟨gL, x, none⟩) hg
  exact ⟨(e _ _ hR).trans h1, (e _ _ hB).trans b0, (e _ _ hB).trans b1, (e _ _ hB).trans b2, (e _ _ hB).trans b3, (e _ _ hB).trans b4, (e _ _ hB).trans b5, (e _ _ hg).trans c0, (e _ _ hg).trans c1, (e _ _ hg).trans c2, (e _ _ hg).trans c3, (e _ _ hg).trans c4, (e _ _ hg).trans c5,
    (z _).trans f0, (z _).trans f1, (z _).trans f2, (z _).trans f3, (z _).trans f4, (z _).trans f5, hw⟩
theorem EachS.last {R gL B o n : Nat} {l : Lt} {W w' : World} (h : EachS R gL B o n l W w') : Below W.heap.size W w' := by
  obtain ⟨_, _, _, _, _, _, _, _, _, _, _, _, _, _, _, _, _, _, _, k⟩ := h
  exact k
/-- What each leaves. -/
def EachPost (f : Int) (ls' : List Lt) (w : World) (e : Ending) (w' : World) : Prop :=
  ∃ gL, e = .returned (.agg #[.int .i64 f, .slice (some ⟨gL, 0, none⟩) ls'.length ls'.length]) ∧ OwnL w' w.heap.size (.slice (some ⟨gL, 0, none⟩) ls'.length ls'.length) ls' ∧ Below w.heap.size w w'
def EaRel (w : World) (f : Int) (h : Lt → Lt) (ls : List Lt) (n R gL : Nat) (iv : Value) (wr : World) : Prop :=
  ∃ j : Nat, j ≤ n ∧ iv = .int .i64 (j : Int) ∧ wr.heap[R]? = some (.cells #[.int .i64 f, .slice (some ⟨gL, 0, none⟩) n n] 33 (0, 0)) ∧ wr.ownsRow (w.heap.size + 1) 50 6 (.slice (some ⟨gL, 0, none⟩) n n) n ((eaL h ls n j).flatMap ltCells) ∧
    wr.heap[w.heap.size + 1]? = some (.cells #[.int .i64 0, .slice none 0 0] 33 (0, 0)) ∧ Below w.heap.size w wr

theorem EaRel.next {w wx : World} {f : Int} {h : Lt → Lt} {ls : List Lt} {n R gL j : Nat} (hlt : j < n) (h1 : wx.ownsRow (w.heap.size + 1) 50 6 (.slice (some ⟨gL, 0, none⟩) n n) n ((eaL h ls n (j + 1)).flatMap ltCells))
    (h2 : wx.heap[R]? = some (.cells #[.int .i64 f, .slice (some ⟨gL, 0, none⟩) n n] 33 (0, 0))) (h3 : wx.heap[w.heap.size + 1]? = some (.cells #[.int .i64 0, .slice none 0 0] 33 (0, 0))) (hb : Below w.heap.size w wx) :
    EaRel w f h ls n R gL (.int .i64 ((j : Int) + 1)) wx := ⟨j + 1, by omega, rfl, h2, h1, h3, hb⟩

set_option maxHeartbeats 4000000 in
set_option maxRecDepth 100000 in
theorem each_forget (f : Int) (A : Option Addr) (n c : Nat) (ls : List Lt) (w : World) (hL : LS w A n ls) (hn : n ≤ 1000) (h : Lt → Lt) (v1 v2 : Value)
    (hch : ∀ l W, l ∈ ls → Below w.heap.size w W → Calls Tryd.prog 75 #[l.val, v1, v2] W fun e W' => e = .returned (h l).val ∧ Below W.heap.size W W') :
    Calls Tryd.prog 74 #[.agg #[.int .i64 f, .slice A n c], .func (.func 75) #[] #[v1, v2]] w (EachPost f (ls.map h) w) := by
  obtain ⟨i0, hi, hz0, hz1, hz2⟩ := info_parts infoLetter
  obtain ⟨MC, hMC⟩ : ∃ MC, MC = madeCells (Value.agg #[.int .i64 0, .int .i64 0, .int .i64 0, .int .i64 0, .int .i64 0, .bool false]).cells (n * 6) := ⟨_, rfl⟩
  have hmk : ∀ W : World, (Instr.makeSlice 31 (.int .i64 (n : Int)) (.int .i64 (n : Int))).run Tryd.prog W = .ok (.slice (some ⟨W.heap.size, 0, none⟩) n n) (W.alloc (.cells MC 50)) := by
    intro W
    have h1 := run_make (P := Tryd.prog) W 31 50 i0 _ Tryd.underlying31 hi hz0 .i64 .i64 (n : Int) (n : Int) (by omega) (Int.le_refl _) (by rw [hz2]; omega) (by omega)
    rw [hz1, Int.toNat_natCast, ← hMC] at h1
    exact h1
  have HMC : Hid (MC.toList = (List.replicate n (⟨0, 0, 0, 0, 0, false⟩ : Lt)).flatMap ltCells) := by
    unfold Hid
    rw [hMC]
    exact madeCells_letters n
  clear hMC hi hz0 hz1 hz2
  go_enter Tryd.func74, Tryd.ntmps74
  go_wp2_with fail
  have HE1 := Lib.hid (each_mem1 w f (.slice A n c) MC n)
  have HE2 := Lib.hid (each_mem2 w f (.slice A n c) MC n)
  go_cut [5] (fun rv wx => ∃ R gL, rv = .pointer (some ⟨R, 0, none⟩) ∧ EachMem w f (.slice A n c) MC n R gL wx)
  case first =>
    go_region
    all_goals
      go_wp2_with fail
      go_meet
      case rel => first
        | exact ⟨_, _, rfl, HE1.out⟩
        | exact ⟨_, _, rfl, HE2.out⟩
  case rest =>
    obtain ⟨R, gL, rfl, hem⟩ := hcut
    have HEM := Lib.hid hem
    have hb0 := hem.2.2.2.2.2.2.1
    have x0 := Lib.cell_of_heap hb0 0
    have x1 := Lib.cell_of_heap hb0 1
    have hsz0 : w.heap.size < wc.heap.size := by
      rcases Nat.lt_or_ge w.heap.size wc.heap.size with q | q
      · exact q
      · rw [Array.getElem?_eq_none q] at hb0; cases hb0
    have HL := Lib.hid hL
    have HLL := Lib.hid hL.1
    have HCH := Lib.hid hch
    have HST : Hid (EaRel w f h ls n R gL (.int .i64 0) wc) := by
      obtain ⟨h1, h2, h3, h4, h5, h6, h7, h8, h9, h10⟩ := HEM.out
      refine ⟨0, Nat.zero_le _, rfl, h1, ⟨?_, .inr ⟨gL, n, MC, rfl, by omega, h2, Nat.le_refl _, by unfold maxLen; omega, ?_, ?_⟩⟩, h10, h6⟩
      · rw [letters_len, eaL_len HLL.out (Nat.zero_le _)]
      · have := congrArg List.length HMC.out
        rw [letters_len, List.length_replicate] at this
        simpa using this
      · rw [HMC.out, List.take_of_length_le (by rw [letters_len, List.length_replicate]; exact Nat.le_refl _)]
        rfl
    have HNE : Hid (R ≠ gL ∧ w.heap.size + 1 < R ∧ w.heap.size + 1 < gL) := ⟨fun c => HEM.out.2.2.1 c.symm, HEM.out.2.2.2.2.2.2.2.1, HEM.out.2.2.2.2.2.2.2.2.1⟩
    clear hem hb0 hsz0 hL hch
    go_wp2_with fail
    go_loopw [18] (fun iv wr => EaRel w f h ls n R gL iv wr) (fun iv _ => n - (intOf iv).toNat)
    case atStart => exact HST.out
    case round =>
      obtain ⟨j, hj, rfl, hr, hrow, hres, hb⟩ := hrel
      have HR := Lib.hid hr
      have HROW := Lib.hid hrow
      have HRES := Lib.hid hres
      have HB := Lib.hid hb
      have hRl : R < wr.heap.size := by
        rcases Nat.lt_or_ge R wr.heap.size with q | q
        · exact q
        · rw [Array.getElem?_eq_none q] at hr; cases hr
      have hgl := (World.ownsRow.lt hrow gL rfl).2
      have hbs := hb.size
      have y0 := Lib.cell_of_heap hr 0
      have y1 := Lib.cell_of_heap hr 1
      clear hr hrow hres hb
      by_cases hlt : j < n
      · obtain ⟨b, off, l, rfl, hbl, hl, c0, c1, c2, c3, c4, c5⟩ := (HL.out.below HB.out).at_ hlt
        have hji : (j : Int) < n := by omega
        have HC : Hid (∀ W, Below w.heap.size w W → Calls Tryd.prog 75 #[.agg #[.int .i64 l.kind, .int .i64 l.gate, .int .i64 l.rank, .int .i64 l.id, .int .i64 l.sign, .bool l.over], v1, v2] W fun e W' => e = .returned (.agg #[.int .i64 (h l).kind, .int .i64 (h l).gate, .int .i64 (h l).rank, .int .i64 (h l).id, .int .i64 (h l).sign, .bool (h l).over]) ∧ Below W.heap.size W W') :=
          fun W hW => HCH.out l W (List.mem_of_getElem? hl) hW
        have HSET := Lib.hid (eaL_set (h := h) HLL.out hl hlt)
        have HAT := Lib.hid (letters_at (eaL_at (h := h) HLL.out hlt))
        obtain ⟨l', hl'⟩ : ∃ l', h l = l' := ⟨_, rfl⟩
        rw [hl'] at HC HSET
        clear hl hl'
        go_wp2_with fail
        obtain ⟨W1, hW1⟩ : ∃ W1, W1 = wr.alloc (.cells #[.int .i64 l.kind, .int .i64 l.gate, .int .i64 l.rank, .int .i64 l.id, .int .i64 l.sign, .bool l.over] 50) := ⟨_, rfl⟩
        obtain ⟨B, hB⟩ : ∃ B, B = wr.heap.size := ⟨_, rfl⟩
        have HW1 : Hid (Below wr.heap.size wr W1) := by rw [hW1]; exact (Below.refl _ _).alloc (Nat.le_refl _) _
        have hs1 : B < W1.heap.size := by rw [hW1, hB]; simp
        have HS0 : Hid (EachS R gL B (j * 6) n l W1 W1) := by
          have e : ∀ q x, q < wr.heap.size → W1.cell? ⟨q, x, none⟩ = wr.cell? ⟨q, x, none⟩ := fun q x hq => HW1.out.cell (p := ⟨q, x, none⟩) hq
          have z : ∀ x, W1.frozen? ⟨gL, x, none⟩ = wr.frozen? ⟨gL, x, none⟩ := fun x => HW1.out.frozen (p := ⟨gL, x, none⟩) hgl
          have hc := Lib.cell_of_heap (heap_alloc_new wr (.cells #[.int .i64 l.kind, .int .i64 l.gate, .int .i64 l.rank, .int .i64 l.id, .int .i64 l.sign, .bool l.over] 50))
          rw [← hW1, ← hB] at hc
          have r0 := ownsRow_cell HROW.out (HAT.out 0 _ rfl)
          have r1 := ownsRow_cell HROW.out (HAT.out 1 _ rfl)
          have r2 := ownsRow_cell HROW.out (HAT.out 2 _ rfl)
          have r3 := ownsRow_cell HROW.out (HAT.out 3 _ rfl)
          have r4 := ownsRow_cell HROW.out (HAT.out 4 _ rfl)
          have r5 := ownsRow_cell HROW.out (HAT.out 5 _ rfl)
          exact ⟨(e _ _ hRl).trans y1, hc 0, hc 1, hc 2, hc 3, hc 4, hc 5, (e _ _ hgl).trans r0.1, (e _ _ hgl).trans r1.1, (e _ _ hgl).trans r2.1, (e _ _ hgl).trans r3.1, (e _ _ hgl).trans r4.1, (e _ _ hgl).trans r5.1,
            (z _).trans r0.2.1, (z _).trans r1.2.1, (z _).trans r2.2.1, (z _).trans r3.2.1, (z _).trans r4.2.1, (z _).trans r5.2.1, Below.refl _ _⟩
        have HSZ : Hid (R < W1.heap.size ∧ gL < W1.heap.size ∧ B < W1.heap.size) := by have := HW1.out.size; exact ⟨by omega, by omega, hs1⟩
        rw [← hW1, ← hB]
        have HBE := Lib.hid hB
        have HWW : Hid (Below w.heap.size w W1) := HB.out.trans (HW1.out.mono HB.out.size)
        clear hW1 hB c0 c1 c2 c3 c4 c5 y0 y1
        have HROW1 := Lib.hid (ownsRow_below HROW.out HW1.out)
        have HR1 : Hid (W1.heap[R]? = some (.cells #[.int .i64 f, .slice (some ⟨gL, 0, none⟩) n n] 33 (0, 0))) := (HW1.out.block R hRl).trans HR.out
        have HRES1 : Hid (W1.heap[w.heap.size + 1]? = some (.cells #[.int .i64 0, .slice none 0 0] 33 (0, 0))) := (HW1.out.block _ (by have := HNE.out; omega)).trans HRES.out
        obtain ⟨s1, b0, b1, b2, b3, b4, b5, c0, c1, c2, c3, c4, c5, f0, f1, f2, f3, f4, f5, _⟩ := HS0.out
        go_region_with (first
          | (go_at_call 75; (with_reducible refine (HC.out _ HWW.out.drew).mono ?_); rintro e w2 ⟨rfl, hbw⟩; have HB2 : Hid (Below W1.heap.size W1 w2) := ((Below.refl _ _).drew).trans (hbw.mono (by simp)); obtain ⟨t1, d0, d1, d2, d3, d4, d5, e0, e1, e2, e3, e4, e5, g0, g1, g2, g3, g4, g5, _⟩ := HS0.out.of HSZ.out.1 HSZ.out.2.1 HSZ.out.2.2 HB2.out; clear hbw))
        all_goals
          go_wp2_with fail
          go_roundw
          case rel =>
            have h1 := ownsRow_set (ownsRow_set (ownsRow_set (ownsRow_set (ownsRow_set (ownsRow_set (ownsRow_below HROW1.out HB2.out) (j * 6) (.int .i64 l'.kind)) (j * 6 + 1) (.int .i64 l'.gate)) (j * 6 + 2) (.int .i64 l'.rank)) (j * 6 + 3) (.int .i64 l'.id)) (j * 6 + 4) (.int .i64 l'.sign)) (j * 6 + 5) (.bool l'.over)
            rw [letters_set (by rw [eaL_len HLL.out (Nat.le_of_lt hlt)]; exact hlt), HSET.out] at h1
            have hk : ∀ q, q ≠ gL → ((((((w2.setCell ⟨gL, j * 6, none⟩ (.int .i64 l'.kind)).setCell ⟨gL, j * 6 + 1, none⟩ (.int .i64 l'.gate)).setCell ⟨gL, j * 6 + 2, none⟩ (.int .i64 l'.rank)).setCell ⟨gL, j * 6 + 3, none⟩ (.int .i64 l'.id)).setCell ⟨gL, j * 6 + 4, none⟩ (.int .i64 l'.sign)).setCell ⟨gL, j * 6 + 5, none⟩ (.bool l'.over)).heap[q]? = w2.heap[q]? := fun q hq =>
              ((((((Below.heap_setCell _ _ _ q hq).trans (Below.heap_setCell _ _ _ q hq)).trans (Below.heap_setCell _ _ _ q hq)).trans (Below.heap_setCell _ _ _ q hq)).trans (Below.heap_setCell _ _ _ q hq)).trans (Below.heap_setCell _ _ _ q hq))
            have hb2 : Below w.heap.size w w2 := HWW.out.trans (HB2.out.mono HWW.out.size)
            have hne := HNE.out
            have hgg : w.heap.size ≤ gL := by omega
            have hrr := EaRel.next (f := f) (h := h) (ls := ls) (R := R) hlt h1 ((hk R hne.1).trans ((HB2.out.block R HSZ.out.1).trans HR1.out)) ((hk _ (by omega)).trans ((HB2.out.block _ (by have := HSZ.out.1; omega)).trans HRES1.out))
              ((((((hb2.setCell (p := ⟨gL, j * 6, none⟩) hgg _).setCell (p := ⟨gL, j * 6 + 1, none⟩) hgg _).setCell (p := ⟨gL, j * 6 + 2, none⟩) hgg _).setCell (p := ⟨gL, j * 6 + 3, none⟩) hgg _).setCell (p := ⟨gL, j * 6 + 4, none⟩) hgg _).setCell (p := ⟨gL, j * 6 + 5, none⟩) hgg _)
            first | exact hrr | ((repeat (apply Exists.intro)); exact And.intro hrr rfl)
          case measure => simp [intOf]; omega
      · have hjn : j = n := by omega
        subst hjn
        have z0 := Lib.cell_of_heap HRES.out 0
        have z1 := Lib.cell_of_heap HRES.out 1
        have zf : ∀ k, wr.frozen? ⟨w.heap.size + 1, k, none⟩ = false := fun k => by have h1 := HRES.out; simp [World.frozen?, h1]
        have zf0 := zf 0
        have zf1 := zf 1
        clear zf
        go_wp2_with fail
        obtain ⟨X, hX⟩ : ∃ X, X = (wr.setCell ⟨w.heap.size + 1, 0, none⟩ (.int .i64 f)).setCell ⟨w.heap.size + 1, 1, none⟩ (.slice (some ⟨gL, 0, none⟩) j j) := ⟨_, rfl⟩
        have hXF : X.heap[w.heap.size + 1]? = some (.cells #[.int .i64 f, .slice (some ⟨gL, 0, none⟩) j j] 33 (0, 0)) := by
          rw [hX]
          simp [World.setCell, Array.getElem?_modify, HRES.out]
        have hXK : ∀ q, q ≠ w.heap.size + 1 → X.heap[q]? = wr.heap[q]? := fun q hq => by
          rw [hX]
          exact (Below.heap_setCell _ _ _ q hq).trans (Below.heap_setCell _ _ _ q hq)
        have hXB : Below w.heap.size w X := by
          rw [hX]
          exact (HB.out.setCell (p := ⟨w.heap.size + 1, 0, none⟩) (by show w.heap.size ≤ w.heap.size + 1; omega) _).setCell (p := ⟨w.heap.size + 1, 1, none⟩) (by show w.heap.size ≤ w.heap.size + 1; omega) _
        rw [← hX]
        have k0 := Lib.cell_of_heap hXF 0
        have k1 := Lib.cell_of_heap hXF 1
        refine bodyPost_ret (v := .agg #[.int .i64 f, .slice (some ⟨gL, 0, none⟩) j j]) (by simp [results, Tryd.results74, go_sem, k0, k1]) rfl ?_
        have hne := HNE.out
        have h1 := own_base' (B := w.heap.size) (own_kept2' HROW.out (fun g e => hXK g (by have e' : gL = g := (by simpa [Value.ownBlock] using e); omega))) (by omega)
        have hl : (ls.map h).length = j := by rw [List.length_map]; exact HLL.out
        refine ⟨gL, by rw [hl], ?_, hXB⟩
        unfold OwnL
        rw [hl]
        have he : eaL h ls j j = ls.map h := by
          unfold eaL
          rw [List.take_of_length_le (by rw [HLL.out]; exact Nat.le_refl _), Nat.sub_self, List.replicate_zero, List.append_nil]
        rw [he] at h1
        exact h1

end Go.Proofs.YtbbpockkafbfmaaDoor
