/-
  DoorC DoorL, one after the other.
-/
import Derived.Test.YtbbpockkafbfmaaDoorDoor
import Derived.Test.YtbbpockkafbfmaaDoorShelf
import Derived.Test.YtbbpockkafbfmaaDoorWordC
import Derived.MakeChecks
import Derived.WalkSmall
import Derived.Stop.LaidErr
import Derived.Lib.AppendIntMem
import Derived.Test.YtbbpockkafbfmaaDoorKn1
import Derived.Deep.Slices

/-
  What the listed tables give the walks of codes: strconv.Itoa at every integer.
-/
namespace Go.Proofs.YtbbpockkafbfmaaDoor
open Go.ChangeShapes Go.WideShapes Go.ChangeAt Go.RowKit

theorem itoa_of_laid {W : World} (h : laidMetH Tryd.prog laid3 W) : ItoaAll W := by
  rw [MakeChecks.laidMetH_plain _ _ _ (by kernel_rfl)] at h
  have hT : Lib.TabIs Tryd.prog W "internal/strconv.uint64pow10" .u64 Lib.pow10Tab := Lib.tabIs_of_head (rest := laid3.drop 3) gTab gTabType (n := 20) (e := 143) (by kernel_rfl) (by kernel_rfl) (by kernel_rfl) (by kernel_rfl) h.tail.tail
  have hT0 := hT.cell gTab 0 (by decide)
  have hlt := World.block_lt_of_cell? W _ hT0
  intro x hx V hV
  refine (Tryd.strconv_Itoa x hx.1 hx.2 V (var?_below hV gTab hlt hT)).mono ?_
  rintro e W' ⟨rfl, k, os, rfl⟩
  exact ⟨rfl, Lib.below_grow _ _ (Nat.le_refl _) _ _⟩

end Go.Proofs.YtbbpockkafbfmaaDoor

/-
  A code that comes in: its letters read as a list.
-/
namespace Go.Proofs.YtbbpockkafbfmaaDoor
open Go.ChangeShapes Go.WideShapes Go.ChangeAt Go.RowKit

/-- Numbers of 64 bits. -/
def LtAll (l : Lt) : Prop := I64 l.kind ∧ I64 l.gate ∧ I64 l.rank ∧ I64 l.id ∧ I64 l.sign

section
variable {H : Type} {enc : TypeId × Value → H} {W : World} {sp : Nat → Bool} {held : Bool}

theorem field_int {t : TypeId} {n off : Nat} {cs : List Value} {x : DataW H × List MemPlace} (hu : Tryd.prog.underlying t = some (.int .i64)) (hc : Tryd.prog.cellsOf t = 1)
    (h : DataW.trod enc Tryd.prog W 0 sp held n t ((cs.drop off).take (Tryd.prog.cellsOf t)) = some x) : ∃ z, (cs.drop off).take 1 = [.int .i64 z] ∧ I64 z := by
  rw [hc] at h
  obtain ⟨z, h1, _, hw⟩ := DataW.trod_int hu h
  exact ⟨z, h1, i64_of_wf hw⟩
theorem field_bool {t : TypeId} {n off : Nat} {cs : List Value} {x : DataW H × List MemPlace} (hu : Tryd.prog.underlying t = some .bool) (hc : Tryd.prog.cellsOf t = 1)
    (h : DataW.trod enc Tryd.prog W 0 sp held n t ((cs.drop off).take (Tryd.prog.cellsOf t)) = some x) : ∃ z, (cs.drop off).take 1 = [.bool z] := by
  rw [hc] at h
  obtain ⟨z, h1, _⟩ := DataW.trod_bool hu h
  exact ⟨z, h1⟩

set_option maxRecDepth 100000 in
/-- A letter's cells. -/
theorem lt_of_trod {fuel : Nat} {cs : List Value} {x : DataW H × List MemPlace} (h : DataW.trod enc Tryd.prog W 0 sp held fuel 50 cs = some x) : ∃ l : Lt, cs = ltVs l ∧ LtAll l := by
  obtain ⟨xs, n, rfl, hx, hl, hxl, hall⟩ := DataW.trod_struct Tryd.underlying50 h
  rw [show Tryd.prog.cellsOf 50 = 6 by kernel_rfl] at hl
  have hxl' : xs.length = 6 := hxl
  have hg : ∀ i, i < 6 → ∃ y, xs[i]? = some y := fun i hi => ⟨xs[i]'(by omega), List.getElem?_eq_getElem (by omega)⟩
  obtain ⟨y0, e0⟩ := hg 0 (by omega)
  obtain ⟨y1, e1⟩ := hg 1 (by omega)
  obtain ⟨y2, e2⟩ := hg 2 (by omega)
  obtain ⟨y3, e3⟩ := hg 3 (by omega)
  obtain ⟨y4, e4⟩ := hg 4 (by omega)
  obtain ⟨y5, e5⟩ := hg 5 (by omega)
  have h0 := hall 0 _ rfl
  have h1 := hall 1 _ rfl
  have h2 := hall 2 _ rfl
  have h3 := hall 3 _ rfl
  have h4 := hall 4 _ rfl
  have h5 := hall 5 _ rfl
  rw [e0] at h0; rw [e1] at h1; rw [e2] at h2; rw [e3] at h3; rw [e4] at h4; rw [e5] at h5
  obtain ⟨z0, q0, i0⟩ := field_int (by kernel_rfl) (by kernel_rfl) h0
  obtain ⟨z1, q1, i1⟩ := field_int (by kernel_rfl) (by kernel_rfl) h1
  obtain ⟨z2, q2, i2⟩ := field_int (by kernel_rfl) (by kernel_rfl) h2
  obtain ⟨z3, q3, i3⟩ := field_int (by kernel_rfl) (by kernel_rfl) h3
  obtain ⟨z4, q4, i4⟩ := field_int (by kernel_rfl) (by kernel_rfl) h4
  obtain ⟨z5, q5⟩ := field_bool (by kernel_rfl) (by kernel_rfl) h5
  clear h0 h1 h2 h3 h4 h5 hall hx
  match cs, hl with
  | [c0, c1, c2, c3, c4, c5], _ =>
    injection q0 with q0 _
    injection q1 with q1 _
    injection q2 with q2 _
    injection q3 with q3 _
    injection q4 with q4 _
    injection q5 with q5 _
    subst q0; subst q1; subst q2; subst q3; subst q4; subst q5
    exact ⟨⟨z0, z1, z2, z3, z4, z5⟩, rfl, i0, i1, i2, i3, i4⟩

theorem shape_lt {W : World} {b : Nat} {s : TypeId × Nat} (h : W.shape? b = some s) : b < W.heap.size := by
  rcases Nat.lt_or_ge b W.heap.size with q | q
  · exact q
  · unfold World.shape? at h
    rw [Array.getElem?_eq_none q] at h
    simp at h

theorem codeTypes : Tryd.prog.cellTypes Tryd.prog.depth 33 = some [3, 31] := by kernel_rfl

set_option maxRecDepth 100000 in
/-- A code that comes in. -/
theorem code_of_trod {r : Reach} {b0 : Nat} {v : Value} {x : DataW H × List MemPlace} (hok : Value.okWide Tryd.prog W r b0 33 v)
    (h : ∃ fuel, DataW.trod enc Tryd.prog W 0 (fun _ => true) true fuel 33 v.cells.toList = some x) :
    ∃ f A n c ls, v = .agg #[.int .i64 f, .slice A n c] ∧ I64 f ∧ LS W A n ls ∧ n ≤ maxLen ∧ (∀ l, l ∈ ls → LtAll l) ∧ (A = none → c = 0) ∧ n ≤ c ∧ (∀ b off, A = some ⟨b, off, none⟩ → b < W.heap.size) ∧ (∀ a, A = some a → a.spot = none) := by
  have hu := Tryd.underlying33
  have hok' := hok
  unfold Value.okWide at hok'
  rw [hu] at hok'
  obtain ⟨cs, rfl, hsz, ts, hts, _, hcell⟩ := hok'
  rw [codeTypes] at hts
  injection hts with hts
  subst hts
  obtain ⟨fuel, hf⟩ := h
  obtain ⟨xs, n, rfl, hx, hl, hxl, hall⟩ := DataW.trod_struct hu hf
  have hxl' : xs.length = 2 := hxl
  have hg : ∀ i, i < 2 → ∃ y, xs[i]? = some y := fun i hi => ⟨xs[i]'(by omega), List.getElem?_eq_getElem (by omega)⟩
  obtain ⟨y0, e0⟩ := hg 0 (by omega)
  obtain ⟨y1, e1⟩ := hg 1 (by omega)
  have h0 := hall 0 _ rfl
  have h1 := hall 1 _ rfl
  rw [e0] at h0; rw [e1] at h1
  obtain ⟨z0, q0, i0⟩ := field_int (by kernel_rfl) (by kernel_rfl) h0
  rw [show Tryd.prog.cellsOf 33 = 2 by kernel_rfl] at hl
  have hl' : cs.toList.length = 2 := hl
  obtain ⟨l⟩ := cs
  match l, hl' with
  | [c0, c1], _ =>
    injection q0 with q0 _
    subst q0
    have hc1 : DataW.trod enc Tryd.prog W 0 (fun _ => true) true n 31 [c1] = some y1 := h1
    obtain ⟨u, hu1, hok1⟩ := hcell 1 c1 rfl
    have hu2 : u = 31 := by injection hu1 with hu1; exact hu1.symm
    subst hu2
    rcases Go.Deep.open_slice Tryd.underlying31 hc1 with ⟨hcs, _⟩ | ⟨a, len, cap, m, k, D, Pl, hcs, _, hle, hmx, hm, _, hel⟩
    · injection hcs with hcs _
      subst hcs
      exact ⟨z0, none, 0, 0, [], rfl, i0, ⟨rfl, fun h => absurd h (by omega)⟩, by unfold maxLen; omega, (fun l hl => by cases hl), (fun _ => rfl), Nat.le_refl _, (fun b off e => by cases e), fun a e => by cases e⟩
    · injection hcs with hcs _
      subst hcs
      unfold Cell.okWide Cell.ok at hok1
      rw [Tryd.underlying31] at hok1
      obtain ⟨_, _, _, hspot, row, cells, hsh, _⟩ := hok1
      have hb := shape_lt hsh
      obtain ⟨b, off, spot⟩ := a
      dsimp only at hspot hb
      subst hspot
      have hm' : m = cap := hm
      subst hm'
      rw [show Tryd.prog.cellsOf 50 = 6 by kernel_rfl] at hel
      have hel' : ∀ i, i < m → ∃ l : Lt, LtAt W b (off + i * 6) l ∧ LtAll l := by
        intro i hi
        obtain ⟨cs', hcs', ht⟩ := hel i hi
        obtain ⟨l, rfl, hla⟩ := lt_of_trod ht
        obtain ⟨_, _, hcells⟩ := World.cells?_some hcs'
        refine ⟨l, ?_, hla⟩
        have hc : ∀ j, j < 6 → W.cell? ⟨b, off + i * 6 + j, none⟩ = (ltVs l)[j]? := by
          intro j hj
          have := hcells j hj
          rw [Go.Deep.add_add, Go.WideShapes.add_plain, ← Nat.add_assoc] at this
          exact this
        exact ⟨hc 0 (by decide), hc 1 (by decide), hc 2 (by decide), hc 3 (by decide), hc 4 (by decide), hc 5 (by decide)⟩
      haveI : Inhabited Lt := ⟨⟨0, 0, 0, 0, 0, false⟩⟩
      obtain ⟨L, hL⟩ := Go.Deep.choose_lt (α := Lt) hel'
      refine ⟨z0, some ⟨b, off, none⟩, len, m, (List.range len).map L, rfl, i0, ⟨by simp, fun _ => ⟨b, off, rfl, hb, fun k l hk => ?_⟩⟩, by omega, fun l hl => ?_, (fun e => by cases e), hle, (fun b' off' e => by injection e with e; injection e with e1 _; omega), fun a e => by injection e with e; subst e; rfl⟩
      · rw [List.getElem?_map] at hk
        rcases Nat.lt_or_ge k len with q | q
        · rw [List.getElem?_range q] at hk
          injection hk with hk
          subst hk
          exact (hL k (by omega)).1
        · rw [List.getElem?_eq_none (by simpa using q)] at hk
          cases hk
      · obtain ⟨k, hk, rfl⟩ := List.mem_map.1 hl
        have := List.mem_range.1 hk
        exact (hL k (by omega)).2

set_option maxRecDepth 100000 in
/-- A place that comes in. -/
theorem place_of_trod {r : Reach} {b0 : Nat} {v : Value} {x : DataW H × List MemPlace} (hok : Value.okWide Tryd.prog W r b0 69 v)
    (h : ∃ fuel, DataW.trod enc Tryd.prog W 0 (fun _ => true) true fuel 69 v.cells.toList = some x) : ∃ a y, v = .agg #[.int .i64 a, .int .i64 y] ∧ I64 a ∧ I64 y := by
  have hu := Tryd.underlying69
  have hok' := hok
  unfold Value.okWide at hok'
  rw [hu] at hok'
  obtain ⟨cs, rfl, hsz, _⟩ := hok'
  obtain ⟨fuel, hf⟩ := h
  obtain ⟨xs, n, rfl, hx, hl, hxl, hall⟩ := DataW.trod_struct hu hf
  have hxl' : xs.length = 2 := hxl
  have hg : ∀ i, i < 2 → ∃ y, xs[i]? = some y := fun i hi => ⟨xs[i]'(by omega), List.getElem?_eq_getElem (by omega)⟩
  obtain ⟨y0, e0⟩ := hg 0 (by omega)
  obtain ⟨y1, e1⟩ := hg 1 (by omega)
  have h0 := hall 0 _ rfl
  have h1 := hall 1 _ rfl
  rw [e0] at h0; rw [e1] at h1
  obtain ⟨z0, q0, i0⟩ := field_int (by kernel_rfl) (by kernel_rfl) h0
  obtain ⟨z1, q1, i1⟩ := field_int (by kernel_rfl) (by kernel_rfl) h1
  rw [show Tryd.prog.cellsOf 69 = 2 by kernel_rfl] at hl
  have hl' : cs.toList.length = 2 := hl
  obtain ⟨l⟩ := cs
  match l, hl' with
  | [c0, c1], _ =>
    injection q0 with q0 _
    injection q1 with q1 _
    subst q0
    subst q1
    exact ⟨z0, z1, rfl, i0, i1⟩
end

end Go.Proofs.YtbbpockkafbfmaaDoor
