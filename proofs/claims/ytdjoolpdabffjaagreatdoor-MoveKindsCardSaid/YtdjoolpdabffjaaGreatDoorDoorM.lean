/-
  What the cards of layer 3 (MoveKinds, MoveBares) share: the four listed variables at the start, and what the walks are told of the spelling of moves.
-/
import Derived.Test.YtdjoolpdabffjaaGreatDoorVrStart
import Derived.Test.YtdjoolpdabffjaaGreatDoorRows
import Derived.ProofKit
import Derived.OpenShut
import Derived.ShutString
import Derived.ChangeOld
import Derived.LaidMore
import Derived.Stop.Joined
import Derived.SevenTiedAt
import Derived.Lib.LaidTab
import Derived.MakeChecks
import Derived.Carry
namespace Go.Proofs.YtdjoolpdabffjaaGreatDoor
open Go.ChangeShapes Go.WideShapes Go.ChangeAt Go.RowKit

theorem own : ownKnob Tryz.prog.godebug = none := by kernel_rfl
theorem laidOut : laidOutB Tryz.prog = true := by kernel_rfl
def I64 (x : Int) : Prop := -9223372036854775808 ≤ x ∧ x ≤ 9223372036854775807

/-- The four variables. -/
def laid4 : List (String × DataW Unit) := [("math/bits.deBruijn32tab", Rows.laid_math_bits_deBruijn32tab), ("math/bits.deBruijn64tab", Rows.laid_math_bits_deBruijn64tab), ("internal/strconv.uint64pow10", Rows.laid_internal_strconv_uint64pow10), ("catscradle/move.spelling", Rows.laid_catscradle_move_spelling)]

set_option maxRecDepth 100000 in
/-- The door's own heap meets the condition. -/
theorem door_met (os : Os) (args : Array Value) : laidMetH Tryz.prog laid4 ((World.doorLaid Tryz.prog 400 os).forCall (fun _ _ => 0) ⟨#[], args, []⟩).memory :=
  laidMetH_of_parts3 (fuel := 8) (laidMet_of_run' 8 (by kernel_rfl) (by kernel_rfl)) (by kernel_rfl) (by kernel_rfl)

theorem i64_of_wf {x : Int} (h : (Lit.int .i64 x).wf = true) : I64 x := by
  simp [Lit.wf, IntKind.min, IntKind.max, IntKind.signed, IntKind.bits] at h
  exact ⟨by omega, by omega⟩

def bv (l : List UInt8) : Value := .string ⟨l.toArray⟩
/-- The words of the kinds, and their fields. -/
def spellL : List (List UInt8) := [[], [], [97, 120, 105, 115, 45, 99, 117, 116], [65], [97, 120, 105, 115, 45, 109, 97, 107, 101], [65, 66, 67], [97, 120, 105, 115, 45, 115, 108, 105, 100, 101], [65, 66], [108, 111, 111, 112, 45, 99, 117, 116], [65], [108, 111, 111, 112, 45, 109, 97, 107, 101], [65, 79, 83], [112, 97, 105, 114, 45, 99, 117, 116], [65, 66], [112, 97, 105, 114, 45, 109, 97, 107, 101], [65, 66, 76, 79], [116, 114, 105, 97, 110, 103, 108, 101], [65, 66, 67], [116, 105, 112, 45, 114, 105, 103, 104, 116], [65], [116, 105, 112, 45, 108, 101, 102, 116], [65]]
def spellB : Vr.Blk := { cells := spellL.map bv, elem := 60, exact := true, ro := true }

def pairD (i : Nat) : DataW Unit := .agg [.lit (.string (spellL.getD (2 * i) [])), .lit (.string (spellL.getD (2 * i + 1) []))]
theorem spell_data : Rows.laid_catscradle_move_spelling = (.agg ((List.range 11).map pairD) : DataW Unit) := by kernel_rfl

set_option maxRecDepth 100000 in
/-- Two strings that read as these. -/
theorem pair_cells {W : World} {fuel : Nat} {cs : List Value} {a b : List UInt8} {p : List MemPlace}
    (h : DataW.trod (fun _ => ()) Tryz.prog W 0 (fun _ => true) false fuel 59 cs = some (.agg [.lit (.string a), .lit (.string b)], p)) : cs = [bv a, bv b] := by
  obtain ⟨xs, n, rfl, hx, hl, hxl, hall⟩ := DataW.trod_struct Tryz.underlying59 h
  rw [show Tryz.prog.cellsOf 59 = 2 by kernel_rfl] at hl
  have hxs : xs.map (·.1) = [.lit (.string a), .lit (.string b)] := by
    have := congrArg Prod.fst hx
    simpa using this.symm
  have h0 := hall 0 _ rfl
  have h1 := hall 1 _ rfl
  have hxl' : xs.length = 2 := hxl
  obtain ⟨y0, e0⟩ : ∃ y, xs[0]? = some y := ⟨xs[0]'(by omega), List.getElem?_eq_getElem (by omega)⟩
  obtain ⟨y1, e1⟩ : ∃ y, xs[1]? = some y := ⟨xs[1]'(by omega), List.getElem?_eq_getElem (by omega)⟩
  rw [e0] at h0
  rw [e1] at h1
  obtain ⟨s0, c0, d0, _⟩ := DataW.trod_string (by kernel_rfl) h0
  obtain ⟨s1, c1, d1, _⟩ := DataW.trod_string (by kernel_rfl) h1
  have g0 : (xs.map (·.1))[0]? = some y0.1 := by simp [e0]
  have g1 : (xs.map (·.1))[1]? = some y1.1 := by simp [e1]
  rw [hxs] at g0 g1
  simp only [List.getElem?_cons_zero, List.getElem?_cons_succ, Option.some.injEq] at g0 g1
  rw [d0] at g0
  rw [d1] at g1
  simp only [DataW.lit.injEq, Lit.string.injEq] at g0 g1
  match cs, hl with
  | [u, v], _ =>
    have k0 : u = .string s0 := by
      have := congrArg (·[0]?) c0
      simpa [show Tryz.prog.cellsOf 9 = 1 by kernel_rfl] using this
    have k1 : v = .string s1 := by
      have := congrArg (·[0]?) c1
      simpa [show Tryz.prog.cellsOf 9 = 1 by kernel_rfl] using this
    rw [k0, k1, g0, g1]
    rfl

theorem gSpell : Tryz.prog.globalNamed "catscradle/move.spelling" = some 0 := by kernel_rfl
theorem gSpellType : (Tryz.prog.globals[0]?).map (·.type) = some 60 := by kernel_rfl

set_option maxRecDepth 100000 in
/-- What the walks are told: the words of the moves lie where the program laid them. -/
theorem tabs_of_laid {W : World} (h : laidMetH Tryz.prog laid4 W) : Vr.TabAt W 0 spellB := by
  rw [MakeChecks.laidMetH_plain _ _ _ (by kernel_rfl)] at h
  obtain ⟨_, h1, _⟩ := h
  obtain ⟨_, _, _, _, _, _, _, _, _, _, h2, _⟩ := h1
  obtain ⟨_, _, _, _, _, _, _, _, _, _, h3, _⟩ := h2
  obtain ⟨_, _, _, _, _, _, _, _, _, _, h4, _⟩ := h3
  obtain ⟨g', t', cs, fuel, p, q, hg', ht', hvar, hd, _, _⟩ := h4
  obtain rfl := Option.some.inj (gSpell.symm.trans hg')
  obtain rfl := Option.some.inj (gSpellType.symm.trans ht')
  rw [spell_data] at hd
  obtain ⟨xs, m, rfl, hx, hl, hxl, hall⟩ := DataW.trod_array (n := 11) (e := 59) (by kernel_rfl) hd
  have hct : Tryz.prog.cellsOf 59 = 2 := by kernel_rfl
  have hl' : cs.toList.length = 22 := hl
  have hxs : xs.map (·.1) = (List.range 11).map pairD := by
    have := congrArg Prod.fst hx
    simpa using this.symm
  have hpair : ∀ i, i < 11 → (cs.toList.drop (i * 2)).take 2 = [bv (spellL.getD (2 * i) []), bv (spellL.getD (2 * i + 1) [])] := by
    intro i hi
    have h1 := hall i hi
    rw [hct] at h1
    obtain ⟨y, hy⟩ : ∃ y, xs[i]? = some y := ⟨xs[i]'(by omega), List.getElem?_eq_getElem (by omega)⟩
    rw [hy] at h1
    have h2 : (xs.map (·.1))[i]? = some y.1 := by simp [hy]
    rw [hxs, List.getElem?_map, List.getElem?_range hi, Option.map_some, Option.some.injEq] at h2
    obtain ⟨y1, y2⟩ := y
    simp only at h2
    subst h2
    exact pair_cells h1
  have hcell : ∀ j, j < 22 → cs.toList[j]? = some (bv (spellL.getD j [])) := by
    intro j hj
    have h1 := hpair (j / 2) (by omega)
    rcases Nat.mod_two_eq_zero_or_one j with hm | hm
    · have := congrArg (·[0]?) h1
      simp only [List.getElem?_take, List.getElem?_drop] at this
      simpa [show j / 2 * 2 = j by omega, show 2 * (j / 2) = j by omega] using this
    · have := congrArg (·[1]?) h1
      simp only [List.getElem?_take, List.getElem?_drop] at this
      simpa [show j / 2 * 2 + 1 = j by omega, show 2 * (j / 2) + 1 = j by omega] using this
  have hheap : ∃ el fr, W.heap[0]? = some (.cells cs el fr) := by
    simp only [World.var?, gSpell, Option.bind_some] at hvar
    split at hvar
    · rename_i c e f hc
      cases hvar
      exact ⟨e, f, hc⟩
    · cases hvar
  obtain ⟨el, fr, hh⟩ := hheap
  refine ⟨cs, el, fr, hh, fun j v hv => ?_⟩
  have hj : j < 22 := (List.getElem?_eq_some_iff.1 hv).1
  have h1 := hcell j hj
  have h2 : spellB.cells[j]? = some (bv (spellL.getD j [])) := by
    show (spellL.map bv)[j]? = _
    rw [List.getElem?_map]
    have hj' : j < spellL.length := hj
    simp [List.getD, hj']
  rw [h2] at hv
  cases hv
  simpa using h1

end Go.Proofs.YtdjoolpdabffjaaGreatDoor
