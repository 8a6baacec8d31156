/-
  The walk of line.Print.
-/
import Derived.Test.YtenomnkdfiojbaaDoorBuild
import Derived.Lib.ItoaLen
namespace Go.Proofs.YtenomnkdfiojbaaDoor
open Go.RowKit

/-- The bytes behind some rounds. -/
def printTo (l : List Int) : List UInt8 :=
  match l with
  | [] => []
  | x :: r => Lib.itoa x ++ r.flatMap fun y => 32 :: Lib.itoa y
def printL (l : List Int) : List UInt8 := if l.length = 0 then [45] else printTo l

theorem strCells_mk (l : List UInt8) : Lib.strCells ⟨l.toArray⟩ = Lib.byteCells l := rfl
theorem printTo_snoc {l : List Int} (h : l ≠ []) (x : Int) : printTo (l ++ [x]) = printTo l ++ 32 :: Lib.itoa x := by
  cases l with
  | nil => exact absurd rfl h
  | cons a r => simp [printTo]
theorem printTo_one (x : Int) : printTo [x] = Lib.itoa x := by simp [printTo]

/-- What line.Print asks of strconv.Itoa. -/
def ItoaAt (w : World) (x : Int) : Prop :=
  ∀ W, Below w.heap.size w W → Calls Tryd.prog 70 #[.int .i64 x] W fun e W' => e = .returned (.string ⟨(Lib.itoa x).toArray⟩) ∧ Below W.heap.size W W'

def PrintRel (w : World) (xs : List Int) (n : Nat) (i : Value) (wr : World) : Prop :=
  ∃ j : Nat, j ≤ n ∧ i = .int .i64 j ∧ Lib.IsBuilder 68 5 w.heap.size w.heap.size (Lib.byteCells (printTo (xs.take j))) wr ∧ (printTo (xs.take j)).length ≤ 22 * j ∧ Below w.heap.size w wr

theorem print_step {w : World} {xs : List Int} {n j : Nat} {x : Int} {wr : World} (hx : xs[j]? = some x) (h20 : (Lib.itoa x).length ≤ 21) (hl : (printTo (xs.take j)).length ≤ 22 * j)
    (hj : 0 < j) (hn : j < n) (hB : Lib.IsBuilder 68 5 w.heap.size w.heap.size (Lib.byteCells (printTo (xs.take j)) ++ [.int .u8 32] ++ Lib.strCells ⟨(Lib.itoa x).toArray⟩) wr) (hb : Below w.heap.size w wr) :
    PrintRel w xs n (.int .i64 ((j + 1 : Nat) : Int)) wr := by
  have e : xs.take (j + 1) = xs.take j ++ [x] := by rw [List.take_add_one, hx]; rfl
  have hne : xs.take j ≠ [] := by
    intro h
    have hlen := congrArg List.length h
    have : j < xs.length := by
      rcases Nat.lt_or_ge j xs.length with q | q
      · exact q
      · rw [List.getElem?_eq_none q] at hx; cases hx
    simp at hlen
    rcases hlen with q | q
    · omega
    · subst q; simp at this
  refine ⟨j + 1, by omega, rfl, ?_, ?_, hb⟩
  · rw [e, printTo_snoc hne]
    have : Lib.byteCells (printTo (xs.take j) ++ 32 :: Lib.itoa x) = Lib.byteCells (printTo (xs.take j)) ++ [.int .u8 32] ++ Lib.strCells ⟨(Lib.itoa x).toArray⟩ := by
      rw [strCells_mk]; simp [Lib.byteCells]
    rw [this]; exact hB
  · rw [e, printTo_snoc hne]; simp; omega
theorem print_step0 {w : World} {xs : List Int} {n : Nat} {x : Int} {wr : World} (hx : xs[0]? = some x) (h20 : (Lib.itoa x).length ≤ 21)
    (hn : 0 < n) (hB : Lib.IsBuilder 68 5 w.heap.size w.heap.size ([] ++ Lib.strCells ⟨(Lib.itoa x).toArray⟩) wr) (hb : Below w.heap.size w wr) :
    PrintRel w xs n (.int .i64 ((0 + 1 : Nat) : Int)) wr := by
  have e : xs.take (0 + 1) = [x] := by rw [List.take_add_one, hx]; rfl
  refine ⟨0 + 1, by omega, rfl, ?_, ?_, hb⟩
  · rw [e, printTo_one, ← strCells_mk]; simpa using hB
  · rw [e, printTo_one]; omega

set_option maxHeartbeats 1000000 in
theorem print_calls (A : Option Addr) (n cap : Nat) (xs : List Int) (w : World) (h : SL w A n xs) (hn : n ≤ 100000) (hI : ∀ x, x ∈ xs → ItoaAt w x) (h20 : ∀ x, x ∈ xs → (Lib.itoa x).length ≤ 21) :
    Calls Tryd.prog 47 #[.slice A n cap] w fun e w' => e = .returned (.string ⟨(printL xs).toArray⟩) ∧ Below w.heap.size w w' := by
  have hl := Lib.hid h.1
  by_cases h0 : n = 0
  · subst h0
    go_enter Tryd.func47, Tryd.ntmps47
    go_wp2
    go_ret
    refine ⟨?_, Below.refl _ _⟩
    unfold printL; rw [hl.out]; rfl
  · have hne : ((n : Int) == 0) = false := by rw [beq_eq_false_iff_ne]; omega
    have H0 := Lib.hid h0
    have HI := Lib.hid hI
    have H20 := Lib.hid h20
    clear h0 hI h20
    go_enter Tryd.func47, Tryd.ntmps47
    go_wp2
    go_loopw [11] (fun i wr => PrintRel w xs n i wr) (fun i _ => n - (intOf i).toNat)
    case atStart => exact ⟨0, Nat.zero_le _, rfl, by simpa [printTo, Lib.byteCells] using Lib.fresh_isBuilder 68 5 w, by simp [printTo], (Below.refl _ _).alloc (Nat.le_refl _) _⟩
    case round =>
      obtain ⟨j, hj, rfl, hB, hlen, hb⟩ := hrel
      have HB := Lib.hid hB
      clear hB
      by_cases hlt : j < n
      · obtain ⟨b, off, x, rfl, hbb, hx, hc⟩ := (h.below hb).at_ hlt
        have hmem : x ∈ xs := List.mem_of_getElem? hx
        have HX := Lib.hid hx
        have HLEN := Lib.hid hlen
        have h20' := H20.out x hmem
        have HIx := Lib.hid (HI.out x hmem)
        clear hx hmem
        have hblen : (Lib.byteCells (printTo (xs.take j))).length ≤ 22 * j := by rw [Lib.byteCells_length]; exact HLEN.out
        have hsz : (⟨(Lib.itoa x).toArray⟩ : ByteArray).size ≤ 21 := by simpa [ByteArray.size] using h20'
        have HBL := Lib.hid hblen
        have HSZ := Lib.hid hsz
        have HS := Lib.hid hb.size
        have HH20 := Lib.hid h20'
        clear hblen hsz h20' hlen
        rcases Nat.eq_zero_or_pos j with hz | hp
        · have hle : (j : Int) ≤ 0 := by omega
          have HZ := Lib.hid hz
          clear hz
          go_wp2_with fail
          refine (HIx.out _ hb).mono ?_
          rintro e w1 ⟨rfl, hb1⟩
          go_wp2_with fail
          refine (writeString_calls w.heap.size w.heap.size _ ⟨(Lib.itoa x).toArray⟩ w1 (isBuilder_below HB.out hb1) (by have := HBL.out; have := HSZ.out; omega) (by have := HS.out; have := hb1.size; omega)).mono ?_
          rintro e w2 ⟨rfl, hB2, hb2⟩
          have HR : Hid (PrintRel w xs n (.int .i64 ((j + 1 : Nat) : Int)) w2) := by
            have e0 := HZ.out
            subst e0
            exact print_step0 HX.out HH20.out hlt (by simpa [printTo, Lib.byteCells] using hB2) ((hb.trans (hb1.mono HS.out)).trans hb2)
          clear hB2
          go_wp2
          go_roundw
          case rel => exact HR.out
          case measure => simp [intOf]; omega
        · go_wp2_with fail
          refine (writeByte_calls w.heap.size w.heap.size _ 32 wr HB.out (by have := HBL.out; omega) HS.out).mono ?_
          rintro e w1 ⟨rfl, hB1, hb1⟩
          have HB1 := Lib.hid hB1
          clear hB1
          have HS1 := Lib.hid hb1.size
          go_wp2_with fail
          refine (HIx.out _ (hb.trans hb1)).mono ?_
          rintro e w2 ⟨rfl, hb2⟩
          go_wp2_with fail
          refine (writeString_calls w.heap.size w.heap.size _ ⟨(Lib.itoa x).toArray⟩ w2 (isBuilder_below HB1.out hb2) (by have := HBL.out; have := HSZ.out; simp; omega) (by have := HS.out; have := HS1.out; have := hb2.size; omega)).mono ?_
          rintro e w3 ⟨rfl, hB3, hb3⟩
          have HR : Hid (PrintRel w xs n (.int .i64 ((j + 1 : Nat) : Int)) w3) := print_step HX.out HH20.out HLEN.out hp hlt hB3 (((hb.trans hb1).trans (hb2.mono (Nat.le_trans HS.out HS1.out))).trans hb3)
          clear hB3
          go_wp2
          go_roundw
          case rel => exact HR.out
          case measure => simp [intOf]; omega
      · obtain rfl : j = n := by omega
        go_wp2_with fail
        refine (Tryd.Builder_String_any w.heap.size w.heap.size _ wr HB.out hb.size).mono ?_
        rintro e w1 ⟨rfl, hb1⟩
        go_wp2
        go_ret
        refine ⟨?_, hb.trans hb1⟩
        have e : xs.take j = xs := List.take_of_length_le (by rw [hl.out]; omega)
        rw [e]
        unfold printL
        rw [if_neg (by rw [hl.out]; exact H0.out)]
        rfl

end Go.Proofs.YtenomnkdfiojbaaDoor
