/-
  The walk of Print of codes.
-/
import Derived.Test.YtbbpockkafbfmaaDoorWordC
import Derived.Test.YtbbpockkafbfmaaDoorBuildC
namespace Go.Proofs.YtbbpockkafbfmaaDoor
open Go.RowKit

theorem strCells_mk (l : List UInt8) : Lib.strCells ⟨l.toArray⟩ = Lib.byteCells l := rfl
theorem printC_snoc (f : Int) (ls : List Lt) (l : Lt) : printC f (ls ++ [l]) = printC f ls ++ [32] ++ wordL l := by simp [printC]

theorem builder_lt {T e : TypeId} {B b : Nat} {bs : List Value} {w : World} (h : Lib.IsBuilder T e B b bs w) : b < w.heap.size := by
  rcases h with ⟨_, v, hbk, _⟩ | ⟨_, v, hbk, _⟩
  all_goals
    rcases Nat.lt_or_ge b w.heap.size with q | q
    · exact q
    · rw [Array.getElem?_eq_none q] at hbk; cases hbk

def PcRel (w : World) (B : Nat) (f : Int) (ls : List Lt) (n : Nat) (i : Value) (wr : World) : Prop :=
  ∃ j : Nat, j ≤ n ∧ i = .int .i64 j ∧ Lib.IsBuilder 93 5 w.heap.size B (Lib.byteCells (printC f (ls.take j))) wr ∧ (printC f (ls.take j)).length ≤ 22 + 44 * j ∧ Below w.heap.size w wr

theorem print_step {w : World} {B : Nat} {f : Int} {ls : List Lt} {n j : Nat} {l : Lt} {wr : World} (hl : ls[j]? = some l) (h43 : (wordL l).length ≤ 43) (hj : j < n) (hlen : (printC f (ls.take j)).length ≤ 22 + 44 * j)
    (hB : Lib.IsBuilder 93 5 w.heap.size B (Lib.byteCells (printC f (ls.take j)) ++ [.int .u8 32] ++ Lib.strCells ⟨(wordL l).toArray⟩) wr) (hb : Below w.heap.size w wr) :
    PcRel w B f ls n (.int .i64 ((j + 1 : Nat) : Int)) wr := by
  have e : printC f (ls.take (j + 1)) = printC f (ls.take j) ++ [32] ++ wordL l := by rw [List.take_add_one, hl]; exact printC_snoc f _ l
  refine ⟨j + 1, by omega, rfl, ?_, ?_, hb⟩
  · rw [e]
    have : Lib.byteCells (printC f (ls.take j) ++ [32] ++ wordL l) = Lib.byteCells (printC f (ls.take j)) ++ [.int .u8 32] ++ Lib.strCells ⟨(wordL l).toArray⟩ := by rw [strCells_mk]; simp [Lib.byteCells]
    rw [this]; exact hB
  · rw [e]; simp; omega

set_option maxHeartbeats 4000000 in
set_option maxRecDepth 100000 in
theorem codePrint_calls (f : Int) (A : Option Addr) (n c : Nat) (ls : List Lt) (w : World) (hT : ItoaAll w) (hL : LS w A n ls) (hn : n ≤ 1000000) (hf : I64 f) (hI : ∀ l, l ∈ ls → LtI l) :
    Calls Tryd.prog 40 #[.agg #[.int .i64 f, .slice A n c]] w fun e w' => e = .returned (.string ⟨(printC f ls).toArray⟩) ∧ Below w.heap.size w w' := by
  have HL := Lib.hid hL
  have HT := Lib.hid hT
  have HI := Lib.hid hI
  have HLN : Hid (ls.length = n) := hL.1
  have h21 := Lib.itoa_length_le f hf.1 hf.2
  have H21 := Lib.hid h21
  have hsz : (⟨(Lib.itoa f).toArray⟩ : ByteArray).size ≤ 21 := by simpa [ByteArray.size] using h21
  have HSZ := Lib.hid hsz
  have HF := Lib.hid hf
  clear hL hT hI hf h21 hsz
  have hs32 : ∀ k : Nat, k < n → (k : Int) < n := fun k hk => by omega
  go_enter Tryd.func40, Tryd.ntmps40
  go_wp2_with fail
  obtain ⟨V, hV⟩ : ∃ V, w.alloc (.cells #[.int .i64 f, .slice A n c] 33) = V := ⟨_, rfl⟩
  have HWV : Hid (Below w.heap.size w V) := by rw [← hV]; exact (Below.refl _ _).alloc (Nat.le_refl _) _
  have hVB : w.heap.size + 1 = V.heap.size := by rw [← hV]; simp
  have HC : Hid (∀ W, Below V.heap.size V W → W.cell? ⟨w.heap.size, 0, none⟩ = some (.int .i64 f) ∧ W.cell? ⟨w.heap.size, 1, none⟩ = some (.slice A n c)) := by
    intro W hb
    have h := heap_alloc_new w (.cells #[.int .i64 f, .slice A n c] 33)
    rw [hV] at h
    exact ⟨(hb.cell (p := ⟨w.heap.size, 0, none⟩) (show w.heap.size < V.heap.size by omega)).trans (Lib.cell_of_heap h 0), (hb.cell (p := ⟨w.heap.size, 1, none⟩) (show w.heap.size < V.heap.size by omega)).trans (Lib.cell_of_heap h 1)⟩
  rw [hV, hVB]
  clear hV
  have hb0 : Below V.heap.size V (V.alloc (.cells #[.pointer none, .slice none 0 0] 93)) := (Below.refl _ _).alloc (Nat.le_refl _) _
  have HB0 := Lib.hid hb0
  have HI0 : Hid (Lib.IsBuilder 93 5 V.heap.size V.heap.size [] (V.alloc (.cells #[.pointer none, .slice none 0 0] 93))) := Lib.fresh_isBuilder 93 5 V
  obtain ⟨W1, hW1⟩ : ∃ W1, V.alloc (.cells #[.pointer none, .slice none 0 0] 93) = W1 := ⟨_, rfl⟩
  rw [hW1] at HB0 HI0 ⊢
  clear hb0 hW1
  refine (HT.out f HF.out W1 (HWV.out.trans (HB0.out.mono HWV.out.size))).mono ?_
  rintro e w1 ⟨rfl, hb1⟩
  have HB1 : Hid (Below V.heap.size V w1) := HB0.out.trans (hb1.mono HB0.out.size)
  have HI1 := Lib.hid (isBuilder_below HI0.out hb1)
  clear hb1
  go_wp2_with fail
  refine (writeString_calls V.heap.size V.heap.size _ ⟨(Lib.itoa f).toArray⟩ w1 HI1.out (by have := HSZ.out; simp; omega) HB1.out.size).mono ?_
  rintro e w2 ⟨rfl, hI2, hb2⟩
  have HI2 := Lib.hid hI2
  have HB2 : Hid (Below V.heap.size V w2) := HB1.out.trans hb2
  clear hI2 hb2
  go_wp2_with fail
  refine (writeByte_calls V.heap.size V.heap.size _ 58 w2 HI2.out (by have := HSZ.out; have := H21.out; rw [strCells_mk]; simp [Lib.byteCells_length]; omega) HB2.out.size).mono ?_
  rintro e w3 ⟨rfl, hI3, hb3⟩
  have HI3 : Hid (Lib.IsBuilder 93 5 V.heap.size V.heap.size (Lib.byteCells (printC f (ls.take 0))) w3) := by
    unfold Hid
    have : Lib.byteCells (printC f (ls.take 0)) = [] ++ Lib.strCells ⟨(Lib.itoa f).toArray⟩ ++ [.int .u8 58] := by rw [strCells_mk]; simp [printC, Lib.byteCells]
    rw [this]; exact hI3
  have HB3 : Hid (Below V.heap.size V w3) := HB2.out.trans hb3
  obtain ⟨c0, c1⟩ := HC.out _ HB3.out
  clear hI3 hb3
  go_wp2_with fail
  clear c0 c1
  go_loopw [14] (fun i wr => PcRel V V.heap.size f ls n i wr) (fun i _ => n - (intOf i).toNat)
  case atStart => exact ⟨0, Nat.zero_le _, rfl, HI3.out, by have := H21.out; simp [printC]; omega, HB3.out⟩
  case round =>
    obtain ⟨j, hj, rfl, hI, hlen, hb⟩ := hrel
    have HIB := Lib.hid hI
    have HB := Lib.hid hb
    have HLEN := Lib.hid hlen
    clear hI hlen
    by_cases hlt : j < n
    · obtain ⟨b, off, l, rfl, hbl, hl, c0, c1, c2, c3, c4, c5⟩ := (HL.out.below (HWV.out.trans (hb.mono HWV.out.size))).at_ hlt
      have hj1 := hs32 j hlt
      have HLT : Hid (LtI l) := HI.out l (List.mem_of_getElem? hl)
      have HLL := Lib.hid hl
      have HTW : Hid (ItoaAll V) := HT.out.below HWV.out
      have HBV : Hid (Below V.heap.size V wr) := hb
      clear hl hb
      have HWD : Hid (∀ W, Below V.heap.size V W → Calls Tryd.prog 72 #[.agg #[.int .i64 l.kind, .int .i64 l.gate, .int .i64 l.rank, .int .i64 l.id, .int .i64 l.sign, .bool l.over]] W fun e w' => e = .returned (.string ⟨(wordL l).toArray⟩) ∧ Below W.heap.size W w') :=
        fun W hW => word_calls l W (HTW.out.below hW) HLT.out
      have HSZW : Hid ((⟨(wordL l).toArray⟩ : ByteArray).size ≤ 43) := by have := wordL_len HLT.out; simpa [Hid, ByteArray.size] using this
      obtain ⟨s, hs⟩ : ∃ s : ByteArray, ⟨(wordL l).toArray⟩ = s := ⟨_, rfl⟩
      rw [hs] at HWD HSZW
      have HSS := Lib.hid hs
      clear hs
      go_wp2_with fail
      have hbl : Below wr.heap.size wr (wr.alloc (.cells #[.int .i64 l.kind, .int .i64 l.gate, .int .i64 l.rank, .int .i64 l.id, .int .i64 l.sign, .bool l.over] 50)) := (Below.refl _ _).alloc (Nat.le_refl _) _
      have HBL := Lib.hid hbl
      have HNE : Hid (V.heap.size < wr.heap.size) := builder_lt HIB.out
      have hcl := heap_alloc_new wr (.cells #[.int .i64 l.kind, .int .i64 l.gate, .int .i64 l.rank, .int .i64 l.id, .int .i64 l.sign, .bool l.over] 50)
      have HCL := Lib.hid hcl
      clear hbl hcl
      obtain ⟨W1, hW1⟩ : ∃ W1, wr.alloc (.cells #[.int .i64 l.kind, .int .i64 l.gate, .int .i64 l.rank, .int .i64 l.id, .int .i64 l.sign, .bool l.over] 50) = W1 := ⟨_, rfl⟩
      rw [hW1] at HBL HCL ⊢
      clear hW1
      refine (writeByte_keep V.heap.size V.heap.size _ 32 W1 (isBuilder_below HIB.out HBL.out) (by have := HLEN.out; rw [Lib.byteCells_length]; omega) (Nat.le_trans HB.out.size HBL.out.size)).mono ?_
      rintro e w4 ⟨rfl, ⟨hI4, hb4⟩, hkp⟩
      have HI4 := Lib.hid hI4
      have HB4 := Lib.hid hb4
      have HC4 := hkp _ _ _ _ (by decide) (show wr.heap.size ≠ V.heap.size by have := HNE.out; omega) HCL.out
      obtain ⟨d0, d1, d2, d3, d4, d5⟩ : w4.cell? ⟨wr.heap.size, 0, none⟩ = some (.int .i64 l.kind) ∧ w4.cell? ⟨wr.heap.size, 1, none⟩ = some (.int .i64 l.gate) ∧ w4.cell? ⟨wr.heap.size, 2, none⟩ = some (.int .i64 l.rank) ∧ w4.cell? ⟨wr.heap.size, 3, none⟩ = some (.int .i64 l.id) ∧ w4.cell? ⟨wr.heap.size, 4, none⟩ = some (.int .i64 l.sign) ∧ w4.cell? ⟨wr.heap.size, 5, none⟩ = some (.bool l.over) :=
        ⟨Lib.cell_of_heap HC4 0, Lib.cell_of_heap HC4 1, Lib.cell_of_heap HC4 2, Lib.cell_of_heap HC4 3, Lib.cell_of_heap HC4 4, Lib.cell_of_heap HC4 5⟩
      have hsz4 : W1.heap.size ≤ w4.heap.size := hb4.size
      have hszV : V.heap.size ≤ W1.heap.size := Nat.le_trans HB.out.size HBL.out.size
      clear hI4 hb4 hkp HC4
      go_wp2_with fail
      refine (HWD.out _ (HBV.out.trans ((HBL.out.mono HBV.out.size).trans HB4.out))).mono ?_
      rintro e w5 ⟨rfl, hb5⟩
      have HB5 := Lib.hid hb5
      clear hb5
      go_wp2_with fail
      refine (writeString_calls V.heap.size V.heap.size _ s w5 (isBuilder_below HI4.out HB5.out) (by have := HLEN.out; have := HSZW.out; simp [Lib.byteCells_length]; omega) (by have := HB5.out.size; omega)).mono ?_
      rintro e w6 ⟨rfl, hI6, hb6⟩
      have HR : Hid (PcRel V V.heap.size f ls n (.int .i64 ((j + 1 : Nat) : Int)) w6) := print_step HLL.out (wordL_len HLT.out) hlt HLEN.out (by rw [HSS.out]; exact hI6) ((HBV.out.trans ((HBL.out.mono HBV.out.size).trans (HB4.out.trans (HB5.out.mono (by omega))))).trans hb6)
      clear hI6 hb6
      go_wp2
      go_roundw
      case rel => exact HR.out
      case measure => simp [intOf]; omega
    · obtain rfl : j = n := by omega
      go_wp2_with fail
      refine (Tryd.Builder_String_any V.heap.size V.heap.size _ wr HIB.out HB.out.size).mono ?_
      rintro e w7 ⟨rfl, hb7⟩
      go_wp2
      go_ret
      refine ⟨?_, HWV.out.trans ((HB.out.trans hb7).mono HWV.out.size)⟩
      have e9 : ls.take j = ls := List.take_of_length_le (by rw [HLN.out]; exact Nat.le_refl _)
      rw [e9]
      rfl

end Go.Proofs.YtbbpockkafbfmaaDoor
