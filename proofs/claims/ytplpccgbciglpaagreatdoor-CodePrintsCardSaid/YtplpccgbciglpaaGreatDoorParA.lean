/-
  What the walks of Parse of codes ask of the library; the walk of letter.
-/
import Derived.Test.YtplpccgbciglpaaGreatDoorTextC
import Derived.Lib.SpaceU
import Derived.Deep.Cut
namespace Go.Proofs.YtplpccgbciglpaaGreatDoor
open Go.RowKit

/-- strings.Cut at one byte. -/
def CutAll (w : World) : Prop :=
  ∀ W, Below w.heap.size w W → ∀ (s : ByteArray) (c : UInt8), s.size ≤ 10000 → Calls Tryz.prog 30 #[.string s, .string ⟨#[c]⟩] W fun e W' =>
    e = .returned (.tuple #[.string ⟨(Lib.cut s.data.toList [c]).1.toArray⟩, .string ⟨(Lib.cut s.data.toList [c]).2.1.toArray⟩, .bool (Lib.cut s.data.toList [c]).2.2]) ∧ Below W.heap.size W W'
theorem CutAll.below {w w' : World} (h : CutAll w) (hb : Below w.heap.size w w') : CutAll w' := fun W hW => h W (hb.trans (hW.mono hb.size))
/-- strconv.Atoi, whatever the string: its number. -/
def AtoiW (w : World) : Prop :=
  ∀ W, Below w.heap.size w W → ∀ s : ByteArray, s.size ≤ 10000 → Calls Tryz.prog 31 #[.string s] W fun e W' => ∃ er, e = .returned (.tuple #[.int .i64 (numV s.data.toList), er]) ∧ Below W.heap.size W W'
theorem AtoiW.below {w w' : World} (h : AtoiW w) (hb : Below w.heap.size w w') : AtoiW w' := fun W hW => h W (hb.trans (hW.mono hb.size))

theorem cut_len (s : List UInt8) (c : UInt8) : (Lib.cut s [c]).1.length ≤ s.length ∧ (Lib.cut s [c]).2.1.length ≤ s.length := by
  unfold Lib.cut
  split
  · simp only [List.length_take, List.length_drop]; omega
  · simp

/-- A letter's six cells in a block. -/
def SixAt (w : World) (B : Nat) (l : Lt) : Prop := w.heap[B]? = some (.cells #[.int .i64 l.kind, .int .i64 l.gate, .int .i64 l.rank, .int .i64 l.id, .int .i64 l.sign, .bool l.over] 36 (0, 0))
theorem SixAt.lt {w : World} {B : Nat} {l : Lt} (h : SixAt w B l) : B < w.heap.size := by
  rcases Nat.lt_or_ge B w.heap.size with c | c
  · exact c
  · unfold SixAt at h; rw [Array.getElem?_eq_none c] at h; cases h
theorem SixAt.below {w w' : World} {B : Nat} {l : Lt} (h : SixAt w B l) (hb : Below w.heap.size w w') : SixAt w' B l := (hb.block B h.lt).trans h
theorem SixAt.cells {w : World} {B : Nat} {l : Lt} (h : SixAt w B l) : w.cell? ⟨B, 0, none⟩ = some (.int .i64 l.kind) ∧ w.cell? ⟨B, 1, none⟩ = some (.int .i64 l.gate) ∧ w.cell? ⟨B, 2, none⟩ = some (.int .i64 l.rank) ∧ w.cell? ⟨B, 3, none⟩ = some (.int .i64 l.id) ∧ w.cell? ⟨B, 4, none⟩ = some (.int .i64 l.sign) ∧ w.cell? ⟨B, 5, none⟩ = some (.bool l.over) ∧ ∀ x, w.frozen? ⟨B, x, none⟩ = false :=
  ⟨Lib.cell_of_heap h 0, Lib.cell_of_heap h 1, Lib.cell_of_heap h 2, Lib.cell_of_heap h 3, Lib.cell_of_heap h 4, Lib.cell_of_heap h 5, fun x => by unfold SixAt at h; simp [World.frozen?, h]⟩
theorem SixAt.made (w : World) (l : Lt) : SixAt (w.alloc (.cells #[.int .i64 l.kind, .int .i64 l.gate, .int .i64 l.rank, .int .i64 l.id, .int .i64 l.sign, .bool l.over] 36)) w.heap.size l := heap_alloc_new w _
theorem SixAt.other {w : World} {B C : Nat} {l : Lt} (h : SixAt w B l) (hne : B ≠ C) (k : Nat) (v : Value) : SixAt (w.setCell ⟨C, k, none⟩ v) B l := (Below.heap_setCell _ _ _ B hne).trans h
theorem SixAt.gate {w : World} {B : Nat} {l : Lt} (h : SixAt w B l) (x : Int) : SixAt (w.setCell ⟨B, 1, none⟩ (.int .i64 x)) B ⟨l.kind, x, l.rank, l.id, l.sign, l.over⟩ := by
  unfold SixAt at h ⊢; simp [World.setCell, Array.getElem?_modify, h]
theorem SixAt.rank {w : World} {B : Nat} {l : Lt} (h : SixAt w B l) (x : Int) : SixAt (w.setCell ⟨B, 2, none⟩ (.int .i64 x)) B ⟨l.kind, l.gate, x, l.id, l.sign, l.over⟩ := by
  unfold SixAt at h ⊢; simp [World.setCell, Array.getElem?_modify, h]
theorem SixAt.id_ {w : World} {B : Nat} {l : Lt} (h : SixAt w B l) (x : Int) : SixAt (w.setCell ⟨B, 3, none⟩ (.int .i64 x)) B ⟨l.kind, l.gate, l.rank, x, l.sign, l.over⟩ := by
  unfold SixAt at h ⊢; simp [World.setCell, Array.getElem?_modify, h]
theorem SixAt.sign {w : World} {B : Nat} {l : Lt} (h : SixAt w B l) (x : Int) : SixAt (w.setCell ⟨B, 4, none⟩ (.int .i64 x)) B ⟨l.kind, l.gate, l.rank, l.id, x, l.over⟩ := by
  unfold SixAt at h ⊢; simp [World.setCell, Array.getElem?_modify, h]
/-- The end of a function that answers a letter: the six stores into the result's block. -/
theorem SixAt.end_ {w W : World} {R : Nat} {l z : Lt} (h : SixAt W R z) (hb : Below w.heap.size w W) (hR : w.heap.size ≤ R) :
    SixAt ((((((W.setCell ⟨R, 0, none⟩ (.int .i64 l.kind)).setCell ⟨R, 1, none⟩ (.int .i64 l.gate)).setCell ⟨R, 2, none⟩ (.int .i64 l.rank)).setCell ⟨R, 3, none⟩ (.int .i64 l.id)).setCell ⟨R, 4, none⟩ (.int .i64 l.sign)).setCell ⟨R, 5, none⟩ (.bool l.over)) R l ∧
    Below w.heap.size w ((((((W.setCell ⟨R, 0, none⟩ (.int .i64 l.kind)).setCell ⟨R, 1, none⟩ (.int .i64 l.gate)).setCell ⟨R, 2, none⟩ (.int .i64 l.rank)).setCell ⟨R, 3, none⟩ (.int .i64 l.id)).setCell ⟨R, 4, none⟩ (.int .i64 l.sign)).setCell ⟨R, 5, none⟩ (.bool l.over)) := by
  refine ⟨?_, ?_⟩
  · unfold SixAt at h ⊢; simp [World.setCell, Array.getElem?_modify, h]
  · exact (((((hb.setCell (p := ⟨R, 0, none⟩) hR _).setCell (p := ⟨R, 1, none⟩) hR _).setCell (p := ⟨R, 2, none⟩) hR _).setCell (p := ⟨R, 3, none⟩) hR _).setCell (p := ⟨R, 4, none⟩) hR _).setCell (p := ⟨R, 5, none⟩) hR _

theorem wrap2 {x : Int} (h0 : -9223372036854775808 ≤ x) (h1 : x ≤ 9223372036854775807) : IntKind.i64.wrap x = x := by
  unfold IntKind.wrap; simp [IntKind.signed, IntKind.bits]; omega
theorem byte_getD (s : ByteArray) (i : Nat) (h : i < s.size) : s.data.toList.getD i 0 = s[i] := by
  rw [List.getD_eq_getElem?_getD, List.getElem?_eq_getElem (by rw [← Lib.size_eq]; exact h)]
  rfl
set_option maxHeartbeats 4000000 in
set_option maxRecDepth 100000 in
theorem letter_pass (s : ByteArray) (w : World) (hC : CutAll w) (hA : AtoiW w) (hs : s.size ≤ 10000) (hok : (Lib.cut s.data.toList [46]).2.2 = true) :
    Calls Tryz.prog 33 #[.string s] w fun e w' => e = .returned (letterM s.data.toList).val ∧ Below w.heap.size w w' := by
  have HC : Hid (∀ W, Below w.heap.size w W → Calls Tryz.prog 30 #[.string s, .string ⟨#[46]⟩] W fun e W' => e = .returned (.tuple #[.string ⟨(Lib.cut s.data.toList [46]).1.toArray⟩, .string ⟨(Lib.cut s.data.toList [46]).2.1.toArray⟩, .bool (Lib.cut s.data.toList [46]).2.2]) ∧ Below W.heap.size W W') := fun W hW => hC W hW s 46 hs
  have hl := cut_len s.data.toList 46
  obtain ⟨g, hg⟩ : ∃ g : ByteArray, ⟨(Lib.cut s.data.toList [46]).1.toArray⟩ = g := ⟨_, rfl⟩
  obtain ⟨r, hr⟩ : ∃ r : ByteArray, ⟨(Lib.cut s.data.toList [46]).2.1.toArray⟩ = r := ⟨_, rfl⟩
  have hsz : s.size = s.data.toList.length := Lib.size_eq s
  have HG : Hid (g.size ≤ 10000 ∧ r.size ≤ 10000) := by
    rw [← hg, ← hr]
    simp only [Hid, ByteArray.size, List.size_toArray]
    omega
  obtain ⟨x, hx⟩ : ∃ x, numV g.data.toList = x := ⟨_, rfl⟩
  obtain ⟨y, hy⟩ : ∃ y, numV r.data.toList = y := ⟨_, rfl⟩
  have HAG : Hid (∀ W, Below w.heap.size w W → Calls Tryz.prog 31 #[.string g] W fun e W' => ∃ er, e = .returned (.tuple #[.int .i64 x, er]) ∧ Below W.heap.size W W') := fun W hW => by rw [← hx]; exact hA W hW g HG.out.1
  have HAR : Hid (∀ W, Below w.heap.size w W → Calls Tryz.prog 31 #[.string r] W fun e W' => ∃ er, e = .returned (.tuple #[.int .i64 y, er]) ∧ Below W.heap.size W W') := fun W hW => by rw [← hy]; exact hA W hW r HG.out.2
  have HM : Hid ((letterM s.data.toList).val = .agg #[.int .i64 1, .int .i64 x, .int .i64 y, .int .i64 0, .int .i64 0, .bool false]) := by
    unfold Hid letterM
    rw [if_pos hok, ← hx, ← hy, ← hg, ← hr]
    rfl
  rw [HM.out]
  rw [hg, hr, hok] at HC
  have hb0 : Below w.heap.size w (w.alloc (.cells #[.int .i64 0, .int .i64 0, .int .i64 0, .int .i64 0, .int .i64 0, .bool false] 36)) := (Below.refl _ _).alloc (Nat.le_refl _) _
  clear hg hr hok hsz hl hs hC hA HM hx hy
  go_enter Tryz.func33, Tryz.ntmps33
  go_wp2_with (go_at_call 30; refine (HC.out _ hb0).mono ?_; rintro e w1 ⟨rfl, hb1⟩)
  have HB1 : Hid (Below w.heap.size w w1) := hb0.trans (hb1.mono hb0.size)
  have HR1 : Hid (SixAt w1 w.heap.size ⟨0, 0, 0, 0, 0, false⟩) := (SixAt.made w ⟨0, 0, 0, 0, 0, false⟩).below hb1
  obtain ⟨R, hR⟩ : ∃ R, R = w.heap.size := ⟨_, rfl⟩
  obtain ⟨B, hB⟩ : ∃ B, B = w1.heap.size := ⟨_, rfl⟩
  obtain ⟨V, hV⟩ : ∃ V, V = w1.alloc (.cells #[.int .i64 1, .int .i64 0, .int .i64 0, .int .i64 0, .int .i64 0, .bool false] 36) := ⟨_, rfl⟩
  have hbl : Below w1.heap.size w1 V := by rw [hV]; exact (Below.refl _ _).alloc (Nat.le_refl _) _
  have HBV : Hid (Below w.heap.size w V) := HB1.out.trans (hbl.mono HB1.out.size)
  have HBB : Hid (SixAt V B ⟨1, 0, 0, 0, 0, false⟩) := by rw [hV, hB]; exact SixAt.made w1 ⟨1, 0, 0, 0, 0, false⟩
  have HRV : Hid (SixAt V R ⟨0, 0, 0, 0, 0, false⟩) := by rw [hR]; exact HR1.out.below hbl
  have HNE : Hid (w.heap.size ≤ R ∧ R ≠ B ∧ w.heap.size ≤ B) := by have := HR1.out.lt; have := HB1.out.size; unfold Hid; omega
  rw [← hV, ← hB, ← hR]
  clear hbl hV hB hR HR1 HB1 hb1 hb0
  refine (HAG.out _ HBV.out).mono ?_
  rintro e w2 ⟨er, rfl, hb2⟩
  have HB2 : Hid (Below w.heap.size w w2) := HBV.out.trans (hb2.mono HBV.out.size)
  have HBB2 : Hid (SixAt w2 B ⟨1, 0, 0, 0, 0, false⟩) := HBB.out.below hb2
  have HRV2 : Hid (SixAt w2 R ⟨0, 0, 0, 0, 0, false⟩) := HRV.out.below hb2
  clear hb2 HBB HRV HBV
  obtain ⟨a0, a1, a2, a3, a4, a5, fa⟩ := HBB2.out.cells
  go_wp2_with fail
  have HB3 : Hid (Below w.heap.size w (w2.setCell ⟨B, 1, none⟩ (.int .i64 x))) := HB2.out.setCell (p := ⟨B, 1, none⟩) HNE.out.2.2 _
  have HBB3 : Hid (SixAt (w2.setCell ⟨B, 1, none⟩ (.int .i64 x)) B ⟨1, x, 0, 0, 0, false⟩) := HBB2.out.gate x
  have HRV3 : Hid (SixAt (w2.setCell ⟨B, 1, none⟩ (.int .i64 x)) R ⟨0, 0, 0, 0, 0, false⟩) := HRV2.out.other HNE.out.2.1 _ _
  refine (HAR.out _ HB3.out).mono ?_
  rintro e w3 ⟨er2, rfl, hb3⟩
  have HB4 : Hid (Below w.heap.size w w3) := HB3.out.trans (hb3.mono HB3.out.size)
  have HBB4 : Hid (SixAt w3 B ⟨1, x, 0, 0, 0, false⟩) := HBB3.out.below hb3
  have HRV4 : Hid (SixAt w3 R ⟨0, 0, 0, 0, 0, false⟩) := HRV3.out.below hb3
  clear a0 a1 a2 a3 a4 a5 fa hb3 HB2 HBB2 HRV2 HB3 HBB3 HRV3
  obtain ⟨a0, a1, a2, a3, a4, a5, fa⟩ := HBB4.out.cells
  obtain ⟨r0, r1, r2, r3, r4, r5, fr⟩ := HRV4.out.cells
  have hne := HNE.out.2.1
  go_upto_region 2 with fail
  obtain ⟨hz, hzb⟩ := (HRV4.out.other hne 2 (.int .i64 y)).end_ (l := ⟨1, x, y, 0, 0, false⟩) (HB4.out.setCell (p := ⟨B, 2, none⟩) HNE.out.2.2 _) HNE.out.1
  obtain ⟨e0, e1, e2, e3, e4, e5, _⟩ := hz.cells
  refine bodyPost_ret (v := .agg #[.int .i64 1, .int .i64 x, .int .i64 y, .int .i64 0, .int .i64 0, .bool false]) (by simp [results, Tryz.results33, go_sem, e0, e1, e2, e3, e4, e5]) rfl ⟨rfl, hzb⟩

set_option maxHeartbeats 4000000 in
set_option maxRecDepth 100000 in
theorem letter_short (s : ByteArray) (w : World) (hC : CutAll w) (hs : s.size < 2) (hok : (Lib.cut s.data.toList [46]).2.2 = false) :
    Calls Tryz.prog 33 #[.string s] w fun e w' => e = .returned (letterM s.data.toList).val ∧ Below w.heap.size w w' := by
  obtain ⟨g, hg⟩ : ∃ g : ByteArray, ⟨(Lib.cut s.data.toList [46]).1.toArray⟩ = g := ⟨_, rfl⟩
  obtain ⟨r, hr⟩ : ∃ r : ByteArray, ⟨(Lib.cut s.data.toList [46]).2.1.toArray⟩ = r := ⟨_, rfl⟩
  have HC : Hid (∀ W, Below w.heap.size w W → Calls Tryz.prog 30 #[.string s, .string ⟨#[46]⟩] W fun e W' => e = .returned (.tuple #[.string g, .string r, .bool false]) ∧ Below W.heap.size W W') := fun W hW => by rw [← hg, ← hr, ← hok]; exact hC W hW s 46 (by omega)
  have HM : Hid ((letterM s.data.toList).val = .agg #[.int .i64 0, .int .i64 0, .int .i64 0, .int .i64 0, .int .i64 0, .bool false]) := by
    unfold Hid letterM
    rw [if_neg (by rw [hok]; simp), if_pos (by have := Lib.size_eq s; omega)]
    rfl
  rw [HM.out]
  have hw2 : IntKind.i64.wrap ((s.size : Int) - 2) = (s.size : Int) - 2 := wrap2 (by omega) (by omega)
  have hlt : (s.size : Int) - 2 < 0 := by omega
  have hb0 : Below w.heap.size w (w.alloc (.cells #[.int .i64 0, .int .i64 0, .int .i64 0, .int .i64 0, .int .i64 0, .bool false] 36)) := (Below.refl _ _).alloc (Nat.le_refl _) _
  have HB0 := Lib.hid hb0
  clear hg hr hok hC HM hs hb0
  go_enter Tryz.func33, Tryz.ntmps33
  go_wp2_with fail
  refine (HC.out _ HB0.out).mono ?_
  rintro e w1 ⟨rfl, hb1⟩
  have HB1 : Hid (Below w.heap.size w w1) := HB0.out.trans (hb1.mono HB0.out.size)
  have HR1 : Hid (SixAt w1 w.heap.size ⟨0, 0, 0, 0, 0, false⟩) := (SixAt.made w ⟨0, 0, 0, 0, 0, false⟩).below hb1
  clear hb1
  obtain ⟨r0, r1, r2, r3, r4, r5, fr⟩ := HR1.out.cells
  go_wp2_with fail
  obtain ⟨hz, hzb⟩ := HR1.out.end_ (l := ⟨0, 0, 0, 0, 0, false⟩) HB1.out (Nat.le_refl _)
  obtain ⟨e0, e1, e2, e3, e4, e5, _⟩ := hz.cells
  refine bodyPost_ret (v := .agg #[.int .i64 0, .int .i64 0, .int .i64 0, .int .i64 0, .int .i64 0, .bool false]) (by simp [results, Tryz.results33, go_sem, e0, e1, e2, e3, e4, e5]) rfl ⟨rfl, hzb⟩

set_option maxHeartbeats 4000000 in
set_option maxRecDepth 100000 in
theorem letter_cross (s : ByteArray) (w : World) (hC : CutAll w) (hA : AtoiW w) (hs2 : 2 ≤ s.size) (hs : s.size ≤ 10000) (hok : (Lib.cut s.data.toList [46]).2.2 = false) :
    Calls Tryz.prog 33 #[.string s] w fun e w' => e = .returned (letterM s.data.toList).val ∧ Below w.heap.size w w' := by
  obtain ⟨g, hg⟩ : ∃ g : ByteArray, ⟨(Lib.cut s.data.toList [46]).1.toArray⟩ = g := ⟨_, rfl⟩
  obtain ⟨r, hr⟩ : ∃ r : ByteArray, ⟨(Lib.cut s.data.toList [46]).2.1.toArray⟩ = r := ⟨_, rfl⟩
  have HC : Hid (∀ W, Below w.heap.size w W → Calls Tryz.prog 30 #[.string s, .string ⟨#[46]⟩] W fun e W' => e = .returned (.tuple #[.string g, .string r, .bool false]) ∧ Below W.heap.size W W') := fun W hW => by rw [← hg, ← hr, ← hok]; exact hC W hW s 46 (by omega)
  have hw2 : IntKind.i64.wrap ((s.size : Int) - 2) = (s.size : Int) - 2 := wrap2 (by omega) (by omega)
  have hlt : ¬ (s.size : Int) - 2 < 0 := by omega
  obtain ⟨x, hx⟩ : ∃ x, numV (s.extract 0 (s.size - 2)).data.toList = x := ⟨_, rfl⟩
  have HAG : Hid (∀ W, Below w.heap.size w W → Calls Tryz.prog 31 #[.string (s.extract 0 (s.size - 2))] W fun e W' => ∃ er, e = .returned (.tuple #[.int .i64 x, er]) ∧ Below W.heap.size W W') := fun W hW => by rw [← hx]; exact hA W hW _ (by rw [ByteArray.size_extract]; omega)
  have HMM : Hid (∀ (sg : Int) (ov : Bool), (if (((s[s.size - 2 + 1]'(by omega)).toNat : Int) == 45) = true then (-1 : Int) else 1) = sg → (((s[s.size - 2]'(by omega)).toNat : Int) == 111) = ov → (letterM s.data.toList).val = .agg #[.int .i64 2, .int .i64 0, .int .i64 0, .int .i64 x, .int .i64 sg, .bool ov]) := by
    intro sg ov h1 h2
    have hlen : s.data.toList.length = s.size := (Lib.size_eq s).symm
    unfold letterM
    rw [if_neg (by rw [hok]; simp), if_neg (by omega), hlen, byte_getD s (s.size - 1) (by omega), byte_getD s (s.size - 2) (by omega)]
    have e1 : numV (s.data.toList.take (s.size - 2)) = x := by rw [← hx, Lib.extract_data, List.drop_zero, Nat.sub_zero]
    have e2 : (if s[s.size - 1]'(by omega) = 45 then (-1 : Int) else 1) = sg := by
      rw [← h1]
      have : s[s.size - 2 + 1]'(by omega) = s[s.size - 1]'(by omega) := by congr 1; omega
      rw [this]
      have e : ∀ c : UInt8, (c = 45) ↔ (((c.toNat : Int) == 45) = true) := by intro c; rw [beq_iff_eq]; exact ⟨fun q => by rw [q]; rfl, fun q => by apply UInt8.toNat_inj.1; show c.toNat = 45; omega⟩
      by_cases c : s[s.size - 1]'(by omega) = 45
      · rw [if_pos c, if_pos ((e _).1 c)]
      · rw [if_neg c, if_neg (fun q => c ((e _).2 q))]
    have e3 : decide (s[s.size - 2]'(by omega) = 111) = ov := by
      rw [← h2, Bool.eq_iff_iff, decide_eq_true_iff, beq_iff_eq]
      constructor
      · intro q; rw [q]; rfl
      · intro q; apply UInt8.toNat_inj.1; show _ = 111; omega
    unfold Lt.val
    dsimp only
    rw [e1, e2, e3]
  have hb0 : Below w.heap.size w (w.alloc (.cells #[.int .i64 0, .int .i64 0, .int .i64 0, .int .i64 0, .int .i64 0, .bool false] 36)) := (Below.refl _ _).alloc (Nat.le_refl _) _
  have HB0 := Lib.hid hb0
  clear hg hr hok hC hb0 hA hx
  go_enter Tryz.func33, Tryz.ntmps33
  go_wp2_with fail
  refine (HC.out _ HB0.out).mono ?_
  rintro e w1 ⟨rfl, hb1⟩
  have HB1 : Hid (Below w.heap.size w w1) := HB0.out.trans (hb1.mono HB0.out.size)
  have HR1 : Hid (SixAt w1 w.heap.size ⟨0, 0, 0, 0, 0, false⟩) := (SixAt.made w ⟨0, 0, 0, 0, 0, false⟩).below hb1
  clear hb1
  go_wp2_with fail
  · have hbl : Below w1.heap.size w1 (w1.alloc (.cells #[.int .i64 2, .int .i64 0, .int .i64 0, .int .i64 0, .int .i64 (-1), .bool (((s[s.size - 2]'(by omega)).toNat : Int) == 111)] 36)) := (Below.refl _ _).alloc (Nat.le_refl _) _
    obtain ⟨ov, hov⟩ : ∃ ov, (((s[s.size - 2]'(by omega)).toNat : Int) == 111) = ov := ⟨_, rfl⟩
    have HM : Hid ((letterM s.data.toList).val = .agg #[.int .i64 2, .int .i64 0, .int .i64 0, .int .i64 x, .int .i64 (-1), .bool ov]) := HMM.out (-1) ov (by rw [if_pos (by assumption)]) hov
    rw [hov] at hbl ⊢
    have HBL := Lib.hid hbl
    clear hbl hov
    obtain ⟨R, hR⟩ : ∃ R, R = w.heap.size := ⟨_, rfl⟩
    obtain ⟨B, hB⟩ : ∃ B, B = w1.heap.size := ⟨_, rfl⟩
    obtain ⟨V, hV⟩ : ∃ V, V = w1.alloc (.cells #[.int .i64 2, .int .i64 0, .int .i64 0, .int .i64 0, .int .i64 (-1), .bool ov] 36) := ⟨_, rfl⟩
    rw [← hV] at HBL
    have HBV : Hid (Below w.heap.size w V) := HB1.out.trans (HBL.out.mono HB1.out.size)
    have HBB : Hid (SixAt V B ⟨2, 0, 0, 0, -1, ov⟩) := by rw [hV, hB]; exact SixAt.made w1 ⟨2, 0, 0, 0, -1, ov⟩
    have HRV : Hid (SixAt V R ⟨0, 0, 0, 0, 0, false⟩) := by rw [hR]; exact HR1.out.below HBL.out
    have HNE : Hid (w.heap.size ≤ R ∧ R ≠ B ∧ w.heap.size ≤ B) := by have := HR1.out.lt; have := HB1.out.size; unfold Hid; omega
    rw [← hV, ← hB, ← hR]
    clear hV hB hR HR1 HB1 HMM HBL
    refine (HAG.out _ HBV.out).mono ?_
    rintro e w2 ⟨er, rfl, hb2⟩
    have HB2 : Hid (Below w.heap.size w w2) := HBV.out.trans (hb2.mono HBV.out.size)
    have HBB2 : Hid (SixAt w2 B ⟨2, 0, 0, 0, -1, ov⟩) := HBB.out.below hb2
    have HRV2 : Hid (SixAt w2 R ⟨0, 0, 0, 0, 0, false⟩) := HRV.out.below hb2
    clear hb2 HBB HRV HBV
    obtain ⟨a0, a1, a2, a3, a4, a5, fa⟩ := HBB2.out.cells
    obtain ⟨r0, r1, r2, r3, r4, r5, fr⟩ := HRV2.out.cells
    have hne := HNE.out.2.1
    go_wp2_with fail
    obtain ⟨hz, hzb⟩ := (HRV2.out.other hne 3 (.int .i64 x)).end_ (l := ⟨2, 0, 0, x, -1, ov⟩) (HB2.out.setCell (p := ⟨B, 3, none⟩) HNE.out.2.2 _) HNE.out.1
    obtain ⟨e0, e1, e2, e3, e4, e5, _⟩ := hz.cells
    refine bodyPost_ret (v := .agg #[.int .i64 2, .int .i64 0, .int .i64 0, .int .i64 x, .int .i64 (-1), .bool ov]) (by simp [results, Tryz.results33, go_sem, e0, e1, e2, e3, e4, e5]) rfl ⟨by rw [HM.out], hzb⟩
  · have h45 : (if (((s[s.size - 2 + 1]'(by omega)).toNat : Int) == 45) = true then (-1 : Int) else 1) = 1 := by
      have h : (((s[s.size - 2 + 1]'(by omega)).toNat : Int) == 45) = false := by assumption
      rw [if_neg (by rw [h]; simp)]
    have hbl : Below w1.heap.size w1 (w1.alloc (.cells #[.int .i64 2, .int .i64 0, .int .i64 0, .int .i64 0, .int .i64 (1), .bool (((s[s.size - 2]'(by omega)).toNat : Int) == 111)] 36)) := (Below.refl _ _).alloc (Nat.le_refl _) _
    obtain ⟨ov, hov⟩ : ∃ ov, (((s[s.size - 2]'(by omega)).toNat : Int) == 111) = ov := ⟨_, rfl⟩
    have HM : Hid ((letterM s.data.toList).val = .agg #[.int .i64 2, .int .i64 0, .int .i64 0, .int .i64 x, .int .i64 (1), .bool ov]) := HMM.out (1) ov h45 hov
    rw [hov] at hbl ⊢
    have HBL := Lib.hid hbl
    clear hbl hov
    obtain ⟨R, hR⟩ : ∃ R, R = w.heap.size := ⟨_, rfl⟩
    obtain ⟨B, hB⟩ : ∃ B, B = w1.heap.size := ⟨_, rfl⟩
    obtain ⟨V, hV⟩ : ∃ V, V = w1.alloc (.cells #[.int .i64 2, .int .i64 0, .int .i64 0, .int .i64 0, .int .i64 (1), .bool ov] 36) := ⟨_, rfl⟩
    rw [← hV] at HBL
    have HBV : Hid (Below w.heap.size w V) := HB1.out.trans (HBL.out.mono HB1.out.size)
    have HBB : Hid (SixAt V B ⟨2, 0, 0, 0, 1, ov⟩) := by rw [hV, hB]; exact SixAt.made w1 ⟨2, 0, 0, 0, 1, ov⟩
    have HRV : Hid (SixAt V R ⟨0, 0, 0, 0, 0, false⟩) := by rw [hR]; exact HR1.out.below HBL.out
    have HNE : Hid (w.heap.size ≤ R ∧ R ≠ B ∧ w.heap.size ≤ B) := by have := HR1.out.lt; have := HB1.out.size; unfold Hid; omega
    rw [← hV, ← hB, ← hR]
    clear hV hB hR HR1 HB1 HMM HBL
    refine (HAG.out _ HBV.out).mono ?_
    rintro e w2 ⟨er, rfl, hb2⟩
    have HB2 : Hid (Below w.heap.size w w2) := HBV.out.trans (hb2.mono HBV.out.size)
    have HBB2 : Hid (SixAt w2 B ⟨2, 0, 0, 0, 1, ov⟩) := HBB.out.below hb2
    have HRV2 : Hid (SixAt w2 R ⟨0, 0, 0, 0, 0, false⟩) := HRV.out.below hb2
    clear hb2 HBB HRV HBV
    obtain ⟨a0, a1, a2, a3, a4, a5, fa⟩ := HBB2.out.cells
    obtain ⟨r0, r1, r2, r3, r4, r5, fr⟩ := HRV2.out.cells
    have hne := HNE.out.2.1
    go_wp2_with fail
    obtain ⟨hz, hzb⟩ := (HRV2.out.other hne 3 (.int .i64 x)).end_ (l := ⟨2, 0, 0, x, 1, ov⟩) (HB2.out.setCell (p := ⟨B, 3, none⟩) HNE.out.2.2 _) HNE.out.1
    obtain ⟨e0, e1, e2, e3, e4, e5, _⟩ := hz.cells
    refine bodyPost_ret (v := .agg #[.int .i64 2, .int .i64 0, .int .i64 0, .int .i64 x, .int .i64 (1), .bool ov]) (by simp [results, Tryz.results33, go_sem, e0, e1, e2, e3, e4, e5]) rfl ⟨by rw [HM.out], hzb⟩

theorem letter_calls (s : ByteArray) (w : World) (hC : CutAll w) (hA : AtoiW w) (hs : s.size ≤ 10000) :
    Calls Tryz.prog 33 #[.string s] w fun e w' => e = .returned (letterM s.data.toList).val ∧ Below w.heap.size w w' := by
  cases hok : (Lib.cut s.data.toList [46]).2.2 with
  | true => exact letter_pass s w hC hA hs hok
  | false =>
    by_cases h2 : s.size < 2
    · exact letter_short s w hC h2 hok
    · exact letter_cross s w hC hA (by omega) hs hok

end Go.Proofs.YtplpccgbciglpaaGreatDoor
