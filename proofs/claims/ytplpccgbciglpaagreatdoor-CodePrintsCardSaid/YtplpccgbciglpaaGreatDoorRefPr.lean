/-
  The reference's number, Number and Print of codes.
-/
import Derived.Test.YtplpccgbciglpaaGreatDoorWordC
import Derived.Lib.ItoaMem
import Derived.Lib.ItoaNum
import Derived.Laws.IdiomStrings
import Derived.Deep.RegionHeld3
import Derived.Deep.Cut
namespace Go.Proofs.YtplpccgbciglpaaGreatDoor
open Go.RowKit

theorem conv_digit (u : Nat) (h : u < 10) (w : World) :
    (convert 52 9 (.slice (some ⟨w.heap.size, 0, none⟩) 1 1)).run Tryz.prog (w.alloc (.cells #[.int .u8 (48 + (u : Int))] 5)) = .ok (.string ⟨(Lib.decDigits u).toArray⟩) (w.alloc (.cells #[.int .u8 (48 + (u : Int))] 5)) := by
  rw [Lib.decDigits_one h]
  refine run_convert_bytes_back (P := Tryz.prog) _ 52 9 5 ⟨w.heap.size, 0, none⟩ 1 [UInt8.ofNat (48 + u)] (by kernel_rfl) (by kernel_rfl) (by kernel_rfl) ?_
  intro j hj
  simp only [List.length_singleton] at hj
  obtain rfl : j = 0 := by omega
  rw [Go.WideShapes.add_plain, World.cell?_alloc_new]
  simp
  omega

theorem bytes_app (a b : List UInt8) : (⟨a.toArray⟩ : ByteArray) ++ (⟨b.toArray⟩ : ByteArray) = ⟨(a ++ b).toArray⟩ := by
  apply Go.WideShapes.bytes_inj
  simp
theorem decDigits_len {u : Nat} (h : u ≤ 9223372036854775807) : (Lib.decDigits u).length ≤ 21 := by
  rw [← Lib.itoa_nonneg]
  exact Lib.itoa_length_le _ (by omega) (by omega)

set_option maxHeartbeats 1000000 in
set_option maxRecDepth 100000 in
theorem number_pos (u : Nat) : u ≤ 9223372036854775807 → ∀ w : World, Calls Tryz.prog 45 #[.int .i64 u] w fun e w' => e = .returned (.string ⟨(Lib.decDigits u).toArray⟩) ∧ Below w.heap.size w w' := by
  induction u using Nat.strongRecOn with
  | ind u ih =>
    intro hu w
    have h0 : ¬ (u : Int) < 0 := by omega
    by_cases h : u < 10
    · have hi : (u : Int) < 10 := by omega
      have hc := conv_digit u h w
      have HC := Lib.hid hc
      clear hc ih
      go_enter Tryz.func45, Tryz.ntmps45
      go_wp2
      rw [HC.out]
      go_wp2
      go_ret
      exact ⟨rfl, (Below.refl _ _).alloc (Nat.le_refl _) _⟩
    · have hi : ¬ (u : Int) < 10 := by omega
      have h1 := ih (u / 10) (by omega) (by omega)
      have h2 := ih (u % 10) (by omega) (by omega)
      have e1 : ((u / 10 : Nat) : Int) = (u : Int) / 10 := by omega
      have e2 : ((u % 10 : Nat) : Int) = (u : Int) % 10 := by omega
      rw [e1] at h1
      rw [e2] at h2
      have H1 := Lib.hid h1
      have H2 := Lib.hid h2
      have HD : Hid (Lib.decDigits u = Lib.decDigits (u / 10) ++ Lib.decDigits (u % 10)) := by
        unfold Hid
        rw [Lib.decDigits_one (i := u % 10) (by omega), Lib.decDigits, dif_neg h]
      have l1 := decDigits_len (u := u / 10) (by omega)
      have l2 := decDigits_len (u := u % 10) (by omega)
      have l3 : ¬ 9223372036854775807 < (Lib.decDigits (u / 10)).length + (Lib.decDigits (u % 10)).length := by omega
      clear h1 h2 e1 e2 ih
      go_enter Tryz.func45, Tryz.ntmps45
      go_wp2_with (first
        | (with_reducible refine Calls.mono (H1.out _) ?_; rintro e w1 ⟨rfl, hb1⟩)
        | (with_reducible refine Calls.mono (H2.out _) ?_; rintro e w2 ⟨rfl, hb2⟩))
      go_ret
      refine ⟨?_, hb1.trans (hb2.mono hb1.size)⟩
      rw [HD.out, ← bytes_app]
      rfl

set_option maxHeartbeats 1000000 in
set_option maxRecDepth 100000 in
theorem number_calls (x : Int) (hx : I64 x) (w : World) : Calls Tryz.prog 45 #[.int .i64 x] w fun e w' => e = .returned (.string ⟨(Lib.itoa x).toArray⟩) ∧ Below w.heap.size w w' := by
  obtain ⟨x0, x1⟩ := hx
  by_cases h0 : x < 0
  · by_cases hm : x = -9223372036854775808
    · have HD : Hid (Lib.itoa (-9223372036854775808) = [45, 57, 50, 50, 51, 51, 55, 50, 48, 51, 54, 56, 53, 52, 55, 55, 53, 56, 48, 56]) := by unfold Hid; decide +kernel
      have hb : ((-9223372036854775808 : Int) == wrap64 9223372036854775808) = true := by unfold wrap64; decide
      go_enter Tryz.func45, Tryz.ntmps45
      go_wp2_with fail
      go_ret
      rw [hm, HD.out]
      exact ⟨rfl, Below.refl _ _⟩
    · obtain ⟨u, hu⟩ := Int.eq_ofNat_of_zero_le (a := -x) (by omega)
      obtain rfl : x = -(u : Int) := by omega
      have h1 := number_pos u (by omega)
      have HD : Hid (Lib.itoa (-(u : Int)) = 45 :: Lib.decDigits u) := Lib.itoa_neg u (by omega)
      have l1 := decDigits_len (u := u) (by omega)
      have l3 : ¬ 9223372036854775807 < 1 + (Lib.decDigits u).length := by omega
      have H1 := Lib.hid h1
      have hne : (-(u : Int) == (u : Int)) = false := by rw [beq_eq_false_iff_ne]; omega
      clear h1 hu
      go_enter Tryz.func45, Tryz.ntmps45
      go_wp2_with (with_reducible refine Calls.mono (H1.out _) ?_; rintro e w1 ⟨rfl, hb1⟩)
      go_ret
      refine ⟨?_, hb1⟩
      rw [HD.out, show (45 : UInt8) :: Lib.decDigits u = [45] ++ Lib.decDigits u from rfl, ← bytes_app]
      rfl
  · obtain ⟨u, rfl⟩ := Int.eq_ofNat_of_zero_le (a := x) (by omega)
    rw [Lib.itoa_nonneg]
    exact number_pos u (by omega) w

theorem numberX_calls (x : Int) (hx : I64 x) (w : World) : Calls Tryz.prog 24 #[.int .i64 x] w fun e w' => e = .returned (.string ⟨(Lib.itoa x).toArray⟩) ∧ Below w.heap.size w w' := by
  have HN := Lib.hid (number_calls x hx w)
  go_enter Tryz.func24, Tryz.ntmps24
  go_wp2_with fail
  refine HN.out.mono ?_
  rintro e w1 ⟨rfl, hb⟩
  go_wp2_with fail
  go_ret
  exact ⟨rfl, hb⟩

def RpcRel (w : World) (f : Int) (ls : List Lt) (n : Nat) (sv iv : Value) (wr : World) : Prop :=
  ∃ j : Nat, j ≤ n ∧ iv = .int .i64 j ∧ sv = .string ⟨(printC f (ls.take j)).toArray⟩ ∧ (printC f (ls.take j)).length ≤ 22 + 44 * j ∧ Below w.heap.size w wr

theorem rpc_next {w : World} {f : Int} {ls : List Lt} {n j : Nat} {l : Lt} {wr : World} {s wd : ByteArray} (hl : ls[j]? = some l) (hI : LtI l) (hj : j < n) (hs : ⟨(printC f (ls.take j)).toArray⟩ = s) (hlen : (printC f (ls.take j)).length ≤ 22 + 44 * j)
    (hw : wd = ⟨(wordL l).toArray⟩) (hb : Below w.heap.size w wr) : RpcRel w f ls n (.string (s ++ ⟨#[32]⟩ ++ wd)) (.int .i64 ((j + 1 : Nat) : Int)) wr := by
  have e : printC f (ls.take (j + 1)) = printC f (ls.take j) ++ [32] ++ wordL l := by rw [List.take_add_one, hl]; simp [printC]
  have h43 := wordL_len hI
  refine ⟨j + 1, by omega, rfl, ?_, ?_, hb⟩
  · rw [e, hw, ← hs, ← str_app, ← str_app]
  · rw [e]; simp; omega
set_option maxHeartbeats 4000000 in
set_option maxRecDepth 100000 in
theorem refPrintC_calls (f : Int) (A : Option Addr) (n c : Nat) (ls : List Lt) (w : World) (hL : LS w A n ls) (hn : n ≤ 1000000) (hf : I64 f) (hI : ∀ l, l ∈ ls → LtI l) :
    Calls Tryz.prog 8 #[.agg #[.int .i64 f, .slice A n c]] w fun e w' => e = .returned (.string ⟨(printC f ls).toArray⟩) ∧ Below w.heap.size w w' := by
  have HL := Lib.hid hL
  have HI := Lib.hid hI
  have HLN : Hid (ls.length = n) := hL.1
  have h21 := Lib.itoa_length_le f hf.1 hf.2
  have l1 : ¬ 9223372036854775807 < (Lib.itoa f).length + 1 := by omega
  have HNF := Lib.hid (fun W => numberX_calls f hf W)
  clear hL hI h21
  go_enter Tryz.func8, Tryz.ntmps8
  go_wp2_with fail
  obtain ⟨V, hV⟩ : ∃ V, V = w.alloc (.cells #[.int .i64 f, .slice A n c] 24) := ⟨_, rfl⟩
  have HX := Lib.hid (Box.made w f A n c 24)
  have HWV : Hid (Below w.heap.size w V) := by rw [hV]; exact (Below.refl _ _).alloc (Nat.le_refl _) _
  obtain ⟨P, hP⟩ : ∃ P, P = w.heap.size := ⟨_, rfl⟩
  rw [← hV, ← hP] at HX
  rw [← hV, ← hP]
  clear hV hP
  refine (HNF.out _).mono ?_
  rintro e w1 ⟨rfl, hb1⟩
  have HB1 := Lib.hid hb1
  obtain ⟨_, x0, x1⟩ := HX.out.below hb1
  clear hb1
  go_wp2_with fail
  go_loopw [3, 4] (fun sv iv wr => RpcRel V f ls n sv iv wr) (fun _ iv _ => n - (intOf iv).toNat)
  case atStart => exact ⟨0, Nat.zero_le _, rfl, by simp [printC, str_app], by simp [printC]; have := Lib.itoa_length_le f hf.1 hf.2; omega, HB1.out⟩
  case round =>
    obtain ⟨j, hj, rfl, rfl, hlen, hb⟩ := hrel
    have HB := Lib.hid hb
    obtain ⟨hPw, x0, x1⟩ := HX.out.below hb
    have HLE := Lib.hid hlen
    obtain ⟨s, hs⟩ : ∃ s : ByteArray, ⟨(printC f (ls.take j)).toArray⟩ = s := ⟨_, rfl⟩
    have HSL : Hid (s.size ≤ 22 + 44 * j) := by rw [← hs]; simpa [Hid, ByteArray.size] using hlen
    have HSS := Lib.hid hs
    rw [hs]
    clear hb hlen hs
    by_cases hlt : j < n
    · obtain ⟨b, off, l, rfl, hbl, hl, c0, c1, c2, c3, c4, c5⟩ := ((HL.out.below HWV.out).below HB.out).at_ hlt
      have hji : (j : Int) < n := by omega
      have HLI : Hid (LtI l) := HI.out l (List.mem_of_getElem? hl)
      have g1 := Lib.itoa_length_le l.gate HLI.out.1.1 HLI.out.1.2
      have g2 := Lib.itoa_length_le l.rank HLI.out.2.1.1 HLI.out.2.1.2
      have g3 := Lib.itoa_length_le l.id HLI.out.2.2.1 HLI.out.2.2.2
      have HG := Lib.hid (numberX_calls l.gate HLI.out.1)
      have HR := Lib.hid (numberX_calls l.rank HLI.out.2.1)
      have HD := Lib.hid (numberX_calls l.id HLI.out.2.2)
      have HNX : Hid (∀ wd wx, wd = ⟨(wordL l).toArray⟩ → Below V.heap.size V wx → RpcRel V f ls n (.string (s ++ ⟨#[32]⟩ ++ wd)) (.int .i64 ((j + 1 : Nat) : Int)) wx) := fun wd wx h1 h2 => rpc_next hl HLI.out hlt HSS.out HLE.out h1 h2
      have hWL := wordL_len HLI.out
      have l2 : ¬ 9223372036854775807 < s.size + 1 := by have := HSL.out; omega
      have l4 : ¬ 9223372036854775807 < (Lib.itoa l.gate).length + 1 := by omega
      have l5 : ¬ 9223372036854775807 < (Lib.itoa l.gate).length + 1 + (Lib.itoa l.rank).length := by omega
      have l6 : ¬ 9223372036854775807 < (Lib.itoa l.id).length + 1 := by omega
      have l7 : ¬ 9223372036854775807 < (Lib.itoa l.id).length + 1 + 1 := by omega
      have l8 : ¬ 9223372036854775807 < s.size + 1 + ((Lib.itoa l.gate).length + 1 + (Lib.itoa l.rank).length) := by have := HSL.out; omega
      have l9 : ¬ 9223372036854775807 < s.size + 1 + ((Lib.itoa l.id).length + 1 + 1) := by have := HSL.out; omega
      have l10 : ¬ 9223372036854775807 < s.size + 1 + 1 := by have := HSL.out; omega
      obtain ⟨B, hB⟩ : ∃ B, B = wr.heap.size := ⟨_, rfl⟩
      obtain ⟨W0, hW0⟩ : ∃ W0, W0 = wr.alloc (.cells #[.int .i64 l.kind, .int .i64 l.gate, .int .i64 l.rank, .int .i64 l.id, .int .i64 l.sign, .bool l.over] 36) := ⟨_, rfl⟩
      have hbw0 : Below wr.heap.size wr W0 := by rw [hW0]; exact (Below.refl _ _).alloc (Nat.le_refl _) _
      have HW : Hid (Below V.heap.size V W0) := HB.out.trans (hbw0.mono HB.out.size)
      have hBW : B < W0.heap.size := by rw [hW0, hB]; simp
      have hat := heap_alloc_new wr (.cells #[.int .i64 l.kind, .int .i64 l.gate, .int .i64 l.rank, .int .i64 l.id, .int .i64 l.sign, .bool l.over] 36)
      rw [← hW0, ← hB] at hat
      have HS : Hid (WdS B l W0 W0) := ⟨Lib.cell_of_heap hat 1, Lib.cell_of_heap hat 2, Lib.cell_of_heap hat 3, Lib.cell_of_heap hat 4, Lib.cell_of_heap hat 5, Below.refl _ _⟩
      have HAT := Lib.hid hat
      have HWE := Lib.hid hW0
      have HBE := Lib.hid hB
      clear hl g1 g2 g3 hWL hbw0 hat hW0 hB
      by_cases hk : l.kind = 1
      · have hke : (l.kind == 1) = true := by rw [beq_iff_eq]; exact hk
        have hk2 : (l.kind == 2) = false := by rw [beq_eq_false_iff_ne]; omega
        have HE : Hid (wordL l = Lib.itoa l.gate ++ [46] ++ Lib.itoa l.rank) := by unfold Hid wordL; rw [if_pos hk]; simp
        clear hk
        go_upto_region 8 with fail
        rw [← HWE.out, ← HBE.out]
        go_region_held3 (fun w' => w'.cell? ⟨B, 1, none⟩ = some (.int .i64 l.gate) ∧ w'.cell? ⟨B, 2, none⟩ = some (.int .i64 l.rank) ∧ w'.cell? ⟨B, 3, none⟩ = some (.int .i64 l.id) ∧ w'.cell? ⟨B, 4, none⟩ = some (.int .i64 l.sign) ∧ w'.cell? ⟨B, 5, none⟩ = some (.bool l.over) ∧ Below W0.heap.size W0 w')
          (first
            | exact HS.out
            | exact HS.out.drew
            | exact WdS.go hBW (by assumption) hbw)
          (first
            | (go_at_call 24; (with_reducible refine (HG.out _).mono ?_); rintro e w2 ⟨rfl, hbw⟩)
            | (go_at_call 24; (with_reducible refine (HR.out _).mono ?_); rintro e w2 ⟨rfl, hbw⟩))
        all_goals
          have hS : WdS B l W0 w2 := by assumption
          have HSS2 : Hid (Below V.heap.size V w2) := HW.out.trans (hS.last.mono HW.out.size)
          have q0 : w2.cell? ⟨B, 0, none⟩ = some (.int .i64 l.kind) := (hS.last.cell (p := ⟨B, 0, none⟩) hBW).trans (Lib.cell_of_heap HAT.out 0)
          clear hS
          go_wp2_with fail
          go_roundw
          case rel => exact HNX.out _ _ (by rw [HE.out, ← str_app, ← str_app]) HSS2.out
          case measure => simp [intOf]; omega
      · have hke : (l.kind == 1) = false := by rw [beq_eq_false_iff_ne]; exact hk
        by_cases hk2 : l.kind = 2
        · have hke2 : (l.kind == 2) = true := by rw [beq_iff_eq]; exact hk2
          obtain ⟨u1, hu1⟩ : ∃ u : UInt8, (if l.over then 111 else 117) = u := ⟨_, rfl⟩
          obtain ⟨u2, hu2⟩ : ∃ u : UInt8, (if l.sign = 1 then 43 else if l.sign = -1 then 45 else 63) = u := ⟨_, rfl⟩
          have HE : Hid (wordL l = Lib.itoa l.id ++ [u1] ++ [u2]) := by unfold Hid wordL; rw [if_neg hk, if_pos hk2, hu1, hu2]
          have HU1 := Lib.hid hu1
          have HU2 := Lib.hid hu2
          have hsg : l.sign = 1 ∨ l.sign = -1 ∨ (l.sign ≠ 1 ∧ l.sign ≠ -1) := by omega
          clear hk hk2 hu1 hu2
          obtain ⟨ov, hov⟩ : ∃ o, l.over = o := ⟨_, rfl⟩
          rw [hov] at c5 HWE HU1
          have HOV := Lib.hid hov
          clear hov
          cases ov with
          | true =>
            rcases hsg with hg | hg | ⟨hg1, hg2⟩
            · have gs : (l.sign == 1) = true := by rw [beq_iff_eq]; exact hg
              have hu : u2 = 43 := by rw [← HU2.out, if_pos hg]
              have hu1 : u1 = 111 := HU1.out.symm
              subst hu; subst hu1
              clear hg
              go_wp2_with fail
              rw [← HWE.out]
              refine (HD.out _).mono ?_
              rintro e w2 ⟨rfl, hbw⟩
              have HB2 : Hid (Below W0.heap.size W0 w2) := hbw
              obtain ⟨hs1, hs2, hs3, hs4, hs5, _⟩ := WdS.go hBW HS.out HB2.out
              have hs0 := (HB2.out.cell (p := ⟨B, 0, none⟩) hBW).trans (Lib.cell_of_heap HAT.out 0)
              rw [HBE.out] at hs0 hs1 hs2 hs3 hs4 hs5
              rw [HOV.out] at hs5
              clear hbw
              go_wp2_with fail
              refine (HD.out _).mono ?_
              rintro e w3 ⟨rfl, hbw⟩
              have HB3 : Hid (Below W0.heap.size W0 w3) := HB2.out.trans (hbw.mono HB2.out.size)
              obtain ⟨hs1, hs2, hs3, hs4, hs5, _⟩ := WdS.go hBW HS.out HB3.out
              have hs0 := (HB3.out.cell (p := ⟨B, 0, none⟩) hBW).trans (Lib.cell_of_heap HAT.out 0)
              rw [HBE.out] at hs0 hs1 hs2 hs3 hs4 hs5
              rw [HOV.out] at hs5
              clear hbw
              go_wp2_with fail
              go_roundw
              case rel => exact HNX.out _ _ (by rw [HE.out, ← str_app, ← str_app]) (HW.out.trans (HB3.out.mono HW.out.size))
              case measure => simp [intOf]; omega
            · have gs : (l.sign == 1) = false := by rw [beq_eq_false_iff_ne]; omega
              have gs2 : (l.sign == -1) = true := by rw [beq_iff_eq]; exact hg
              have hu : u2 = 45 := by rw [← HU2.out, if_neg (by omega), if_pos hg]
              have hu1 : u1 = 111 := HU1.out.symm
              subst hu; subst hu1
              clear hg
              go_wp2_with fail
              rw [← HWE.out]
              refine (HD.out _).mono ?_
              rintro e w2 ⟨rfl, hbw⟩
              have HB2 : Hid (Below W0.heap.size W0 w2) := hbw
              obtain ⟨hs1, hs2, hs3, hs4, hs5, _⟩ := WdS.go hBW HS.out HB2.out
              have hs0 := (HB2.out.cell (p := ⟨B, 0, none⟩) hBW).trans (Lib.cell_of_heap HAT.out 0)
              rw [HBE.out] at hs0 hs1 hs2 hs3 hs4 hs5
              rw [HOV.out] at hs5
              clear hbw
              go_wp2_with fail
              refine (HD.out _).mono ?_
              rintro e w3 ⟨rfl, hbw⟩
              have HB3 : Hid (Below W0.heap.size W0 w3) := HB2.out.trans (hbw.mono HB2.out.size)
              obtain ⟨hs1, hs2, hs3, hs4, hs5, _⟩ := WdS.go hBW HS.out HB3.out
              have hs0 := (HB3.out.cell (p := ⟨B, 0, none⟩) hBW).trans (Lib.cell_of_heap HAT.out 0)
              rw [HBE.out] at hs0 hs1 hs2 hs3 hs4 hs5
              rw [HOV.out] at hs5
              clear hbw
              go_wp2_with fail
              go_roundw
              case rel => exact HNX.out _ _ (by rw [HE.out, ← str_app, ← str_app]) (HW.out.trans (HB3.out.mono HW.out.size))
              case measure => simp [intOf]; omega
            · have gs : (l.sign == 1) = false := by rw [beq_eq_false_iff_ne]; exact hg1
              have gs2 : (l.sign == -1) = false := by rw [beq_eq_false_iff_ne]; exact hg2
              have hu : u2 = 63 := by rw [← HU2.out, if_neg hg1, if_neg hg2]
              have hu1 : u1 = 111 := HU1.out.symm
              subst hu; subst hu1
              clear hg1 hg2
              go_wp2_with fail
              rw [← HWE.out]
              refine (HD.out _).mono ?_
              rintro e w2 ⟨rfl, hbw⟩
              have HB2 : Hid (Below W0.heap.size W0 w2) := hbw
              obtain ⟨hs1, hs2, hs3, hs4, hs5, _⟩ := WdS.go hBW HS.out HB2.out
              have hs0 := (HB2.out.cell (p := ⟨B, 0, none⟩) hBW).trans (Lib.cell_of_heap HAT.out 0)
              rw [HBE.out] at hs0 hs1 hs2 hs3 hs4 hs5
              rw [HOV.out] at hs5
              clear hbw
              go_wp2_with fail
              refine (HD.out _).mono ?_
              rintro e w3 ⟨rfl, hbw⟩
              have HB3 : Hid (Below W0.heap.size W0 w3) := HB2.out.trans (hbw.mono HB2.out.size)
              obtain ⟨hs1, hs2, hs3, hs4, hs5, _⟩ := WdS.go hBW HS.out HB3.out
              have hs0 := (HB3.out.cell (p := ⟨B, 0, none⟩) hBW).trans (Lib.cell_of_heap HAT.out 0)
              rw [HBE.out] at hs0 hs1 hs2 hs3 hs4 hs5
              rw [HOV.out] at hs5
              clear hbw
              go_wp2_with fail
              go_roundw
              case rel => exact HNX.out _ _ (by rw [HE.out, ← str_app, ← str_app]) (HW.out.trans (HB3.out.mono HW.out.size))
              case measure => simp [intOf]; omega
          | false =>
            rcases hsg with hg | hg | ⟨hg1, hg2⟩
            · have gs : (l.sign == 1) = true := by rw [beq_iff_eq]; exact hg
              have hu : u2 = 43 := by rw [← HU2.out, if_pos hg]
              have hu1 : u1 = 117 := HU1.out.symm
              subst hu; subst hu1
              clear hg
              go_wp2_with fail
              rw [← HWE.out]
              refine (HD.out _).mono ?_
              rintro e w2 ⟨rfl, hbw⟩
              have HB2 : Hid (Below W0.heap.size W0 w2) := hbw
              obtain ⟨hs1, hs2, hs3, hs4, hs5, _⟩ := WdS.go hBW HS.out HB2.out
              have hs0 := (HB2.out.cell (p := ⟨B, 0, none⟩) hBW).trans (Lib.cell_of_heap HAT.out 0)
              rw [HBE.out] at hs0 hs1 hs2 hs3 hs4 hs5
              rw [HOV.out] at hs5
              clear hbw
              go_wp2_with fail
              go_roundw
              case rel => exact HNX.out _ _ (by rw [HE.out, ← str_app, ← str_app]) (HW.out.trans (HB2.out.mono HW.out.size))
              case measure => simp [intOf]; omega
            · have gs : (l.sign == 1) = false := by rw [beq_eq_false_iff_ne]; omega
              have gs2 : (l.sign == -1) = true := by rw [beq_iff_eq]; exact hg
              have hu : u2 = 45 := by rw [← HU2.out, if_neg (by omega), if_pos hg]
              have hu1 : u1 = 117 := HU1.out.symm
              subst hu; subst hu1
              clear hg
              go_wp2_with fail
              rw [← HWE.out]
              refine (HD.out _).mono ?_
              rintro e w2 ⟨rfl, hbw⟩
              have HB2 : Hid (Below W0.heap.size W0 w2) := hbw
              obtain ⟨hs1, hs2, hs3, hs4, hs5, _⟩ := WdS.go hBW HS.out HB2.out
              have hs0 := (HB2.out.cell (p := ⟨B, 0, none⟩) hBW).trans (Lib.cell_of_heap HAT.out 0)
              rw [HBE.out] at hs0 hs1 hs2 hs3 hs4 hs5
              rw [HOV.out] at hs5
              clear hbw
              go_wp2_with fail
              go_roundw
              case rel => exact HNX.out _ _ (by rw [HE.out, ← str_app, ← str_app]) (HW.out.trans (HB2.out.mono HW.out.size))
              case measure => simp [intOf]; omega
            · have gs : (l.sign == 1) = false := by rw [beq_eq_false_iff_ne]; exact hg1
              have gs2 : (l.sign == -1) = false := by rw [beq_eq_false_iff_ne]; exact hg2
              have hu : u2 = 63 := by rw [← HU2.out, if_neg hg1, if_neg hg2]
              have hu1 : u1 = 117 := HU1.out.symm
              subst hu; subst hu1
              clear hg1 hg2
              go_wp2_with fail
              rw [← HWE.out]
              refine (HD.out _).mono ?_
              rintro e w2 ⟨rfl, hbw⟩
              have HB2 : Hid (Below W0.heap.size W0 w2) := hbw
              obtain ⟨hs1, hs2, hs3, hs4, hs5, _⟩ := WdS.go hBW HS.out HB2.out
              have hs0 := (HB2.out.cell (p := ⟨B, 0, none⟩) hBW).trans (Lib.cell_of_heap HAT.out 0)
              rw [HBE.out] at hs0 hs1 hs2 hs3 hs4 hs5
              rw [HOV.out] at hs5
              clear hbw
              go_wp2_with fail
              go_roundw
              case rel => exact HNX.out _ _ (by rw [HE.out, ← str_app, ← str_app]) (HW.out.trans (HB2.out.mono HW.out.size))
              case measure => simp [intOf]; omega
        · have hke2 : (l.kind == 2) = false := by rw [beq_eq_false_iff_ne]; exact hk2
          have HE : Hid (wordL l = [63]) := by unfold Hid wordL; rw [if_neg hk, if_neg hk2]
          clear hk hk2
          go_wp2_with fail
          rw [← HWE.out]
          go_roundw
          case rel => exact HNX.out ⟨#[63]⟩ _ (by rw [HE.out]) HW.out
          case measure => simp [intOf]; omega
    · obtain rfl : j = n := by omega
      go_wp2_with fail
      go_ret
      refine ⟨?_, HWV.out.trans (HB.out.mono HWV.out.size)⟩
      rw [← HSS.out, List.take_of_length_le (by rw [HLN.out]; exact Nat.le_refl _)]
      rfl

end Go.Proofs.YtplpccgbciglpaaGreatDoor
