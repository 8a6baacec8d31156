/-
  The walks of the reference's counts over a code's letters, and of its Equal.
-/
import Derived.Test.YtbbpockkafbfmaaDoorLet
namespace Go.Proofs.YtbbpockkafbfmaaDoor
open Go.RowKit

/-- A code in a variable of its own. -/
def Box (w : World) (P : Nat) (f : Int) (v : Value) : Prop := P < w.heap.size ∧ w.cell? ⟨P, 0, none⟩ = some (.int .i64 f) ∧ w.cell? ⟨P, 1, none⟩ = some v
theorem Box.below {w w' : World} {P : Nat} {f : Int} {v : Value} (h : Box w P f v) (hb : Below w.heap.size w w') : Box w' P f v :=
  ⟨Nat.lt_of_lt_of_le h.1 hb.size, (hb.cell (p := ⟨P, 0, none⟩) h.1).trans h.2.1, (hb.cell (p := ⟨P, 1, none⟩) h.1).trans h.2.2⟩
theorem Box.made (w : World) (f : Int) (A : Option Addr) (n c : Nat) (T : TypeId) : Box (w.alloc (.cells #[.int .i64 f, .slice A n c] T)) w.heap.size f (.slice A n c) := by
  have h0 := Lib.cell_of_heap (heap_alloc_new w (.cells #[.int .i64 f, .slice A n c] T)) 0
  have h1 := Lib.cell_of_heap (heap_alloc_new w (.cells #[.int .i64 f, .slice A n c] T)) 1
  exact ⟨by simp, h0, h1⟩

/-- How many letters have a property. -/
def cntB (p : Lt → Bool) (ls : List Lt) : Int := (ls.filter p).length
theorem cntB_nonneg (p : Lt → Bool) (ls : List Lt) : 0 ≤ cntB p ls := Int.natCast_nonneg _
theorem cntB_take_le (p : Lt → Bool) (ls : List Lt) (j : Nat) : cntB p (ls.take j) ≤ j := by
  unfold cntB
  have h1 := List.length_filter_le p (ls.take j)
  have h2 := List.length_take_le j ls
  omega
theorem cntB_succ {p : Lt → Bool} {ls : List Lt} {j : Nat} {l : Lt} (h : ls[j]? = some l) : cntB p (ls.take (j + 1)) = cntB p (ls.take j) + if p l = true then 1 else 0 := by
  unfold cntB
  rw [List.take_add_one, h, Option.toList_some, List.filter_append, List.length_append]
  by_cases e : p l = true
  · rw [if_pos e]; simp [e]
  · rw [if_neg e]; simp [e]
def PrRel (ls : List Lt) (n : Nat) (p : Lt → Bool) (w : World) (v i : Value) (wr : World) : Prop := ∃ j : Nat, j ≤ n ∧ i = .int .i64 j ∧ v = .int .i64 (cntB p (ls.take j)) ∧ Below w.heap.size w wr
theorem cntK_eq (k : Int) (ls : List Lt) : cntK k ls = cntB (fun l => decide (l.kind = k)) ls := rfl

set_option maxHeartbeats 1000000 in
theorem visits_wide (f : Int) (A : Option Addr) (n cap : Nat) (ls : List Lt) (w : World) (h : LS w A n ls) (hn : n ≤ 9223372036854775807) :
    Calls Tryd.prog 35 #[.agg #[.int .i64 f, .slice A n cap]] w fun e w' => e = .returned (.int .i64 (cntK 2 ls)) ∧ Below w.heap.size w w' := by
  have HL := Lib.hid h.1
  rw [cntK_eq]
  go_enter Tryd.func35, Tryd.ntmps35
  go_wp2_with fail
  have HX := Lib.hid (Box.made w f A n cap 33)
  have HB0 : Hid (Below w.heap.size w (w.alloc (.cells #[.int .i64 f, .slice A n cap] 33))) := (Below.refl _ _).alloc (Nat.le_refl _) _
  obtain ⟨W0, hW0⟩ : ∃ W0, W0 = w.alloc (.cells #[.int .i64 f, .slice A n cap] 33) := ⟨_, rfl⟩
  obtain ⟨P, hP⟩ : ∃ P, P = w.heap.size := ⟨_, rfl⟩
  rw [← hW0] at HX HB0 ⊢
  rw [← hP] at HX ⊢
  clear hW0 hP
  go_loopw [3, 4] (fun v i wr => PrRel ls n (fun l => decide (l.kind = 2)) W0 v i wr) (fun _ i _ => n - (intOf i).toNat)
  case atStart => exact ⟨0, Nat.zero_le _, rfl, rfl, Below.refl _ _⟩
  case round =>
    obtain ⟨j, hj, rfl, rfl, hb⟩ := hrel
    have HB := Lib.hid hb
    obtain ⟨hP, x0, x1⟩ := HX.out.below hb
    have b0 := cntB_nonneg (fun l => decide (l.kind = 2)) (ls.take j)
    have b1 := cntB_take_le (fun l => decide (l.kind = 2)) ls j
    obtain ⟨c, hc⟩ : ∃ c, cntB (fun l => decide (l.kind = 2)) (ls.take j) = c := ⟨_, rfl⟩
    rw [hc] at b0 b1 ⊢
    by_cases hlt : j < n
    · obtain ⟨b, off, l, rfl, hbl, hl, c0, c1, c2, c3, c4, c5⟩ := ((h.below HB0.out).below hb).at_ hlt
      have hj1 : (j : Int) < n := by omega
      have HS := Lib.hid (cntB_succ (p := fun l => decide (l.kind = 2)) hl)
      rw [hc] at HS
      clear hl hb hc
      by_cases hk : l.kind = 2
      · have hke : (l.kind == 2) = true := by rw [beq_iff_eq]; exact hk
        have HK := Lib.hid hk
        clear hk
        go_wp2_with fail
        go_roundw
        case rel => exact ⟨j + 1, by omega, by rw [Int.natCast_add]; rfl, by rw [HS.out, if_pos (by simpa using HK.out)], HB.out⟩
        case measure => simp [intOf]; omega
      · have hke : (l.kind == 2) = false := by rw [beq_eq_false_iff_ne]; exact hk
        have HK := Lib.hid hk
        clear hk
        go_wp2_with fail
        go_roundw
        case rel => exact ⟨j + 1, by omega, by rw [Int.natCast_add]; rfl, by rw [HS.out, if_neg (by simpa using HK.out), Int.add_zero], HB.out⟩
        case measure => simp [intOf]; omega
    · obtain rfl : j = n := by omega
      go_wp2_with fail
      go_ret
      rw [List.take_of_length_le (by rw [HL.out]; omega)] at hc
      exact ⟨ret_i64 hc.symm, HB0.out.trans (HB.out.mono HB0.out.size)⟩
theorem visits_calls (f : Int) (A : Option Addr) (n cap : Nat) (ls : List Lt) (w : World) (h : LS w A n ls) (hn : n ≤ 1000000) :
    Calls Tryd.prog 35 #[.agg #[.int .i64 f, .slice A n cap]] w fun e w' => e = .returned (.int .i64 (cntK 2 ls)) ∧ Below w.heap.size w w' :=
  visits_wide f A n cap ls w h (by omega)

end Go.Proofs.YtbbpockkafbfmaaDoor
