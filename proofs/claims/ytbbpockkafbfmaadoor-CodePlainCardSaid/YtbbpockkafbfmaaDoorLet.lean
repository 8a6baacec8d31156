/-
  Letters of a code in memory, and the walks that count them.
-/
import Derived.Test.YtbbpockkafbfmaaDoorMem
import Derived.BigQuiet
import Derived.Deep.QuietTactic
namespace Go.Proofs.YtbbpockkafbfmaaDoor
open Go.RowKit

/-- A letter of a code. -/
structure Lt where
  kind : Int
  gate : Int
  rank : Int
  id : Int
  sign : Int
  over : Bool

def Lt.val (l : Lt) : Value := .agg #[.int .i64 l.kind, .int .i64 l.gate, .int .i64 l.rank, .int .i64 l.id, .int .i64 l.sign, .bool l.over]
/-- The cells of a letter. -/
def LtAt (w : World) (b o : Nat) (l : Lt) : Prop :=
  w.cell? ⟨b, o, none⟩ = some (.int .i64 l.kind) ∧ w.cell? ⟨b, o + 1, none⟩ = some (.int .i64 l.gate) ∧ w.cell? ⟨b, o + 2, none⟩ = some (.int .i64 l.rank) ∧
    w.cell? ⟨b, o + 3, none⟩ = some (.int .i64 l.id) ∧ w.cell? ⟨b, o + 4, none⟩ = some (.int .i64 l.sign) ∧ w.cell? ⟨b, o + 5, none⟩ = some (.bool l.over)
/-- The slice at A of n letters reads as the list ls. -/
def LS (w : World) (A : Option Addr) (n : Nat) (ls : List Lt) : Prop :=
  ls.length = n ∧ (0 < n → ∃ b off, A = some ⟨b, off, none⟩ ∧ b < w.heap.size ∧ ∀ k l, ls[k]? = some l → LtAt w b (off + k * 6) l)

section
variable {w w' : World} {A : Option Addr} {n : Nat} {ls : List Lt}
theorem LS.below (h : LS w A n ls) (hb : Below w.heap.size w w') : LS w' A n ls :=
  ⟨h.1, fun hn => by
    obtain ⟨b, off, hA, hlt, hc⟩ := h.2 hn
    refine ⟨b, off, hA, Nat.lt_of_lt_of_le hlt hb.size, fun k l hk => ?_⟩
    obtain ⟨c0, c1, c2, c3, c4, c5⟩ := hc k l hk
    have e : ∀ o, w'.cell? ⟨b, o, none⟩ = w.cell? ⟨b, o, none⟩ := fun o => hb.cell (p := ⟨b, o, none⟩) hlt
    exact ⟨(e _).trans c0, (e _).trans c1, (e _).trans c2, (e _).trans c3, (e _).trans c4, (e _).trans c5⟩⟩
theorem LS.drewN (h : LS w A n ls) (k : Nat) : LS (w.drewN k) A n ls := h
theorem LS.at_ (h : LS w A n ls) {k : Nat} (hk : k < n) : ∃ b off l, A = some ⟨b, off, none⟩ ∧ b < w.heap.size ∧ ls[k]? = some l ∧ LtAt w b (off + k * 6) l := by
  obtain ⟨b, off, hA, hlt, hc⟩ := h.2 (by omega)
  have hl : k < ls.length := by have := h.1; omega
  exact ⟨b, off, ls[k], hA, hlt, List.getElem?_eq_getElem hl, hc k _ (List.getElem?_eq_getElem hl)⟩
end

theorem ret_i64 {a b : Int} (h : a = b) : Ending.returned (.int .i64 a) = .returned (.int .i64 b) := by rw [h]

/-- How many letters are of a kind, among the first m. -/
def cntK (kind : Int) (ls : List Lt) : Int := (ls.filter fun l => decide (l.kind = kind)).length
theorem cntK_nonneg (kind : Int) (ls : List Lt) : 0 ≤ cntK kind ls := Int.natCast_nonneg _
theorem cntK_take_le (kind : Int) (ls : List Lt) (j : Nat) : cntK kind (ls.take j) ≤ j := by
  unfold cntK
  have h1 := List.length_filter_le (fun l : Lt => decide (l.kind = kind)) (ls.take j)
  have h2 := List.length_take_le j ls
  omega
theorem cntK_succ {kind : Int} {ls : List Lt} {j : Nat} {l : Lt} (h : ls[j]? = some l) : cntK kind (ls.take (j + 1)) = cntK kind (ls.take j) + if l.kind = kind then 1 else 0 := by
  unfold cntK
  rw [List.take_add_one, h, Option.toList_some, List.filter_append, List.length_append]
  by_cases e : l.kind = kind
  · rw [if_pos e]; simp [e]
  · rw [if_neg e]; simp [e]
def CntRel (ls : List Lt) (n : Nat) (kind : Int) (w : World) (v i : Value) (wr : World) : Prop := ∃ j : Nat, j ≤ n ∧ i = .int .i64 j ∧ v = .int .i64 (cntK kind (ls.take j)) ∧ Below w.heap.size w wr

set_option maxHeartbeats 1000000 in
theorem count_wide (f : Int) (A : Option Addr) (n cap : Nat) (ls : List Lt) (kind : Int) (w : World) (h : LS w A n ls) (hn : n ≤ 9223372036854775807) :
    Calls Tryd.prog 50 #[.agg #[.int .i64 f, .slice A n cap], .int .i64 kind] w fun e w' => e = .returned (.int .i64 (cntK kind ls)) ∧ Below w.heap.size w w' := by
  have HL := Lib.hid h.1
  go_enter Tryd.func50, Tryd.ntmps50
  go_wp2_with fail
  go_loopw [5, 11] (fun v i wr => CntRel ls n kind w v i wr) (fun _ i _ => n - (intOf i).toNat)
  case atStart => exact ⟨0, Nat.zero_le _, rfl, rfl, (Below.refl _ _).alloc (Nat.le_refl _) _⟩
  case round =>
    obtain ⟨j, hj, rfl, rfl, hb⟩ := hrel
    have HB := Lib.hid hb
    have b0 := cntK_nonneg kind (ls.take j)
    have b1 := cntK_take_le kind ls j
    obtain ⟨c, hc⟩ : ∃ c, cntK kind (ls.take j) = c := ⟨_, rfl⟩
    rw [hc] at b0 b1 ⊢
    by_cases hlt : j < n
    · obtain ⟨b, off, l, rfl, hbl, hl, c0, c1, c2, c3, c4, c5⟩ := (h.below hb).at_ hlt
      have hj1 : (j : Int) < n := by omega
      have HS := Lib.hid (cntK_succ (kind := kind) hl)
      rw [hc] at HS
      clear hl hb hc
      by_cases hk : l.kind = kind
      · have hke : (l.kind == kind) = true := by rw [beq_iff_eq]; exact hk
        have HK := Lib.hid hk
        clear hk
        go_wp2_with fail
        go_roundw
        case rel => exact ⟨j + 1, by omega, by rw [Int.natCast_add]; rfl, by rw [HS.out, if_pos HK.out], HB.out.alloc HB.out.size _⟩
        case measure => simp [intOf]; omega
      · have hke : (l.kind == kind) = false := by rw [beq_eq_false_iff_ne]; exact hk
        have HK := Lib.hid hk
        clear hk
        go_wp2_with fail
        go_roundw
        case rel => exact ⟨j + 1, by omega, by rw [Int.natCast_add]; rfl, by rw [HS.out, if_neg HK.out, Int.add_zero], HB.out.alloc HB.out.size _⟩
        case measure => simp [intOf]; omega
    · obtain rfl : j = n := by omega
      go_wp2_with fail
      go_ret
      rw [List.take_of_length_le (by rw [HL.out]; omega)] at hc
      exact ⟨ret_i64 hc.symm, HB.out⟩
theorem count_calls (f : Int) (A : Option Addr) (n cap : Nat) (ls : List Lt) (kind : Int) (w : World) (h : LS w A n ls) (hn : n ≤ 1000000) :
    Calls Tryd.prog 50 #[.agg #[.int .i64 f, .slice A n cap], .int .i64 kind] w fun e w' => e = .returned (.int .i64 (cntK kind ls)) ∧ Below w.heap.size w w' :=
  count_wide f A n cap ls kind w h (by omega)

end Go.Proofs.YtbbpockkafbfmaaDoor
