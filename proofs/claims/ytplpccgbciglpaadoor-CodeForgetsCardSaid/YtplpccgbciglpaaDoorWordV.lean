/-
  The word of a code: the program's walk (out of WordG).
-/
import Derived.Test.YtplpccgbciglpaaDoorLwA
import Derived.Test.YtplpccgbciglpaaDoorEarlyA
import Derived.Test.YtplpccgbciglpaaDoorLet3
namespace Go.Proofs.YtplpccgbciglpaaDoor
open Go.RowKit

def wordG (ls : List Lt) : List Int := (ls.filter isPass).map (·.gate)
theorem wordG_app (xs ys : List Lt) : wordG (xs ++ ys) = wordG xs ++ wordG ys := by simp [wordG]
theorem wordG_succ {ls : List Lt} {j : Nat} {l : Lt} (h : ls[j]? = some l) : wordG (ls.take (j + 1)) = wordG (ls.take j) ++ (if l.kind = 1 then [l.gate] else []) := by
  rw [List.take_add_one, h, wordG_app]
  congr 1
  by_cases k : l.kind = 1
  · simp [wordG, isPass, k]
  · simp [wordG, isPass, k]
theorem wordG_len (ls : List Lt) : (wordG ls).length ≤ ls.length := by
  unfold wordG
  rw [List.length_map]
  exact List.length_filter_le _ _
theorem heap_ltW {w : World} {q : Nat} {o : Obj} (h : w.heap[q]? = some o) : q < w.heap.size := by
  rcases Nat.lt_or_ge q w.heap.size with c | c
  · exact c
  · rw [Array.getElem?_eq_none c] at h; cases h
theorem SL.oneW (w : World) (x : Int) (T : TypeId) {q : Nat} (hq : q = w.heap.size) : SL (w.alloc (.cells #[.int .i64 x] T)) (some ⟨q, 0, none⟩) 1 [x] := by
  subst hq
  exact SL.one w x T
/-- What holds at the heads of Word's loop. -/
def WgRel (ls : List Lt) (n : Nat) (w : World) (v iv : Value) (wr : World) : Prop :=
  ∃ j : Nat, j ≤ n ∧ iv = .int .i64 (j : Int) ∧ Lw.OwnI wr w.heap.size v (wordG (ls.take j)) ∧ Below w.heap.size w wr

set_option maxHeartbeats 4000000 in
set_option maxRecDepth 100000 in
theorem codeWord_calls (f : Int) (A : Option Addr) (n c : Nat) (ls : List Lt) (w : World) (hL : LS w A n ls) (hn : n ≤ 1000) (hC : ChkAt f A n c 0 w) :
    Calls Tryd.prog 22 #[.agg #[.int .i64 f, .slice A n c]] w fun e w' => ∃ v, e = .returned (.tuple #[v, .int .i64 0]) ∧ Lw.OwnI w' w.heap.size v (wordG ls) ∧ Below w.heap.size w w' := by
  have HCK := Lib.hid hC
  have HLL := Lib.hid hL
  clear hL hC
  go_enter Tryd.func22, Tryd.ntmps22
  go_wp2_with fail
  obtain ⟨W0, hW0⟩ : ∃ W0, W0 = w.alloc (.cells #[.int .i64 f, .slice A n c] 24) := ⟨_, rfl⟩
  have HB0 : Hid (Below w.heap.size w W0) := by rw [hW0]; exact (Below.refl _ _).alloc (Nat.le_refl _) _
  have HP0 : Hid (W0.heap[w.heap.size]? = some (.cells #[.int .i64 f, .slice A n c] 24 (0, 0))) := by rw [hW0]; exact heap_alloc_new w _
  rw [← hW0]
  clear hW0
  refine (HCK.out _ HB0.out).mono ?_
  rintro e w1 ⟨rfl, hb⟩
  have HB1 : Hid (Below w.heap.size w w1) := HB0.out.trans (hb.mono HB0.out.size)
  have HP1 : Hid (w1.heap[w.heap.size]? = some (.cells #[.int .i64 f, .slice A n c] 24 (0, 0))) := (hb.block _ (heap_ltW HP0.out)).trans HP0.out
  clear hb HB0 HP0
  have a0 := Lib.cell_of_heap HP1.out 0
  have a1 := Lib.cell_of_heap HP1.out 1
  go_wp2_with fail
  have HST : Hid (WgRel ls n w (.slice none 0 0) (.int .i64 0) w1) := ⟨0, Nat.zero_le _, rfl, by simp [wordG]; exact World.ownsRow_nil _ _ _ _, HB1.out⟩
  clear a0 a1
  go_loopw [5, 16] (fun v iv wr => WgRel ls n w v iv wr) (fun _ iv _ => n - (intOf iv).toNat)
  case atStart => exact HST.out
  case round =>
    obtain ⟨j, hj, rfl, hown, hb⟩ := hrel
    have HOWN := Lib.hid hown
    have HB := Lib.hid hb
    have hws := hb.size
    obtain ⟨A5, c5, rfl, hcc, hgg⟩ := hown.form
    clear hcc hgg hown
    by_cases hlt : j < n
    · obtain ⟨b, off, l, rfl, hbl, hl, c0, c1, c2, c3, c4, c5⟩ := (HLL.out.below hb).at_ hlt
      have hj1 : (j : Int) < n := by omega
      have HS := Lib.hid (wordG_succ hl)
      have hwl : (wordG (ls.take j)).length ≤ 1000 := by
        have h1 := wordG_len (ls.take j)
        rw [List.length_take] at h1
        omega
      have HWL := Lib.hid hwl
      clear hl hb hbl hwl
      by_cases hk : l.kind = 1
      · have hke : (l.kind == 1) = true := by rw [beq_iff_eq]; exact hk
        have HK := Lib.hid hk
        clear hk
        go_wp2_with (at_builtin; refine Lw.wpList_append_ints rfl _ _ rfl w.heap.size _ (wordG (ls.take j)) rfl (Lw.OwnI.below HOWN.out ?cb) ⟨_, 0, none⟩ 1 1 [l.gate] rfl ?c0 ?c1 ?c2 ?_)
        case cb => exact ((Below.refl _ _).alloc (Nat.le_refl _) _).alloc (by simp) _
        case c0 => exact SL.oneW _ _ _ (by simp)
        case c1 => have := HWL.out; show (wordG (ls.take j)).length + 1 ≤ 1000000; omega
        case c2 => simp; omega
        intro v' w' hown' hg _
        have hbl2 : Below wr.heap.size wr (wr.alloc _) := (Below.refl _ _).alloc (Nat.le_refl _) (.cells #[.int .i64 l.kind, .int .i64 l.gate, .int .i64 l.rank, .int .i64 l.id, .int .i64 l.sign, .bool l.over] 56)
        have hb3 := hbl2.alloc (by simp) (.cells #[.int .i64 l.gate] 3)
        have h9 := Lib.hid (Lw.grown_below (HB.out.trans (hb3.mono HB.out.size)) (HOWN.out.below hb3) hg)
        have HO9 : Hid (Lw.OwnI w' w.heap.size v' (wordG (ls.take (j + 1)))) := by rw [HS.out, if_pos HK.out]; exact hown'
        clear hown' hg hbl2 hb3
        go_wp2_with fail
        go_roundw
        case rel => exact ⟨j + 1, by omega, by rw [Int.natCast_add]; rfl, HO9.out, h9.out⟩
        case measure => simp [intOf]; omega
      · have hke : (l.kind == 1) = false := by rw [beq_eq_false_iff_ne]; exact hk
        have HK := Lib.hid hk
        clear hk
        go_wp2_with fail
        go_roundw
        case rel =>
          have hbl2 : Below wr.heap.size wr (wr.alloc (.cells #[.int .i64 l.kind, .int .i64 l.gate, .int .i64 l.rank, .int .i64 l.id, .int .i64 l.sign, .bool l.over] 56)) := (Below.refl _ _).alloc (Nat.le_refl _) _
          exact ⟨j + 1, by omega, by rw [Int.natCast_add]; rfl, by rw [HS.out, if_neg HK.out, List.append_nil]; exact HOWN.out.below hbl2, HB.out.trans (hbl2.mono HB.out.size)⟩
        case measure => simp [intOf]; omega
    · obtain rfl : j = n := by omega
      have ht : ls.take j = ls := List.take_of_length_le (by rw [HLL.out.1]; omega)
      rw [ht] at HOWN
      go_wp2_with fail
      refine bodyPost_ret (v := .tuple #[.slice A5 (wordG (ls.take j)).length c5, .int .i64 0]) (by simp [results, Tryd.results22, go_sem]) rfl ⟨_, rfl, ?_, HB.out⟩
      rw [ht]
      exact HOWN.out


end Go.Proofs.YtplpccgbciglpaaDoor
