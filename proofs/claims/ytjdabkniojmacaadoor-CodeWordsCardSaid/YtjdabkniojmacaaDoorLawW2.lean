/-
  LwS WordG LawW1 in one.
-/
import Derived.Test.YtjdabkniojmacaaDoorLwA
import Derived.Lib.OwnBridge
import Derived.Test.YtjdabkniojmacaaDoorEarly
import Derived.Test.YtjdabkniojmacaaDoorLet3
import Derived.Test.YtjdabkniojmacaaDoorPureN
import Derived.Test.YtjdabkniojmacaaDoorTurnB
import Derived.Test.YtjdabkniojmacaaDoorVnormV
import Derived.Test.YtjdabkniojmacaaDoorLEq
import Derived.Test.YtjdabkniojmacaaDoorLawH
import Derived.Test.YtjdabkniojmacaaDoorRefX
import Derived.Test.YtjdabkniojmacaaDoorRefS
import Derived.Test.YtjdabkniojmacaaDoorDoorL
import Derived.Deep.RegionHeld3

namespace Go.Proofs.YtjdabkniojmacaaDoor.Lw
open Go.RowKit

theorem validB_rangeS {k : Int} {xs : List Int} (h : validB k xs = true) {x : Int} (hx : x ∈ xs) : 0 ≤ x ∧ x ≤ k := by
  unfold validB at h
  simp only [Bool.and_eq_true, decide_eq_true_eq, List.all_eq_true] at h
  exact h.2 x hx
theorem _root_.Go.Proofs.YtjdabkniojmacaaDoor.SL.offc {w : World} {b off m : Nat} {xs : List Int} (h : SL w (some ⟨b, off, none⟩) m xs) {k : Nat} (hk : k ≤ m) : SL w (some ⟨b, off + k, none⟩) (m - k) (xs.drop k) := by
  refine ⟨by rw [List.length_drop, h.1], fun hn => ?_⟩
  obtain ⟨b', off', hA, hb, hcell⟩ := h.2 (by omega)
  injection hA with hA
  injection hA with e1 e2
  subst e1; subst e2
  refine ⟨b, off + k, rfl, hb, fun j hj => ?_⟩
  rw [List.getElem?_drop, Nat.add_assoc]
  exact hcell (k + j) (by omega)

def mirrorL (k : Int) (xs : List Int) : List Int := xs.map fun x => k - x
theorem mirror_fill (k : Int) (xs : List Int) : (List.range xs.length).map (fun i => k - xs.getD i 0) = mirrorL k xs := by
  apply List.ext_getElem
  · simp [mirrorL]
  · intro i h1 h2
    have hi : i < xs.length := by simpa using h1
    simp [mirrorL, hi]

set_option maxHeartbeats 1000000 in
theorem mirror_calls (k : Int) (A : Option Addr) (n cap : Nat) (xs : List Int) (w : World) (h : SL w A n xs) (hn : n ≤ maxLen) :
    Calls Tryd.prog 49 #[.int .i64 k, .slice A n cap] w (ErrPost w (errB k xs) (mirrorL k xs)) := by
  have HL := Lib.hid h.1
  have HC := Lib.hid (check_calls k A n cap xs w h hn)
  by_cases he : errB k xs = 0
  · have h4 := errB_ok h.1 he
    have HE := Lib.hid he
    have HV := Lib.hid h4.1
    have n4 := h4.2.1
    have k0 := h4.2.2.2.1
    have k4 := h4.2.2.2.2
    clear he h4
    go_enter Tryd.func49, Tryd.ntmps49
    go_wp2_with (first
      | (go_at_call 81; refine HC.out.mono ?_; rw [HE.out]; rintro e w' ⟨rfl, rfl⟩)
      | (at_make; refine wpList_make_ints rfl _ _ rfl n rfl rfl (by omega) ?_; intro w1 hown1 hb1))
    go_loopw [21] (fun i wr => FillRel (fun i => k - xs.getD i 0) n w w.heap.size w.heap.size i wr) (fun i _ => n - (intOf i).toNat)
    case atStart => exact ⟨0, Nat.zero_le _, rfl, by rw [fillL_zero]; exact hown1, hb1⟩
    case round =>
      obtain ⟨j, hj, rfl, hown, hb⟩ := hrel
      have HOWN := Lib.hid hown
      clear hown1 hown
      by_cases hlt : j < n
      · obtain ⟨b, off, x, rfl, _, hx, hc⟩ := (h.below hb).at_ hlt
        have hxr := validB_rangeS HV.out (List.mem_of_getElem? hx)
        obtain ⟨x0, x1⟩ := hxr
        have hgx : xs.getD j 0 = x := by rw [List.getD_eq_getElem?_getD, hx]; rfl
        obtain ⟨y, hy, hyc, hyf, hyg⟩ := HOWN.out.cell (k := j) hlt
        have HREL : Hid (FillRel (fun i => k - xs.getD i 0) n w w.heap.size w.heap.size (.int .i64 ((j : Int) + 1)) (wr.setCell ⟨w.heap.size, j, none⟩ (.int .i64 (k - x)))) :=
          ⟨j + 1, by omega, by rw [Int.natCast_add]; rfl, by rw [← fillL_set, hgx]; exact HOWN.out.set hlt _, hb.setCell (p := ⟨w.heap.size, j, none⟩) hyg _⟩
        clear hx hgx hy
        go_wp2_with fail
        go_roundw
        case rel => exact HREL.out
        case measure => simp [intOf]; omega
      · obtain rfl : j = n := by omega
        go_wp2_with fail
        go_ret2
        refine ErrPost.ok HE.out ?_ hb
        have e := HOWN.out
        rw [fillL_full] at e
        have e2 := mirror_fill k xs
        rw [HL.out] at e2
        rw [← e2]
        exact e
  · have hne : (errB k xs != 0) = true := by rw [bne_iff_ne]; exact he
    have HN := Lib.hid he
    clear he
    go_enter Tryd.func49, Tryd.ntmps49
    go_wp2_with (go_at_call 81; refine HC.out.mono ?_; rintro e w' ⟨rfl, rfl⟩)
    go_ret2
    exact ErrPost.err HN.out (Below.refl _ _)

/-- Concat of a slice but for its first integer, and of that one. -/
theorem concat_turn {w : World} {b off n cap : Nat} {xs : List Int} (h : SL w (some ⟨b, off, none⟩) n xs) (hn : 2 ≤ n) (hm : n ≤ 400) :
    Calls Tryd.prog 86 #[.slice (some ⟨w.heap.size, 0, none⟩) 2 2] (w.drew.alloc (.cells #[.slice (some ⟨b, off + 1, none⟩) (n - 1) (cap - 1), .slice (some ⟨b, off, none⟩) 1 cap] 35))
      fun e w' => ∃ v, e = .returned v ∧ OwnI w' w.heap.size v (xs.drop 1 ++ xs.take 1) ∧ Below w.heap.size w w' := by
  have h1 := h.drew.offc (k := 1) (by omega)
  have h2 := h.drew.take_ (k := 1) (by omega)
  refine (concat2_calls w.heap.size 2 ⟨b, off + 1, none⟩ ⟨b, off, none⟩ (n - 1) (cap - 1) 1 cap _ _ _ (h1.alloc _) (h2.alloc _) (by omega) (by omega) ?_ ?_).mono ?_
  · exact (Lib.cell_of_heap (heap_alloc_new w.drew _) 0).trans rfl
  · exact (Lib.cell_of_heap (heap_alloc_new w.drew _) 1).trans rfl
  · rintro e w' ⟨v, rfl, ho, hb⟩
    exact ⟨v, rfl, ho.mono (by simp), ((Below.refl w.heap.size w).drew.alloc (Nat.le_refl _) _).trans (hb.mono (by simp))⟩

set_option maxHeartbeats 1000000 in
set_option maxRecDepth 100000 in
theorem turn_calls (A : Option Addr) (n cap : Nat) (xs : List Int) (w : World) (h : SL w A n xs) (hn : n ≤ maxLen) (hnc : n ≤ cap) :
    Calls Tryd.prog 50 #[.slice A n cap] w (ErrPost w (errB 40 xs) (Ln.rot1 xs)) := by
  have HL := Lib.hid h.1
  have HC := Lib.hid (check_calls 40 A n cap xs w h hn)
  by_cases he : errB 40 xs = 0
  · have h4 := errB_ok h.1 he
    have HE := Lib.hid he
    have n4 := h4.2.1
    have n2 := h4.2.2.1
    have HN2 := Lib.hid n2
    clear he h4
    by_cases h0 : n = 0
    · have hx : xs = [] := List.eq_nil_of_length_eq_zero (by rw [HL.out]; exact h0)
      have HX := Lib.hid hx
      have hnb : ((n : Int) == 0) = true := by rw [beq_iff_eq]; omega
      clear n2 h0 hx
      go_enter Tryd.func50, Tryd.ntmps50
      go_wp2_with (go_at_call 81; refine HC.out.mono ?_; rw [HE.out]; rintro e w' ⟨rfl, rfl⟩)
      go_ret2
      refine ErrPost.ok HE.out ?_ (Below.refl _ _)
      rw [HX.out]
      exact World.ownsRow_nil _ _ _ _
    · have hnb : ((n : Int) == 0) = false := by rw [beq_eq_false_iff_ne]; omega
      have h2 : 2 ≤ n := by omega
      obtain ⟨b, off, _, rfl, _, _, _⟩ := h.at_ (k := 0) (by omega)
      have HCT := Lib.hid (concat_turn (cap := cap) h h2 n4)
      have hc1 : ¬ cap = 1 := by omega
      have h1n : (1 : Int) ≤ n := by omega
      have h1c : (1 : Int) ≤ cap := by omega
      clear n2 h0
      go_enter Tryd.func50, Tryd.ntmps50
      go_wp2_with (go_at_call 81; refine HC.out.mono ?_; rw [HE.out]; rintro e w' ⟨rfl, rfl⟩)
      go_region_with (refine HCT.out.mono ?_; rintro e w9 ⟨v9, rfl, hown9, hb9⟩)
      all_goals go_wp2_with fail
      all_goals go_ret2
      all_goals exact ErrPost.ok HE.out hown9 hb9
  · have hne : (errB 40 xs != 0) = true := by rw [bne_iff_ne]; exact he
    have HN := Lib.hid he
    clear he
    go_enter Tryd.func50, Tryd.ntmps50
    go_wp2_with (go_at_call 81; refine HC.out.mono ?_; rintro e w' ⟨rfl, rfl⟩)
    go_ret2
    exact ErrPost.err HN.out (Below.refl _ _)

/-- slices.Equal of what reads as lists. -/
theorem slicesEqual_calls (A1 A2 : Option Addr) (n c1 m c2 : Nat) (xs ys : List Int) (w : World) (h1 : SL w A1 n xs) (h2 : SL w A2 m ys) (hn : n ≤ 1000) (hm : m ≤ 1000) :
    Calls Tryd.prog 85 #[.slice A1 n c1, .slice A2 m c2] w fun e w' => e = .returned (.bool (decide (xs = ys))) ∧ Below w.heap.size w w' := by
  by_cases hnm : n = m
  · subst hnm
    rcases Nat.eq_zero_or_pos n with h0 | hp
    · subst h0
      refine (Tryd.slices_Equal_int_empty A1 A2 c1 0 c2 w (by omega)).mono ?_
      rintro e w' ⟨rfl, rfl⟩
      have e1 : xs = [] := List.eq_nil_of_length_eq_zero h1.1
      have e2 : ys = [] := List.eq_nil_of_length_eq_zero h2.1
      subst e1; subst e2
      exact ⟨rfl, Below.refl _ _⟩
    · obtain ⟨b1, o1, rfl, _, d1⟩ := h1.2 hp
      obtain ⟨b2, o2, rfl, _, d2⟩ := h2.2 hp
      have l1 := h1.1
      have l2 := h2.1
      refine (Tryd.slices_Equal_int b1 o1 n c1 b2 o2 n c2 xs ys w (by omega) (by omega) (by omega) (by omega) (fun j hj => by rw [List.getD_eq_getElem?_getD]; exact d1 j (by omega)) (fun j hj => by rw [List.getD_eq_getElem?_getD]; exact d2 j (by omega))).mono ?_
      rintro e w' ⟨rfl, q, rfl⟩
      refine ⟨?_, below_drewN (Below.refl _ _) _⟩
      rw [List.take_of_length_le (by omega), List.take_of_length_le (by omega)]
      congr 2
      rw [Bool.eq_iff_iff]; simp
  · refine (Tryd.slices_Equal_int_lens A1 A2 n c1 m c2 w hnm).mono ?_
    rintro e w' ⟨rfl, rfl⟩
    refine ⟨?_, Below.refl _ _⟩
    have : ¬ xs = ys := fun e => hnm (by rw [← h1.1, ← h2.1, e])
    rw [decide_eq_false this]

def sameErr (a b : List Int) : Int := if errB 40 a = 0 then errB 40 b else errB 40 a
def sameB (a b : List Int) : Bool := if errB 40 a = 0 ∧ errB 40 b = 0 then decide (Ln.normal a = Ln.normal b) else false

set_option maxHeartbeats 1000000 in
theorem same_calls (A1 A2 : Option Addr) (n c1 m c2 : Nat) (xs ys : List Int) (w : World) (h1 : SL w A1 n xs) (h2 : SL w A2 m ys) (hn : n ≤ maxLen) (hm : m ≤ maxLen) :
    Calls Tryd.prog 48 #[.slice A1 n c1, .slice A2 m c2] w fun e w' => e = .returned (.tuple #[.bool (sameB xs ys), .int .i64 (sameErr xs ys)]) ∧ Below w.heap.size w w' := by
  have HN1 := Lib.hid (normal_calls A1 n c1 xs w h1 hn)
  by_cases he : errB 40 xs = 0
  · have HK1 := Lib.hid (HN1.out.mono fun e w' h => ErrPost.get_ok he rfl h)
    have hl1 := (Ln.length_normal xs).2
    have hv1 := (errB_ok h1.1 he).2.1
    have hle1 : (Ln.normal xs).length ≤ 1000 := by have := h1.1; omega
    have HE := Lib.hid he
    by_cases hf : errB 40 ys = 0
    · have hl2 := (Ln.length_normal ys).2
      have hv2 := (errB_ok h2.1 hf).2.1
      have hle2 : (Ln.normal ys).length ≤ 1000 := by have := h2.1; omega
      have HF := Lib.hid hf
      have HS : Hid (sameB xs ys = decide (Ln.normal xs = Ln.normal ys) ∧ sameErr xs ys = 0) := by unfold Hid sameB sameErr; simp [he, hf]
      clear he hf hl1 hl2
      go_enter Tryd.func48, Tryd.ntmps48
      go_wp2_with fail
      refine HK1.out.mono ?_
      rintro e w1 ⟨B1, d1, rfl, hown1, _, hb1⟩
      have hs1 := hown1.sl
      have HN2 := Lib.hid ((normal_calls A2 m c2 ys w1 (h2.below hb1) hm).mono fun e w' h => ErrPost.get_ok HF.out rfl h)
      clear hown1
      go_wp2_with fail
      refine HN2.out.mono ?_
      rintro e w2 ⟨B2, d2, rfl, hown2, _, hb2⟩
      have hb12 : Below w.heap.size w w2 := hb1.trans (hb2.mono hb1.size)
      have HQ := Lib.hid (slicesEqual_calls B1 B2 _ d1 _ d2 (Ln.normal xs) (Ln.normal ys) w2 (hs1.below hb2) hown2.sl hle1 hle2)
      clear hown2 hs1
      go_wp2_with fail
      refine HQ.out.mono ?_
      rintro e w3 ⟨rfl, hb3⟩
      go_wp2_with fail
      go_ret2
      rw [HS.out.1, HS.out.2]
      exact ⟨rfl, hb12.trans (hb3.mono hb12.size)⟩
    · have hne : (errB 40 ys != 0) = true := by rw [bne_iff_ne]; exact hf
      have HF := Lib.hid hf
      have HS : Hid (sameB xs ys = false ∧ sameErr xs ys = errB 40 ys) := by unfold Hid sameB sameErr; simp [he, hf]
      clear he hf
      go_enter Tryd.func48, Tryd.ntmps48
      go_wp2_with fail
      refine HK1.out.mono ?_
      rintro e w1 ⟨B1, d1, rfl, hown1, _, hb1⟩
      have HN2 := Lib.hid ((normal_calls A2 m c2 ys w1 (h2.below hb1) hm).mono fun e w' h => ErrPost.get_err HF.out h)
      clear hown1
      go_wp2_with fail
      refine HN2.out.mono ?_
      rintro e w2 ⟨B2, d2, rfl, hb2⟩
      go_wp2_with fail
      go_ret2
      rw [HS.out.1, HS.out.2]
      exact ⟨rfl, hb1.trans (hb2.mono hb1.size)⟩
  · have hne : (errB 40 xs != 0) = true := by rw [bne_iff_ne]; exact he
    have HK1 := Lib.hid (HN1.out.mono fun e w' h => ErrPost.get_err he h)
    have HS : Hid (sameB xs ys = false ∧ sameErr xs ys = errB 40 xs) := by unfold Hid sameB sameErr; simp [he]
    clear he
    go_enter Tryd.func48, Tryd.ntmps48
    go_wp2_with fail
    refine HK1.out.mono ?_
    rintro e w1 ⟨B1, d1, rfl, hb1⟩
    go_wp2_with fail
    go_ret2
    rw [HS.out.1, HS.out.2]
    exact ⟨rfl, hb1⟩

end Go.Proofs.YtjdabkniojmacaaDoor.Lw

namespace Go.Proofs.YtjdabkniojmacaaDoor
open Go.RowKit

def wordG (ls : List Lt) : List Int := (ls.filter isPass).map (·.gate)
theorem wordG_app (xs ys : List Lt) : wordG (xs ++ ys) = wordG xs ++ wordG ys := by simp [wordG]
theorem wordG_succ {ls : List Lt} {j : Nat} {l : Lt} (h : ls[j]? = some l) : wordG (ls.take (j + 1)) = wordG (ls.take j) ++ (if l.kind = 1 then [l.gate] else []) := by
  rw [List.take_add_one, h, wordG_app]
  congr 1
  by_cases k : l.kind = 1
  · simp [wordG, isPass, k]
  · simp [wordG, isPass, k]
theorem wordG_len (ls : List Lt) : (wordG ls).length ≤ ls.length := by
  unfold wordG
  rw [List.length_map]
  exact List.length_filter_le _ _
theorem heap_ltW {w : World} {q : Nat} {o : Obj} (h : w.heap[q]? = some o) : q < w.heap.size := by
  rcases Nat.lt_or_ge q w.heap.size with c | c
  · exact c
  · rw [Array.getElem?_eq_none c] at h; cases h
theorem SL.oneW (w : World) (x : Int) (T : TypeId) {q : Nat} (hq : q = w.heap.size) : SL (w.alloc (.cells #[.int .i64 x] T)) (some ⟨q, 0, none⟩) 1 [x] := by
  subst hq
  exact SL.one w x T
/-- What holds at the heads of Word's loop. -/
def WgRel (ls : List Lt) (n : Nat) (w : World) (v iv : Value) (wr : World) : Prop :=
  ∃ j : Nat, j ≤ n ∧ iv = .int .i64 (j : Int) ∧ Lw.OwnI wr w.heap.size v (wordG (ls.take j)) ∧ Below w.heap.size w wr

set_option maxHeartbeats 4000000 in
set_option maxRecDepth 100000 in
theorem codeWord_calls (f : Int) (A : Option Addr) (n c : Nat) (ls : List Lt) (w : World) (hL : LS w A n ls) (hn : n ≤ 1000) (hC : ChkAt f A n c 0 w) :
    Calls Tryd.prog 43 #[.agg #[.int .i64 f, .slice A n c]] w fun e w' => ∃ v, e = .returned (.tuple #[v, .int .i64 0]) ∧ Lw.OwnI w' w.heap.size v (wordG ls) ∧ Below w.heap.size w w' := by
  have HCK := Lib.hid hC
  have HLL := Lib.hid hL
  clear hL hC
  go_enter Tryd.func43, Tryd.ntmps43
  go_wp2_with fail
  obtain ⟨W0, hW0⟩ : ∃ W0, W0 = w.alloc (.cells #[.int .i64 f, .slice A n c] 24) := ⟨_, rfl⟩
  have HB0 : Hid (Below w.heap.size w W0) := by rw [hW0]; exact (Below.refl _ _).alloc (Nat.le_refl _) _
  have HP0 : Hid (W0.heap[w.heap.size]? = some (.cells #[.int .i64 f, .slice A n c] 24 (0, 0))) := by rw [hW0]; exact heap_alloc_new w _
  rw [← hW0]
  clear hW0
  refine (HCK.out _ HB0.out).mono ?_
  rintro e w1 ⟨rfl, hb⟩
  have HB1 : Hid (Below w.heap.size w w1) := HB0.out.trans (hb.mono HB0.out.size)
  have HP1 : Hid (w1.heap[w.heap.size]? = some (.cells #[.int .i64 f, .slice A n c] 24 (0, 0))) := (hb.block _ (heap_ltW HP0.out)).trans HP0.out
  clear hb HB0 HP0
  have a0 := Lib.cell_of_heap HP1.out 0
  have a1 := Lib.cell_of_heap HP1.out 1
  go_wp2_with fail
  have HST : Hid (WgRel ls n w (.slice none 0 0) (.int .i64 0) w1) := ⟨0, Nat.zero_le _, rfl, by simp [wordG]; exact World.ownsRow_nil _ _ _ _, HB1.out⟩
  clear a0 a1
  go_loopw [5, 16] (fun v iv wr => WgRel ls n w v iv wr) (fun _ iv _ => n - (intOf iv).toNat)
  case atStart => exact HST.out
  case round =>
    obtain ⟨j, hj, rfl, hown, hb⟩ := hrel
    have HOWN := Lib.hid hown
    have HB := Lib.hid hb
    have hws := hb.size
    obtain ⟨A5, c5, rfl, hcc, hgg⟩ := hown.form
    clear hcc hgg hown
    by_cases hlt : j < n
    · obtain ⟨b, off, l, rfl, hbl, hl, c0, c1, c2, c3, c4, c5⟩ := (HLL.out.below hb).at_ hlt
      have hj1 : (j : Int) < n := by omega
      have HS := Lib.hid (wordG_succ hl)
      have hwl : (wordG (ls.take j)).length ≤ 1000 := by
        have h1 := wordG_len (ls.take j)
        rw [List.length_take] at h1
        omega
      have HWL := Lib.hid hwl
      clear hl hb hbl hwl
      by_cases hk : l.kind = 1
      · have hke : (l.kind == 1) = true := by rw [beq_iff_eq]; exact hk
        have HK := Lib.hid hk
        clear hk
        go_wp2_with (at_builtin; refine Lw.wpList_append_ints rfl _ _ rfl w.heap.size _ (wordG (ls.take j)) rfl (Lw.OwnI.below HOWN.out ?cb) ⟨_, 0, none⟩ 1 1 [l.gate] rfl ?c0 ?c1 ?c2 ?_)
        case cb => exact ((Below.refl _ _).alloc (Nat.le_refl _) _).alloc (by simp) _
        case c0 => exact SL.oneW _ _ _ (by simp)
        case c1 => have := HWL.out; show (wordG (ls.take j)).length + 1 ≤ 1000000; omega
        case c2 => simp; omega
        intro v' w' hown' hg _
        have hbl2 : Below wr.heap.size wr (wr.alloc _) := (Below.refl _ _).alloc (Nat.le_refl _) (.cells #[.int .i64 l.kind, .int .i64 l.gate, .int .i64 l.rank, .int .i64 l.id, .int .i64 l.sign, .bool l.over] 48)
        have hb3 := hbl2.alloc (by simp) (.cells #[.int .i64 l.gate] 3)
        have h9 := Lib.hid (Lw.grown_below (HB.out.trans (hb3.mono HB.out.size)) (HOWN.out.below hb3) hg)
        have HO9 : Hid (Lw.OwnI w' w.heap.size v' (wordG (ls.take (j + 1)))) := by rw [HS.out, if_pos HK.out]; exact hown'
        clear hown' hg hbl2 hb3
        go_wp2_with fail
        go_roundw
        case rel => exact ⟨j + 1, by omega, by rw [Int.natCast_add]; rfl, HO9.out, h9.out⟩
        case measure => simp [intOf]; omega
      · have hke : (l.kind == 1) = false := by rw [beq_eq_false_iff_ne]; exact hk
        have HK := Lib.hid hk
        clear hk
        go_wp2_with fail
        go_roundw
        case rel =>
          have hbl2 : Below wr.heap.size wr (wr.alloc (.cells #[.int .i64 l.kind, .int .i64 l.gate, .int .i64 l.rank, .int .i64 l.id, .int .i64 l.sign, .bool l.over] 48)) := (Below.refl _ _).alloc (Nat.le_refl _) _
          exact ⟨j + 1, by omega, by rw [Int.natCast_add]; rfl, by rw [HS.out, if_neg HK.out, List.append_nil]; exact HOWN.out.below hbl2, HB.out.trans (hbl2.mono HB.out.size)⟩
        case measure => simp [intOf]; omega
    · obtain rfl : j = n := by omega
      have ht : ls.take j = ls := List.take_of_length_le (by rw [HLL.out.1]; omega)
      rw [ht] at HOWN
      go_wp2_with fail
      refine bodyPost_ret (v := .tuple #[.slice A5 (wordG (ls.take j)).length c5, .int .i64 0]) (by simp [results, Tryd.results43, go_sem]) rfl ⟨_, rfl, ?_, HB.out⟩
      rw [ht]
      exact HOWN.out

/-- The words of the images (pure). -/
theorem wordG_rev (ls : List Lt) : wordG ls.reverse = (wordG ls).reverse := by simp [wordG, List.filter_reverse]
theorem wordG_none {ls : List Lt} (h : ∀ l, l ∈ ls → l.kind ≠ 1) : wordG ls = [] := by
  unfold wordG
  rw [List.map_eq_nil_iff, List.filter_eq_nil_iff]
  intro l hl
  simp [isPass, h l hl]
theorem wordG_back {ls : List Lt} {r : Int} (h : LastP ls r) : wordG (followL ls r (-1)) = (wordG ls).reverse := by
  rcases Nat.eq_zero_or_pos ls.length with e | h0
  · obtain rfl : ls = [] := List.eq_nil_of_length_eq_zero e
    rfl
  obtain ⟨R, rfl, h1, h2, h3⟩ := h h0
  rw [← back_follow h1, wordG_app]
  have e2 : wordG (ls.reverse.take (ls.length - 1 - R)) = [] := wordG_none fun l hl => by
    obtain ⟨k, hk⟩ := List.getElem?_of_mem hl
    have hkl : k < ls.length - 1 - R := by
      rcases Nat.lt_or_ge k (ls.length - 1 - R) with q | q
      · exact q
      · rw [List.getElem?_take, if_neg (by omega)] at hk; cases hk
    rw [List.getElem?_take, if_pos hkl, List.getElem?_reverse (by omega)] at hk
    exact h3 _ l (by omega) hk
  have e3 := wordG_app (ls.reverse.take (ls.length - 1 - R)) (ls.reverse.drop (ls.length - 1 - R))
  rw [List.take_append_drop, e2, List.nil_append] at e3
  rw [e2, List.append_nil, ← e3, wordG_rev]
theorem wordG_other (ls : List Lt) : wordG (ls.map otherL) = wordG ls := by
  induction ls with
  | nil => rfl
  | cons a r ih =>
    unfold wordG at ih ⊢
    rw [List.map_cons]
    by_cases k : a.kind = 1
    · rw [List.filter_cons_of_pos (by simp [isPass, otherL, k]), List.filter_cons_of_pos (by simp [isPass, k]), List.map_cons, List.map_cons, ih]; rfl
    · rw [List.filter_cons_of_neg (by simp [isPass, otherL, k]), List.filter_cons_of_neg (by simp [isPass, k]), ih]
theorem wordG_mir {f : Int} {xs : List Lt} (ls : List Lt) : wordG (ls.map (mirL f xs)) = (wordG ls).map (fun g => f - g) := by
  induction ls with
  | nil => rfl
  | cons a r ih =>
    unfold wordG at ih ⊢
    rw [List.map_cons]
    by_cases k : a.kind = 1
    · rw [List.filter_cons_of_pos (by simp [isPass, mirL, k]), List.filter_cons_of_pos (by simp [isPass, k]), List.map_cons, List.map_cons, List.map_cons, ih]
      simp [mirL, k]
    · rw [List.filter_cons_of_neg (by simp [isPass, mirL, k]), List.filter_cons_of_neg (by simp [isPass, k]), ih]
/-- The turned code's word: the second letter first. -/
theorem wordG_turn {ls : List Lt} {r : Int} (h : NextP ls r) (h0 : 0 < ls.length) (hp : ∀ l, ls[0]? = some l → l.kind = 1) : wordG (followL (ls.map otherL) r 1) = (wordG ls).drop 1 ++ (wordG ls).take 1 := by
  obtain ⟨R, rfl, h1, h2, h3, h4⟩ := h h0
  rw [← rot_follow (by rw [List.length_map]; exact h2), ← List.map_drop, ← List.map_take, wordG_app, wordG_other, wordG_other]
  obtain ⟨a, t, rfl⟩ : ∃ a t, ls = a :: t := by
    cases ls with
    | nil => simp at h0
    | cons a t => exact ⟨a, t, rfl⟩
  have ka : a.kind = 1 := hp a rfl
  obtain ⟨q, rfl⟩ : ∃ q, R = q + 1 := ⟨R - 1, by omega⟩
  have e1 : wordG (a :: t) = a.gate :: wordG t := by simp [wordG, isPass, ka]
  have e2 : wordG (t.take q) = [] := wordG_none fun l hl => by
    obtain ⟨k, hk⟩ := List.getElem?_of_mem hl
    have hkl : k < q := by
      rcases Nat.lt_or_ge k q with c | c
      · exact c
      · rw [List.getElem?_take, if_neg (by omega)] at hk; cases hk
    rw [List.getElem?_take, if_pos hkl] at hk
    exact h4 (k + 1) l (by omega) (by omega) (by rw [List.getElem?_cons_succ]; exact hk)
  have e3 := wordG_app (t.take q) (t.drop q)
  rw [List.take_append_drop, e2, List.nil_append] at e3
  have e4 : wordG (a :: t.take q) = [a.gate] := by
    have : wordG (a :: t.take q) = a.gate :: wordG (t.take q) := by simp [wordG, isPass, ka]
    rw [this, e2]
  rw [List.drop_succ_cons, List.take_succ_cons, e4, e1, e3]
  rfl

set_option maxHeartbeats 4000000 in
set_option maxRecDepth 100000 in
theorem refWord_calls (f : Int) (A : Option Addr) (n c : Nat) (ls : List Lt) (w : World) (hL : LS w A n ls) (hn : n ≤ 1000) :
    Calls Tryd.prog 47 #[.agg #[.int .i64 f, .slice A n c]] w fun e w' => ∃ v, e = .returned v ∧ Lw.OwnI w' w.heap.size v (wordG ls) ∧ Below w.heap.size w w' := by
  have HLL := Lib.hid hL
  clear hL
  go_enter Tryd.func47, Tryd.ntmps47
  go_wp2_with fail
  obtain ⟨W0, hW0⟩ : ∃ W0, W0 = w.alloc (.cells #[.int .i64 f, .slice A n c] 24) := ⟨_, rfl⟩
  have HB0 : Hid (Below w.heap.size w W0) := by rw [hW0]; exact (Below.refl _ _).alloc (Nat.le_refl _) _
  have HP0 : Hid (W0.heap[w.heap.size]? = some (.cells #[.int .i64 f, .slice A n c] 24 (0, 0))) := by rw [hW0]; exact heap_alloc_new w _
  obtain ⟨P, hP⟩ : ∃ P, P = w.heap.size := ⟨_, rfl⟩
  have HPE := Lib.hid hP
  rw [← hP] at HP0
  rw [← hW0]
  try rw [← hP]
  clear hW0 hP
  have HPL := Lib.hid (heap_ltW HP0.out)
  have HST : Hid (WgRel ls n W0 (.slice none 0 0) (.int .i64 0) W0) := ⟨0, Nat.zero_le _, rfl, by simp [wordG]; exact World.ownsRow_nil _ _ _ _, Below.refl _ _⟩
  go_loopw [3, 4] (fun v iv wr => WgRel ls n W0 v iv wr) (fun _ iv _ => n - (intOf iv).toNat)
  case atStart => exact HST.out
  case round =>
    obtain ⟨j, hj, rfl, hown, hb⟩ := hrel
    have x1 := Lib.cell_of_heap ((hb.block P HPL.out).trans HP0.out) 1
    have HOWN := Lib.hid hown
    have HB := Lib.hid hb
    have hws := hb.size
    have HLJ := Lib.hid ((HLL.out.below HB0.out).below hb)
    obtain ⟨A5, c5, rfl, hcc, hgg⟩ := hown.form
    clear hcc hgg hown hb
    by_cases hlt : j < n
    · obtain ⟨b, off, l, rfl, hbl, hl, c0, c1, c2, c3, c4, c5⟩ := HLJ.out.at_ hlt
      have hj1 : (j : Int) < n := by omega
      have HS := Lib.hid (wordG_succ hl)
      have hwl : (wordG (ls.take j)).length ≤ 1000 := by
        have h1 := wordG_len (ls.take j)
        rw [List.length_take] at h1
        omega
      have HWL := Lib.hid hwl
      clear hl hbl hwl
      by_cases hk : l.kind = 1
      · have hke : (l.kind == 1) = true := by rw [beq_iff_eq]; exact hk
        have HK := Lib.hid hk
        clear hk
        go_wp2_with (at_builtin; refine Lw.wpList_append_ints rfl _ _ rfl W0.heap.size _ (wordG (ls.take j)) rfl (Lw.OwnI.below HOWN.out ?cb) ⟨_, 0, none⟩ 1 1 [l.gate] rfl ?c0 ?c1 ?c2 ?_)
        case cb => exact (Below.refl _ _).alloc (Nat.le_refl _) _
        case c0 => exact SL.oneW _ _ _ rfl
        case c1 => have := HWL.out; show (wordG (ls.take j)).length + 1 ≤ 1000000; omega
        case c2 => simp; omega
        intro v' w' hown' hg _
        have hb3 : Below wr.heap.size wr (wr.alloc (.cells #[.int .i64 l.gate] 3)) := (Below.refl _ _).alloc (Nat.le_refl _) _
        have h9 := Lib.hid (Lw.grown_below (HB.out.trans (hb3.mono HB.out.size)) (HOWN.out.below hb3) hg)
        have HO9 : Hid (Lw.OwnI w' W0.heap.size v' (wordG (ls.take (j + 1)))) := by rw [HS.out, if_pos HK.out]; exact hown'
        clear hown' hg hb3
        go_wp2_with fail
        go_roundw
        case rel => exact ⟨j + 1, by omega, by rw [Int.natCast_add]; rfl, HO9.out, h9.out⟩
        case measure => simp [intOf]; omega
      · have hke : (l.kind == 1) = false := by rw [beq_eq_false_iff_ne]; exact hk
        have HK := Lib.hid hk
        clear hk
        go_wp2_with fail
        go_roundw
        case rel => exact ⟨j + 1, by omega, by rw [Int.natCast_add]; rfl, by rw [HS.out, if_neg HK.out, List.append_nil]; exact HOWN.out, HB.out⟩
        case measure => simp [intOf]; omega
    · obtain rfl : j = n := by omega
      have ht : ls.take j = ls := List.take_of_length_le (by rw [HLL.out.1]; omega)
      rw [ht] at HOWN
      go_wp2_with fail
      refine bodyPost_ret (v := .slice A5 (wordG (ls.take j)).length c5) (by simp [results, Tryd.results47, go_sem]) rfl ⟨_, rfl, ?_, HB0.out.trans (HB.out.mono HB0.out.size)⟩
      rw [ht]
      exact HOWN.out.mono HB0.out.size

end Go.Proofs.YtjdabkniojmacaaDoor

namespace Go.Proofs.YtjdabkniojmacaaDoor
open Go.RowKit

theorem idsG {f : Int} {L : List Lt} (hv : checkE f L = 0) : ∀ l, l ∈ L → I64 l.id := by
  obtain ⟨st, pt, V⟩ := valid_parts hv
  intro l hl
  have h3 := V.len
  have h4 := cntK_take_le 2 L L.length
  rw [List.take_length] at h4
  rcases V.plain l hl with c | c
  · rw [c.2.1]; constructor <;> decide
  · have h1 := pair_fine V.pair l hl c.1
    constructor <;> omega
theorem chkG {f : Int} {A : Option Addr} {n c : Nat} {L : List Lt} {w : World} (hv : checkE f L = 0) (hL : LS w A n L) (hA : ∀ b off, A = some ⟨b, off, none⟩ → b < w.heap.size) : ChkAt f A n c 0 w := by
  intro W hW
  have h := check_calls f A n c L W (hL.below hW) (fun b off e => Nat.lt_of_lt_of_le (hA b off e) hW.size) (idsG hv)
  rw [hv] at h
  exact h
/-- A code with these letters, whose block is there. -/
def GrPost (f : Int) (n : Nat) (L : List Lt) (w : World) (e : Ending) (w' : World) : Prop :=
  ∃ g, e = .returned (.tuple #[.agg #[.int .i64 f, .slice (some ⟨g, 0, none⟩) n n], .int .i64 0]) ∧ LS w' (some ⟨g, 0, none⟩) n L ∧ g < w'.heap.size ∧ Below w.heap.size w w'
theorem OkL.gr {f : Int} {n : Nat} {L : List Lt} {w w' : World} {e : Ending} (hl : L.length = n) (h : OkL f n L w e w') : GrPost f n L w e w' := by
  obtain ⟨g, rfl, ho, hb⟩ := h
  unfold OwnL at ho
  rw [hl] at ho
  exact ⟨g, rfl, row_ls ho hl, (World.ownsRow.lt ho g rfl).2, hb⟩
theorem mirror_g (f : Int) (A : Option Addr) (n c : Nat) (ls : List Lt) (w : World) (hL : LS w A n ls) (hA : ∀ b off, A = some ⟨b, off, none⟩ → b < w.heap.size) (hn : n ≤ 1000) (hv : checkE f ls = 0) :
    Calls Tryd.prog 37 #[.agg #[.int .i64 f, .slice A n c]] w (GrPost f n (ls.map (mirL f ls)) w) := by
  obtain ⟨_, hf, _, hp, _⟩ := checkE_all hv
  obtain ⟨fn, rfl⟩ : ∃ fn : Nat, f = (fn : Int) := ⟨f.toNat, by omega⟩
  refine (mirror_calls fn A n c ls w hL hn (by omega) hp (fun l hl hk => (checkE_rank hv l hl hk).2) (chkG hv hL hA)).mono fun e w' h => OkL.gr ?_ h
  rw [List.length_map]; exact hL.1

theorem turn_w (f : Int) (A : Option Addr) (n c : Nat) (ls : List Lt) (w : World) (hL : LS w A n ls) (hA : ∀ b off, A = some ⟨b, off, none⟩ → b < w.heap.size) (hn : n ≤ 1000) (hv : checkE f ls = 0) :
    Calls Tryd.prog 38 #[.agg #[.int .i64 f, .slice A n c]] w fun e w' => ∃ L, checkE f L = 0 ∧ wordG L = Ln.rot1 (wordG ls) ∧ GrPost f n L w e w' := by
  refine (turn_calls' f A n c ls w hL hn (checkE_all hv).2.2.1 (chkG hv hL hA)).mono fun e w' h => ?_
  obtain ⟨r, hr, h⟩ := h
  rcases Nat.eq_zero_or_pos ls.length with e0 | h0
  · obtain rfl : ls = [] := List.eq_nil_of_length_eq_zero e0
    exact ⟨[], hv, rfl, OkL.gr hL.1 h⟩
  · obtain ⟨st, pt, V⟩ := valid_parts hv
    obtain ⟨l0, g1, g2, _⟩ := closed_first' V.closed h0
    have hw := wordG_turn hr h0 (fun l hl => by rw [g1] at hl; injection hl with hl; rw [← hl]; exact g2)
    obtain ⟨R, rfl, h1, h2, h3, h4⟩ := hr h0
    obtain ⟨l, hl⟩ : ∃ l, ls[R]? = some l := ⟨_, List.getElem?_eq_getElem h2⟩
    exact ⟨_, valid_turn hv hl (h3 l hl) (second_down ⟨l0, g1, g2⟩ h1 h2 h4), hw, OkL.gr (by rw [followL_len, List.length_map]; exact hL.1) h⟩
theorem back_w (f : Int) (A : Option Addr) (n c : Nat) (ls : List Lt) (w : World) (hL : LS w A n ls) (hA : ∀ b off, A = some ⟨b, off, none⟩ → b < w.heap.size) (hn : n ≤ 1000) (hv : checkE f ls = 0) :
    Calls Tryd.prog 31 #[.agg #[.int .i64 f, .slice A n c]] w fun e w' => ∃ L, checkE f L = 0 ∧ wordG L = (wordG ls).reverse ∧ GrPost f n L w e w' := by
  refine (back_calls f A n c ls w hL hn (checkE_all hv).2.2.1 (chkG hv hL hA)).mono fun e w' h => ?_
  obtain ⟨r, hr, h⟩ := h
  have hw := wordG_back hr
  rcases Nat.eq_zero_or_pos ls.length with e0 | h0
  · obtain rfl : ls = [] := List.eq_nil_of_length_eq_zero e0
    exact ⟨[], hv, rfl, OkL.gr hL.1 h⟩
  · obtain ⟨R, rfl, h1, h2, h3⟩ := hr h0
    obtain ⟨l, hl⟩ : ∃ l, ls[R]? = some l := ⟨_, List.getElem?_eq_getElem h1⟩
    exact ⟨_, valid_back hv hl (h2 l hl) (last_down (even_of hv h0) h1 h2 h3), hw, OkL.gr (by rw [followL_len]; exact hL.1) h⟩
theorem mirror_w (f : Int) (A : Option Addr) (n c : Nat) (ls : List Lt) (w : World) (hL : LS w A n ls) (hA : ∀ b off, A = some ⟨b, off, none⟩ → b < w.heap.size) (hn : n ≤ 1000) (hv : checkE f ls = 0) :
    Calls Tryd.prog 37 #[.agg #[.int .i64 f, .slice A n c]] w fun e w' => ∃ L, checkE f L = 0 ∧ wordG L = Lw.mirrorL f (wordG ls) ∧ GrPost f n L w e w' :=
  (mirror_g f A n c ls w hL hA hn hv).mono fun _ _ h => ⟨_, valid_mirror hv, wordG_mir ls, h⟩

/-- Words, and that there is no error. -/
def WoPost (xs : List Int) (w : World) (e : Ending) (w' : World) : Prop :=
  ∃ A c, e = .returned (.tuple #[.slice A xs.length c, .int .i64 0]) ∧ SL w' A xs.length xs ∧ xs.length ≤ c ∧ Below w.heap.size w w'
theorem word_w (f : Int) (A : Option Addr) (n c : Nat) (ls : List Lt) (w : World) (hL : LS w A n ls) (hA : ∀ b off, A = some ⟨b, off, none⟩ → b < w.heap.size) (hn : n ≤ 1000) (hv : checkE f ls = 0) :
    Calls Tryd.prog 43 #[.agg #[.int .i64 f, .slice A n c]] w (WoPost (wordG ls) w) := by
  refine (codeWord_calls f A n c ls w hL hn (chkG hv hL hA)).mono ?_
  rintro e w' ⟨v, rfl, ho, hb⟩
  obtain ⟨A', c', rfl, hc, _⟩ := ho.form
  exact ⟨A', c', rfl, ho.sl, hc, hb⟩
theorem word_valid {f : Int} {ls : List Lt} (hv : checkE f ls = 0) : Lw.validB f (wordG ls) = true ∧ Lw.validB 40 (wordG ls) = true := by
  obtain ⟨st, pt, V⟩ := valid_parts hv
  have h1 := wordG_len ls
  have h2 := V.len
  have h3 := V.fin
  have hev : (wordG ls).length % 2 = 0 := by
    rcases Nat.eq_zero_or_pos ls.length with e | h0
    · obtain rfl : ls = [] := List.eq_nil_of_length_eq_zero e
      rfl
    · have h4 := even_of hv h0
      have h5 : cntB isPass ls = ((wordG ls).length : Int) := by
        unfold wordG
        rw [List.length_map]
        clear h4 h1 h2 V hv h0
        induction ls with
        | nil => rfl
        | cons a r ih =>
          by_cases k : isPass a = true
          · rw [List.filter_cons_of_pos k]; simp [cntB, k] at ih ⊢
          · rw [List.filter_cons_of_neg k]; simp [cntB, k] at ih ⊢
      omega
  have hr : ∀ g, g ∈ wordG ls → 0 ≤ g ∧ g ≤ f := by
    intro g hg
    unfold wordG at hg
    obtain ⟨l, hl, rfl⟩ := List.mem_map.1 hg
    obtain ⟨hl, hp⟩ := List.mem_filter.1 hl
    rcases V.plain l hl with c | c
    · exact c.2.2.2.2
    · simp [isPass, c.1] at hp
  have key : ∀ k : Int, f ≤ k → k ≤ 40 → Lw.validB k (wordG ls) = true := by
    intro k h6 h7
    unfold Lw.validB
    simp only [Bool.and_eq_true, decide_eq_true_eq, List.all_eq_true]
    exact ⟨⟨⟨⟨by omega, h7⟩, by omega⟩, hev⟩, fun g hg => ⟨(hr g hg).1, by have := (hr g hg).2; omega⟩⟩
  exact ⟨key f (Int.le_refl _) h3.2, key 40 h3.2 (Int.le_refl _)⟩
theorem errW {k : Int} {xs : List Int} (h : Lw.validB k xs = true) : Lw.errB k xs = 0 := by
  have : xs.length ≤ 400 := by unfold Lw.validB at h; simp only [Bool.and_eq_true, decide_eq_true_eq] at h; exact h.1.1.2
  unfold Lw.errB
  rw [if_neg (by omega), if_pos h]
theorem same_w (A1 A2 : Option Addr) (c1 c2 n m : Nat) (f : Int) (L1 L2 : List Lt) (xs ys : List Int) (w : World) (h1 : SL w A1 n xs) (h2 : SL w A2 m ys) (hx : xs = wordG L1) (hy : ys = wordG L2) (hv1 : checkE f L1 = 0) (hv2 : checkE f L2 = 0) (hN : Ln.normal xs = Ln.normal ys) :
    Calls Tryd.prog 48 #[.slice A1 n c1, .slice A2 m c2] w fun e w' => e = .returned (.tuple #[.bool true, .int .i64 0]) ∧ Below w.heap.size w w' := by
  have e1 : Lw.errB 40 xs = 0 := by rw [hx]; exact errW (word_valid hv1).2
  have e2 : Lw.errB 40 ys = 0 := by rw [hy]; exact errW (word_valid hv2).2
  have b1 := (Lw.errB_ok h1.1 e1).2.1
  have b2 := (Lw.errB_ok h2.1 e2).2.1
  refine (Lw.same_calls A1 A2 n c1 m c2 xs ys w h1 h2 (by unfold maxLen; omega) (by unfold maxLen; omega)).mono ?_
  rintro e w' ⟨rfl, hb⟩
  refine ⟨?_, hb⟩
  unfold Lw.sameB Lw.sameErr
  rw [if_pos ⟨e1, e2⟩, if_pos e1, e2, hN, decide_eq_true rfl]
theorem turnL_w (A : Option Addr) (n c : Nat) (f : Int) (L : List Lt) (xs : List Int) (w : World) (h : SL w A n xs) (hc : n ≤ c) (hx : xs = wordG L) (hv : checkE f L = 0) :
    Calls Tryd.prog 50 #[.slice A n c] w (WoPost (Ln.rot1 xs) w) := by
  have e1 : Lw.errB 40 xs = 0 := by rw [hx]; exact errW (word_valid hv).2
  have b1 := (Lw.errB_ok h.1 e1).2.1
  refine (Lw.turn_calls A n c xs w h (by unfold maxLen; omega) hc).mono fun e w' h => ?_
  obtain ⟨A', c', rfl, ho, hc', hb⟩ := Lw.ErrPost.get_ok e1 rfl h
  exact ⟨A', c', rfl, ho.sl, hc', hb⟩
theorem mirrorL_w (A : Option Addr) (n c : Nat) (f : Int) (L : List Lt) (xs : List Int) (w : World) (h : SL w A n xs) (hx : xs = wordG L) (hv : checkE f L = 0) :
    Calls Tryd.prog 49 #[.int .i64 f, .slice A n c] w (WoPost (Lw.mirrorL f xs) w) := by
  have e1 : Lw.errB f xs = 0 := by rw [hx]; exact errW (word_valid hv).1
  have b1 := (Lw.errB_ok h.1 e1).2.1
  refine (Lw.mirror_calls f A n c xs w h (by unfold maxLen; omega)).mono fun e w' h => ?_
  obtain ⟨A', c', rfl, ho, hc', hb⟩ := Lw.ErrPost.get_ok e1 rfl h
  exact ⟨A', c', rfl, ho.sl, hc', hb⟩

/-- Codes in their variables, with their letters. -/
def BxG (f : Int) (n : Nat) (w : World) (bs : List (Nat × Option Addr × Nat × List Lt)) (W : World) : Prop :=
  Below w.heap.size w W ∧ ∀ x, x ∈ bs → W.heap[x.1]? = some (.cells #[.int .i64 f, .slice x.2.1 n x.2.2.1] 24 (0, 0)) ∧ LS W x.2.1 n x.2.2.2 ∧ ∀ b off, x.2.1 = some ⟨b, off, none⟩ → b < W.heap.size
theorem BxG.below {f : Int} {n : Nat} {w W W' : World} {bs : List (Nat × Option Addr × Nat × List Lt)} (h : BxG f n w bs W) (hb : Below W.heap.size W W') : BxG f n w bs W' :=
  ⟨h.1.trans (hb.mono h.1.size), fun x hx => ⟨(hb.block _ (heap_lt (h.2 x hx).1)).trans (h.2 x hx).1, (h.2 x hx).2.1.below hb, fun b off e => Nat.lt_of_lt_of_le ((h.2 x hx).2.2 b off e) hb.size⟩⟩
theorem BxG.add {f : Int} {n : Nat} {w W : World} {bs : List (Nat × Option Addr × Nat × List Lt)} (h : BxG f n w bs W) (A : Option Addr) (c : Nat) (L : List Lt) (hL : LS W A n L) (hA : ∀ b off, A = some ⟨b, off, none⟩ → b < W.heap.size) :
    BxG f n w ((W.heap.size, A, c, L) :: bs) (W.alloc (.cells #[.int .i64 f, .slice A n c] 24)) := by
  have hb : Below W.heap.size W (W.alloc (.cells #[.int .i64 f, .slice A n c] 24)) := (Below.refl _ _).alloc (Nat.le_refl _) _
  obtain ⟨h1, h2⟩ := h.below hb
  refine ⟨h1, fun x hx => ?_⟩
  rcases List.mem_cons.1 hx with rfl | hx
  · exact ⟨heap_alloc_new W _, hL.below hb, fun b off e => Nat.lt_of_lt_of_le (hA b off e) hb.size⟩
  · exact h2 x hx

/-- Codes in their variables, and words. -/
def BxW (f : Int) (n : Nat) (w : World) (bs : List (Nat × Option Addr × Nat × List Lt)) (ws : List (Option Addr × List Int)) (W : World) : Prop :=
  BxG f n w bs W ∧ ∀ y, y ∈ ws → SL W y.1 y.2.length y.2
theorem BxW.below {f : Int} {n : Nat} {w W W' : World} {bs : List (Nat × Option Addr × Nat × List Lt)} {ws : List (Option Addr × List Int)} (h : BxW f n w bs ws W) (hb : Below W.heap.size W W') : BxW f n w bs ws W' :=
  ⟨h.1.below hb, fun y hy => (h.2 y hy).below hb⟩
theorem BxW.add {f : Int} {n : Nat} {w W : World} {bs : List (Nat × Option Addr × Nat × List Lt)} {ws : List (Option Addr × List Int)} (h : BxW f n w bs ws W) (A : Option Addr) (c : Nat) (L : List Lt) (hL : LS W A n L) (hA : ∀ b off, A = some ⟨b, off, none⟩ → b < W.heap.size) :
    BxW f n w ((W.heap.size, A, c, L) :: bs) ws (W.alloc (.cells #[.int .i64 f, .slice A n c] 24)) :=
  ⟨h.1.add A c L hL hA, fun y hy => (h.2 y hy).below ((Below.refl _ _).alloc (Nat.le_refl _) _)⟩
theorem BxW.word {f : Int} {n : Nat} {w W : World} {bs : List (Nat × Option Addr × Nat × List Lt)} {ws : List (Option Addr × List Int)} (h : BxW f n w bs ws W) (A : Option Addr) (xs : List Int) (hs : SL W A xs.length xs) : BxW f n w bs ((A, xs) :: ws) W :=
  ⟨h.1, fun y hy => by
    rcases List.mem_cons.1 hy with rfl | hy
    · exact hs
    · exact h.2 y hy⟩

set_option maxHeartbeats 16000000 in
set_option maxRecDepth 100000 in
theorem codeWords_main (f : Int) (A : Option Addr) (n c : Nat) (ls : List Lt) (w : World) (hn60 : n ≤ 60) (hL : LS w A n ls) (hv : checkE f ls = 0) (hA : ∀ b off, A = some ⟨b, off, none⟩ → b < w.heap.size)
    (hRC : ∀ W, Below w.heap.size w W → Calls Tryd.prog 13 #[.agg #[.int .i64 f, .slice A n c]] W fun e w' => e = .returned (.int .i64 0) ∧ Below W.heap.size W w')
    (hT : ItoaAll w) :
    Calls Tryd.prog 10 #[.agg #[.int .i64 f, .slice A n c]] w fun e w' => e = .returned (.bool true) ∧ Below w.heap.size w w' := by
  have HRC := Lib.hid hRC
  have HT := Lib.hid hT
  have HVc := Lib.hid hv
  have hle : n ≤ 1000000 := by omega
  have hn1 : n ≤ 1000 := by omega
  have HKN : Hid (∀ W, Below w.heap.size w W → Calls Tryd.prog 14 #[] W fun e w' => e = .returned (.bool true) ∧ Below W.heap.size W w') := fun W hW => known_calls W (HT.out.below hW)
  have t1 : decide ((n : Int) ≤ 60) = true := by rw [decide_eq_true_iff]; omega
  have HSM := Lib.hid (fun W => small_calls f A n c true W t1)
  have HLA := Lib.hid (And.intro hL hA)
  clear hRC hT hn60 hL hA hv
  go_enter Tryd.func10, Tryd.ntmps10
  go_wp2_with fail
  obtain ⟨W0, hW0⟩ : ∃ W0, W0 = w.alloc (.cells #[.int .i64 f, .slice A n c] 24) := ⟨_, rfl⟩
  obtain ⟨P, hP⟩ : ∃ P, P = w.heap.size := ⟨_, rfl⟩
  have HB0 : Hid (Below w.heap.size w W0) := by rw [hW0]; exact (Below.refl _ _).alloc (Nat.le_refl _) _
  have HP0 : Hid (W0.heap[P]? = some (.cells #[.int .i64 f, .slice A n c] 24 (0, 0))) := by rw [hW0, hP]; exact heap_alloc_new w _
  rw [← hW0, ← hP]
  clear hW0 hP
  refine (HSM.out _).mono ?_
  rintro e w1 ⟨rfl, hb⟩
  have HB1 : Hid (Below w.heap.size w w1) := HB0.out.trans (hb.mono HB0.out.size)
  have HP1 : Hid (w1.heap[P]? = some (.cells #[.int .i64 f, .slice A n c] 24 (0, 0))) := (hb.block P (heap_lt HP0.out)).trans HP0.out
  clear hb HB0 HP0
  have a0 := Lib.cell_of_heap HP1.out 0
  have a1 := Lib.cell_of_heap HP1.out 1
  go_wp2_with fail
  refine (HRC.out _ HB1.out).mono ?_
  rintro e U0 ⟨rfl, hb⟩
  have HB2 : Hid (Below w.heap.size w U0) := HB1.out.trans (hb.mono HB1.out.size)
  have HP2 : Hid (U0.heap[P]? = some (.cells #[.int .i64 f, .slice A n c] 24 (0, 0))) := (hb.block P (heap_lt HP1.out)).trans HP1.out
  have HZ0 : Hid (BxW f n w [(P, A, c, ls)] [] U0) := by
    refine ⟨⟨HB2.out, fun x hx => ?_⟩, fun y hy => by cases hy⟩
    rw [List.mem_singleton] at hx
    subst hx
    exact ⟨HP2.out, HLA.out.1.below HB2.out, fun b off e => Nat.lt_of_lt_of_le (HLA.out.2 b off e) HB2.out.size⟩
  clear hb HB1 HP1 a0 a1 HB2 HP2 HLA
  have a0 := Lib.cell_of_heap (HZ0.out.1.2 (P, A, c, ls) (.head _)).1 0
  have a1 := Lib.cell_of_heap (HZ0.out.1.2 (P, A, c, ls) (.head _)).1 1
  go_wp2_with fail
  refine (word_w f (A) n (c) ls U0 (HZ0.out.1.2 (P, A, c, ls) (.head _)).2.1 (HZ0.out.1.2 (P, A, c, ls) (.head _)).2.2 hn1 HVc.out).mono ?_
  rintro e U1 ⟨Aw, cw, rfl, hs, hcp, hb⟩
  obtain ⟨xw, hx⟩ : ∃ Y, Y = wordG ls := ⟨_, rfl⟩
  rw [← hx] at hs hcp ⊢
  have HXw := Lib.hid hx
  have HCw := Lib.hid hcp
  have HZ1 := Lib.hid ((HZ0.out.below hb).word Aw xw hs)
  clear hs hcp hx hb HZ0 a0 a1
  have a0 := Lib.cell_of_heap (HZ1.out.1.2 (P, A, c, ls) (.head _)).1 0
  have a1 := Lib.cell_of_heap (HZ1.out.1.2 (P, A, c, ls) (.head _)).1 1
  go_wp2_with fail
  refine (refWord_calls f A n c ls U1 (HZ1.out.1.2 (P, A, c, ls) (.head _)).2.1 hn1).mono ?_
  rintro e U2 ⟨vr, rfl, ho, hb⟩
  obtain ⟨Ar, cr, rfl, _, _⟩ := ho.form
  have hs := ho.sl
  rw [← HXw.out] at hs ⊢
  have HZ2 := Lib.hid ((HZ1.out.below hb).word Ar xw hs)
  clear hs ho hb HZ1 a0 a1
  go_wp2_with fail
  have hml : xw.length ≤ maxLen := by rw [HXw.out]; have h8 := wordG_len ls; have h9 : ls.length = n := (HZ2.out.1.2 (P, A, c, ls) (.head _)).2.1.1; unfold maxLen; omega
  refine (equalI_calls Aw Ar xw.length cw xw.length cr xw xw U2 (HZ2.out.2 (Aw, xw) (.tail _ (.head _))) (HZ2.out.2 (Ar, xw) (.head _)) hml).mono ?_
  rintro e U3 ⟨rfl, hb⟩
  rw [decide_eq_true rfl]
  have HZ3 := Lib.hid (HZ2.out.below hb)
  clear hb HZ2
  have a0 := Lib.cell_of_heap (HZ3.out.1.2 (P, A, c, ls) (.head _)).1 0
  have a1 := Lib.cell_of_heap (HZ3.out.1.2 (P, A, c, ls) (.head _)).1 1
  go_wp2_with fail
  refine (back_w f A n c ls U3 (HZ3.out.1.2 (P, A, c, ls) (.head _)).2.1 (HZ3.out.1.2 (P, A, c, ls) (.head _)).2.2 hn1 HVc.out).mono ?_
  rintro e u4 ⟨Lb, hvx, hwx, g4, rfl, hls, hg, hb⟩
  have HVb := Lib.hid hvx
  have HEb := Lib.hid hwx
  obtain ⟨X4, hX⟩ : ∃ B, B = u4.heap.size := ⟨_, rfl⟩
  obtain ⟨U4, hU⟩ : ∃ V, V = u4.alloc (.cells #[.int .i64 f, .slice (some ⟨g4, 0, none⟩) n n] 24) := ⟨_, rfl⟩
  have HZ4 := Lib.hid ((HZ3.out.below hb).add (some ⟨g4, 0, none⟩) n Lb hls (fun b off e => by cases e; exact hg))
  rw [← hU, ← hX] at HZ4
  have HUE4 := Lib.hid hU
  have HXE4 := Lib.hid hX
  clear a0 a1
  have a0 := Lib.cell_of_heap (HZ4.out.1.2 (P, A, c, ls) (.tail _ (.head _))).1 0
  have a1 := Lib.cell_of_heap (HZ4.out.1.2 (P, A, c, ls) (.tail _ (.head _))).1 1
  rw [hU] at a0 a1
  clear hls hg hb hvx hwx HZ3 hU hX
  go_wp2_with fail
  rw [← HXE4.out, ← HUE4.out]
  refine (mirror_w f A n c ls U4 (HZ4.out.1.2 (P, A, c, ls) (.tail _ (.head _))).2.1 (HZ4.out.1.2 (P, A, c, ls) (.tail _ (.head _))).2.2 hn1 HVc.out).mono ?_
  rintro e u5 ⟨Lm, hvx, hwx, g5, rfl, hls, hg, hb⟩
  have HVm := Lib.hid hvx
  have HEm := Lib.hid hwx
  obtain ⟨X5, hX⟩ : ∃ B, B = u5.heap.size := ⟨_, rfl⟩
  obtain ⟨U5, hU⟩ : ∃ V, V = u5.alloc (.cells #[.int .i64 f, .slice (some ⟨g5, 0, none⟩) n n] 24) := ⟨_, rfl⟩
  have HZ5 := Lib.hid ((HZ4.out.below hb).add (some ⟨g5, 0, none⟩) n Lm hls (fun b off e => by cases e; exact hg))
  rw [← hU, ← hX] at HZ5
  have HUE5 := Lib.hid hU
  have HXE5 := Lib.hid hX
  clear a0 a1
  have a0 := Lib.cell_of_heap (HZ5.out.1.2 (P, A, c, ls) (.tail _ (.tail _ (.head _)))).1 0
  have a1 := Lib.cell_of_heap (HZ5.out.1.2 (P, A, c, ls) (.tail _ (.tail _ (.head _)))).1 1
  rw [hU] at a0 a1
  clear hls hg hb hvx hwx HZ4 hU hX
  go_wp2_with fail
  rw [← HXE5.out, ← HUE5.out]
  refine (turn_w f A n c ls U5 (HZ5.out.1.2 (P, A, c, ls) (.tail _ (.tail _ (.head _)))).2.1 (HZ5.out.1.2 (P, A, c, ls) (.tail _ (.tail _ (.head _)))).2.2 hn1 HVc.out).mono ?_
  rintro e u6 ⟨Lt_, hvx, hwx, g6, rfl, hls, hg, hb⟩
  have HVt := Lib.hid hvx
  have HEt := Lib.hid hwx
  obtain ⟨X6, hX⟩ : ∃ B, B = u6.heap.size := ⟨_, rfl⟩
  obtain ⟨U6, hU⟩ : ∃ V, V = u6.alloc (.cells #[.int .i64 f, .slice (some ⟨g6, 0, none⟩) n n] 24) := ⟨_, rfl⟩
  have HZ6 := Lib.hid ((HZ5.out.below hb).add (some ⟨g6, 0, none⟩) n Lt_ hls (fun b off e => by cases e; exact hg))
  rw [← hU, ← hX] at HZ6
  have HUE6 := Lib.hid hU
  have HXE6 := Lib.hid hX
  clear a0 a1
  have a0 := Lib.cell_of_heap (HZ6.out.1.2 (X4, some ⟨g4, 0, none⟩, n, Lb) (.tail _ (.tail _ (.head _)))).1 0
  have a1 := Lib.cell_of_heap (HZ6.out.1.2 (X4, some ⟨g4, 0, none⟩, n, Lb) (.tail _ (.tail _ (.head _)))).1 1
  rw [hU] at a0 a1
  clear hls hg hb hvx hwx HZ5 hU hX
  go_wp2_with fail
  rw [← HXE6.out, ← HUE6.out]
  refine (word_w f (some ⟨g4, 0, none⟩) n (n) Lb U6 (HZ6.out.1.2 (X4, some ⟨g4, 0, none⟩, n, Lb) (.tail _ (.tail _ (.head _)))).2.1 (HZ6.out.1.2 (X4, some ⟨g4, 0, none⟩, n, Lb) (.tail _ (.tail _ (.head _)))).2.2 hn1 HVb.out).mono ?_
  rintro e U7 ⟨Awb, cwb, rfl, hs, hcp, hb⟩
  obtain ⟨xwb, hx⟩ : ∃ Y, Y = wordG Lb := ⟨_, rfl⟩
  rw [← hx] at hs hcp ⊢
  have HXwb := Lib.hid hx
  have HCwb := Lib.hid hcp
  have HZ7 := Lib.hid ((HZ6.out.below hb).word Awb xwb hs)
  clear hs hcp hx hb HZ6 a0 a1
  have a0 := Lib.cell_of_heap (HZ7.out.1.2 (X5, some ⟨g5, 0, none⟩, n, Lm) (.tail _ (.head _))).1 0
  have a1 := Lib.cell_of_heap (HZ7.out.1.2 (X5, some ⟨g5, 0, none⟩, n, Lm) (.tail _ (.head _))).1 1
  go_wp2_with fail
  refine (word_w f (some ⟨g5, 0, none⟩) n (n) Lm U7 (HZ7.out.1.2 (X5, some ⟨g5, 0, none⟩, n, Lm) (.tail _ (.head _))).2.1 (HZ7.out.1.2 (X5, some ⟨g5, 0, none⟩, n, Lm) (.tail _ (.head _))).2.2 hn1 HVm.out).mono ?_
  rintro e U8 ⟨Awm, cwm, rfl, hs, hcp, hb⟩
  obtain ⟨xwm, hx⟩ : ∃ Y, Y = wordG Lm := ⟨_, rfl⟩
  rw [← hx] at hs hcp ⊢
  have HXwm := Lib.hid hx
  have HCwm := Lib.hid hcp
  have HZ8 := Lib.hid ((HZ7.out.below hb).word Awm xwm hs)
  clear hs hcp hx hb HZ7 a0 a1
  have a0 := Lib.cell_of_heap (HZ8.out.1.2 (X6, some ⟨g6, 0, none⟩, n, Lt_) (.head _)).1 0
  have a1 := Lib.cell_of_heap (HZ8.out.1.2 (X6, some ⟨g6, 0, none⟩, n, Lt_) (.head _)).1 1
  go_wp2_with fail
  refine (word_w f (some ⟨g6, 0, none⟩) n (n) Lt_ U8 (HZ8.out.1.2 (X6, some ⟨g6, 0, none⟩, n, Lt_) (.head _)).2.1 (HZ8.out.1.2 (X6, some ⟨g6, 0, none⟩, n, Lt_) (.head _)).2.2 hn1 HVt.out).mono ?_
  rintro e U9 ⟨Awt, cwt, rfl, hs, hcp, hb⟩
  obtain ⟨xwt, hx⟩ : ∃ Y, Y = wordG Lt_ := ⟨_, rfl⟩
  rw [← hx] at hs hcp ⊢
  have HXwt := Lib.hid hx
  have HCwt := Lib.hid hcp
  have HZ9 := Lib.hid ((HZ8.out.below hb).word Awt xwt hs)
  clear hs hcp hx hb HZ8 a0 a1
  go_wp2_with fail
  refine (same_w Aw Awb cw cwb xw.length xwb.length f ls Lb xw xwb U9 (HZ9.out.2 (Aw, xw) (.tail _ (.tail _ (.tail _ (.tail _ (.head _)))))) (HZ9.out.2 (Awb, xwb) (.tail _ (.tail _ (.head _)))) HXw.out HXwb.out HVc.out HVb.out (by rw [HXwb.out, HEb.out, ← HXw.out]; exact (Ln.normal_reverse xw (by rw [HXw.out]; exact (Lw.errB_ok rfl (errW (word_valid HVc.out).2)).2.2.1)).symm)).mono ?_
  rintro e U10 ⟨rfl, hb⟩
  have HZ10 := Lib.hid (HZ9.out.below hb)
  clear hb HZ9
  have a0 := Lib.cell_of_heap (HZ10.out.1.2 (P, A, c, ls) (.tail _ (.tail _ (.tail _ (.head _))))).1 0
  have a1 := Lib.cell_of_heap (HZ10.out.1.2 (P, A, c, ls) (.tail _ (.tail _ (.tail _ (.head _))))).1 1
  go_wp2_with fail
  refine (mirrorL_w Aw xw.length cw f ls xw U10 (HZ10.out.2 (Aw, xw) (.tail _ (.tail _ (.tail _ (.tail _ (.head _)))))) HXw.out HVc.out).mono ?_
  rintro e U11 ⟨Alm, clm, rfl, hs, hcp, hb⟩
  obtain ⟨xlm, hx⟩ : ∃ Y, Y = Lw.mirrorL f xw := ⟨_, rfl⟩
  rw [← hx] at hs hcp ⊢
  have HXlm := Lib.hid hx
  have HZ11 := Lib.hid ((HZ10.out.below hb).word Alm xlm hs)
  clear hs hcp hx hb HZ10 a0 a1
  go_wp2_with fail
  refine (turnL_w Aw xw.length cw f ls xw U11 (HZ11.out.2 (Aw, xw) (.tail _ (.tail _ (.tail _ (.tail _ (.tail _ (.head _))))))) HCw.out HXw.out HVc.out).mono ?_
  rintro e U12 ⟨Alt, clt, rfl, hs, hcp, hb⟩
  obtain ⟨xlt, hx⟩ : ∃ Y, Y = Ln.rot1 xw := ⟨_, rfl⟩
  rw [← hx] at hs hcp ⊢
  have HXlt := Lib.hid hx
  have HZ12 := Lib.hid ((HZ11.out.below hb).word Alt xlt hs)
  clear hs hcp hx hb HZ11 
  go_wp2_with fail
  refine (same_w Alt Awt clt cwt xlt.length xwt.length f Lt_ Lt_ xlt xwt U12 (HZ12.out.2 (Alt, xlt) (.head _)) (HZ12.out.2 (Awt, xwt) (.tail _ (.tail _ (.head _)))) (by rw [HXlt.out, HXw.out]; exact HEt.out.symm) HXwt.out HVt.out HVt.out (by rw [HXlt.out, HXwt.out, HEt.out, HXw.out])).mono ?_
  rintro e U13 ⟨rfl, hb⟩
  have HZ13 := Lib.hid (HZ12.out.below hb)
  clear hb HZ12
  go_wp2_with fail
  have hq : xlm = xwm := by rw [HXlm.out, HXwm.out, HEm.out, HXw.out]
  have hml2 : xlm.length ≤ maxLen := by rw [hq, HXwm.out]; have h8 := wordG_len Lm; have h9 : Lm.length = n := (HZ13.out.1.2 (X5, some ⟨g5, 0, none⟩, n, Lm) (.tail _ (.head _))).2.1.1; unfold maxLen; omega
  refine (equalI_calls Alm Awm xlm.length clm xwm.length cwm xlm xwm U13 (HZ13.out.2 (Alm, xlm) (.tail _ (.head _))) (HZ13.out.2 (Awm, xwm) (.tail _ (.tail _ (.tail _ (.head _))))) hml2).mono ?_
  rintro e U14 ⟨rfl, hb⟩
  rw [decide_eq_true hq]
  have HZ14 := Lib.hid (HZ13.out.below hb)
  clear hb HZ13
  go_wp2_with fail
  refine (HKN.out _ HZ14.out.1.1).mono ?_
  rintro e v ⟨rfl, hb⟩
  have HF : Hid (Below w.heap.size w v) := HZ14.out.1.1.trans (hb.mono HZ14.out.1.1.size)
  clear hb
  go_wp2_with fail
  go_ret
  exact ⟨rfl, HF.out⟩

set_option maxHeartbeats 8000000 in
set_option maxRecDepth 100000 in
theorem codeWords_big (f : Int) (A : Option Addr) (n c : Nat)  (w : World) (hn : ¬ n ≤ 60) (hT : ItoaAll w) :
    Calls Tryd.prog 10 #[.agg #[.int .i64 f, .slice A n c]] w fun e w' => e = .returned (.bool true) ∧ Below w.heap.size w w' := by
  have HT := Lib.hid hT
  have t1 : decide ((n : Int) ≤ 60) = false := by rw [decide_eq_false_iff_not]; omega
  have HSM := Lib.hid (fun W => small_calls f A n c false W t1)
  clear hT hn
  go_enter Tryd.func10, Tryd.ntmps10
  go_wp2_with fail
  obtain ⟨W0, hW0⟩ : ∃ W0, W0 = w.alloc (.cells #[.int .i64 f, .slice A n c] 24) := ⟨_, rfl⟩
  have HB0 : Hid (Below w.heap.size w W0) := by rw [hW0]; exact (Below.refl _ _).alloc (Nat.le_refl _) _
  have HP0 : Hid (W0.heap[w.heap.size]? = some (.cells #[.int .i64 f, .slice A n c] 24 (0, 0))) := by rw [hW0]; exact heap_alloc_new w _
  rw [← hW0]
  clear hW0
  refine (HSM.out _).mono ?_
  rintro e w1 ⟨rfl, hb⟩
  have HB1 : Hid (Below w.heap.size w w1) := HB0.out.trans (hb.mono HB0.out.size)
  have HP1 : Hid (w1.heap[w.heap.size]? = some (.cells #[.int .i64 f, .slice A n c] 24 (0, 0))) := (hb.block _ (heap_lt HP0.out)).trans HP0.out
  clear hb HB0 HP0
  go_wp2_with fail
  refine (known_calls _ (HT.out.below HB1.out)).mono ?_
  rintro e w2 ⟨rfl, hb⟩
  have HB2 : Hid (Below w.heap.size w w2) := HB1.out.trans (hb.mono HB1.out.size)
  clear hb
  go_wp2_with fail
  go_ret
  exact ⟨rfl, HB2.out⟩

set_option maxHeartbeats 8000000 in
set_option maxRecDepth 100000 in
theorem codeWords_bad (f : Int) (A : Option Addr) (n c : Nat)  (ce : Int) (w : World) (hn : n ≤ 60) (hz : ce ≠ 0) (hRC : ∀ W, Below w.heap.size w W → Calls Tryd.prog 13 #[.agg #[.int .i64 f, .slice A n c]] W fun e w' => e = .returned (.int .i64 ce) ∧ Below W.heap.size W w') (hT : ItoaAll w) :
    Calls Tryd.prog 10 #[.agg #[.int .i64 f, .slice A n c]] w fun e w' => e = .returned (.bool true) ∧ Below w.heap.size w w' := by
  have HT := Lib.hid hT
  have HRC := Lib.hid hRC
  have t1 : decide ((n : Int) ≤ 60) = true := by rw [decide_eq_true_iff]; omega
  have HSM := Lib.hid (fun W => small_calls f A n c true W t1)
  have hzb : (ce != 0) = true := by simp [hz]
  clear hT hn hRC
  go_enter Tryd.func10, Tryd.ntmps10
  go_wp2_with fail
  obtain ⟨W0, hW0⟩ : ∃ W0, W0 = w.alloc (.cells #[.int .i64 f, .slice A n c] 24) := ⟨_, rfl⟩
  have HB0 : Hid (Below w.heap.size w W0) := by rw [hW0]; exact (Below.refl _ _).alloc (Nat.le_refl _) _
  have HP0 : Hid (W0.heap[w.heap.size]? = some (.cells #[.int .i64 f, .slice A n c] 24 (0, 0))) := by rw [hW0]; exact heap_alloc_new w _
  rw [← hW0]
  clear hW0
  refine (HSM.out _).mono ?_
  rintro e w1 ⟨rfl, hb⟩
  have HB1 : Hid (Below w.heap.size w w1) := HB0.out.trans (hb.mono HB0.out.size)
  have HP1 : Hid (w1.heap[w.heap.size]? = some (.cells #[.int .i64 f, .slice A n c] 24 (0, 0))) := (hb.block _ (heap_lt HP0.out)).trans HP0.out
  clear hb HB0 HP0
  have a0 := Lib.cell_of_heap HP1.out 0
  have a1 := Lib.cell_of_heap HP1.out 1
  go_wp2_with fail
  refine (HRC.out _ HB1.out).mono ?_
  rintro e w2 ⟨rfl, hb⟩
  have HB2 : Hid (Below w.heap.size w w2) := HB1.out.trans (hb.mono HB1.out.size)
  clear hb a0 a1
  go_wp2_with fail
  refine (known_calls _ (HT.out.below HB2.out)).mono ?_
  rintro e w3 ⟨rfl, hb⟩
  have HB3 : Hid (Below w.heap.size w w3) := HB2.out.trans (hb.mono HB2.out.size)
  clear hb
  go_wp2_with fail
  go_ret
  exact ⟨rfl, HB3.out⟩


theorem codeWords_walk (f : Int) (A : Option Addr) (n c : Nat) (ls : List Lt) (w : World) (_hf : I64 f) (hL : LS w A n ls) (_hn : n ≤ maxLen) (_hI : ∀ l, l ∈ ls → LtAll l) (_hz : A = none → c = 0) (_hs : n ≤ c) (hA : ∀ b off, A = some ⟨b, off, none⟩ → b < w.heap.size) (_hsp : ∀ a, A = some a → a.spot = none) (hT : ItoaAll w) :
    Calls Tryd.prog 10 #[.agg #[.int .i64 f, .slice A n c]] w fun e w' => e = .returned (.bool true) ∧ Below w.heap.size w w' := by
  by_cases hn : n ≤ 60
  · have hRC : ∀ W, Below w.heap.size w W → Calls Tryd.prog 13 #[.agg #[.int .i64 f, .slice A n c]] W fun e w' => e = .returned (.int .i64 (checkE f ls)) ∧ Below W.heap.size W w' :=
      fun W hW => refCheck_full f A n c ls W (hL.below hW)
    by_cases hv : checkE f ls = 0
    · rw [hv] at hRC
      exact codeWords_main f A n c ls w hn hL hv hA hRC hT
    · exact codeWords_bad f A n c (checkE f ls) w hn hv hRC hT
  · exact codeWords_big f A n c w hn hT

end Go.Proofs.YtjdabkniojmacaaDoor
