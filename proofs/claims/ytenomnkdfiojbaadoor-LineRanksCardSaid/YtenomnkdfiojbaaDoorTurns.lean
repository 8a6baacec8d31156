/-
  The walks of line.Reverse, line.Mirror, line.Turn and of the reference's Mirror and Turn.
-/
import Derived.Test.YtenomnkdfiojbaaDoorRefD
import Derived.Lib.OwnBridge
namespace Go.Proofs.YtenomnkdfiojbaaDoor
open Go.RowKit

/-- slices.Reverse of what the call owns. -/
theorem reverseIn_calls (B : Nat) (A : Option Addr) (n c : Nat) (xs : List Int) (w : World) (h : OwnI w B (.slice A n c) xs) (hn : n ≤ 1000) :
    Calls Tryd.prog 54 #[.slice A n c] w fun e w' => e = .returned (.tuple #[]) ∧ OwnI w' B (.slice A n c) xs.reverse ∧ Below B w w' := by
  have hl : xs.length = n := h.sl.1
  rcases Nat.eq_zero_or_pos n with h0 | hp
  · subst h0
    have hx : xs = [] := List.eq_nil_of_length_eq_zero hl
    subst hx
    refine (Tryd.slices_Reverse_int_empty A c w).mono ?_
    rintro e w' ⟨rfl, rfl⟩
    exact ⟨rfl, h, Below.refl _ _⟩
  · have h' : w.ownsRow B 3 1 (.slice A n c) n (xs.map (Value.int .i64)) := by have := h; unfold OwnI at this; rwa [hl] at this
    obtain ⟨g, cap, hv, hg, hlt, hnc, hcm, _, hH⟩ := Lib.holds_of_ownsRow h' (fun e => by injection e with _ e2; omega)
    injection hv with e1 e2 e3
    subst e1; subst e3
    have hc := Tryd.slices_Reverse_int g 0 c xs w hH (by omega)
    rw [hl] at hc
    refine hc.mono ?_
    rintro e w' ⟨rfl, q, rfl⟩
    refine ⟨rfl, ?_, Lib.below_putRow (Below.refl _ _) hg⟩
    have := Lib.ownsRow_putRow (q := q) (k := n) (ys := xs.reverse) h' (by simpa using hl) (Nat.le_refl _)
    rw [List.take_of_length_le (by simp; omega)] at this
    unfold OwnI
    rw [List.length_reverse, hl]
    exact this

set_option maxHeartbeats 1000000 in
theorem reverse_calls (A : Option Addr) (n cap : Nat) (xs : List Int) (w : World) (h : SL w A n xs) (hn : n ≤ maxLen) :
    Calls Tryd.prog 23 #[.slice A n cap] w (ErrPost w (errB 40 xs) xs.reverse) := by
  have HL := Lib.hid h.1
  have HC := Lib.hid (check_calls 40 A n cap xs w h hn)
  by_cases he : errB 40 xs = 0
  · have h4 := errB_ok h.1 he
    have HE := Lib.hid he
    have HK := Lib.hid (clone_any A n cap xs w h (by omega))
    have n4 := h4.2.1
    clear he h4
    go_enter Tryd.func23, Tryd.ntmps23
    go_wp2_with (go_at_call 44; refine HC.out.mono ?_; rw [HE.out]; rintro e w' ⟨rfl, rfl⟩)
    refine HK.out.mono ?_
    rintro e w1 ⟨v, rfl, hown, hb1⟩
    obtain ⟨A1, c1, rfl, hc1, _⟩ := hown.form
    rw [HL.out] at hown ⊢
    have HR := Lib.hid (reverseIn_calls w.heap.size A1 n c1 xs w1 hown (by omega))
    clear hown hc1
    go_wp2_with fail
    refine HR.out.mono ?_
    rintro e w2 ⟨rfl, hown2, hb2⟩
    have hb12 := hb1.trans hb2
    go_wp2_with fail
    go_ret2
    exact ErrPost.ok HE.out hown2 hb12
  · have hne : (errB 40 xs != 0) = true := by rw [bne_iff_ne]; exact he
    have HN := Lib.hid he
    clear he
    go_enter Tryd.func23, Tryd.ntmps23
    go_wp2_with (go_at_call 44; refine HC.out.mono ?_; rintro e w' ⟨rfl, rfl⟩)
    go_ret2
    exact ErrPost.err HN.out (Below.refl _ _)

def mirrorL (k : Int) (xs : List Int) : List Int := xs.map fun x => k - x
theorem mirror_fill (k : Int) (xs : List Int) : (List.range xs.length).map (fun i => k - xs.getD i 0) = mirrorL k xs := by
  apply List.ext_getElem
  · simp [mirrorL]
  · intro i h1 h2
    have hi : i < xs.length := by simpa using h1
    simp [mirrorL, hi]

set_option maxHeartbeats 1000000 in
theorem mirror_calls (k : Int) (A : Option Addr) (n cap : Nat) (xs : List Int) (w : World) (h : SL w A n xs) (hn : n ≤ maxLen) :
    Calls Tryd.prog 24 #[.int .i64 k, .slice A n cap] w (ErrPost w (errB k xs) (mirrorL k xs)) := by
  have HL := Lib.hid h.1
  have HC := Lib.hid (check_calls k A n cap xs w h hn)
  by_cases he : errB k xs = 0
  · have h4 := errB_ok h.1 he
    have HE := Lib.hid he
    have HV := Lib.hid h4.1
    have n4 := h4.2.1
    have k0 := h4.2.2.2.1
    have k4 := h4.2.2.2.2
    clear he h4
    go_enter Tryd.func24, Tryd.ntmps24
    go_wp2_with (first
      | (go_at_call 44; refine HC.out.mono ?_; rw [HE.out]; rintro e w' ⟨rfl, rfl⟩)
      | (at_make; refine wpList_make_ints rfl _ _ rfl n rfl rfl (by omega) ?_; intro w1 hown1 hb1))
    go_loopw [21] (fun i wr => FillRel (fun i => k - xs.getD i 0) n w w.heap.size w.heap.size i wr) (fun i _ => n - (intOf i).toNat)
    case atStart => exact ⟨0, Nat.zero_le _, rfl, by rw [fillL_zero]; exact hown1, hb1⟩
    case round =>
      obtain ⟨j, hj, rfl, hown, hb⟩ := hrel
      have HOWN := Lib.hid hown
      clear hown1 hown
      by_cases hlt : j < n
      · obtain ⟨b, off, x, rfl, _, hx, hc⟩ := (h.below hb).at_ hlt
        have hxr := validB_range HV.out (List.mem_of_getElem? hx)
        obtain ⟨x0, x1⟩ := hxr
        have hgx : xs.getD j 0 = x := by rw [List.getD_eq_getElem?_getD, hx]; rfl
        obtain ⟨y, hy, hyc, hyf, hyg⟩ := HOWN.out.cell (k := j) hlt
        have HREL : Hid (FillRel (fun i => k - xs.getD i 0) n w w.heap.size w.heap.size (.int .i64 ((j : Int) + 1)) (wr.setCell ⟨w.heap.size, j, none⟩ (.int .i64 (k - x)))) :=
          ⟨j + 1, by omega, by rw [Int.natCast_add]; rfl, by rw [← fillL_set, hgx]; exact HOWN.out.set hlt _, hb.setCell (p := ⟨w.heap.size, j, none⟩) hyg _⟩
        clear hx hgx hy
        go_wp2_with fail
        go_roundw
        case rel => exact HREL.out
        case measure => simp [intOf]; omega
      · obtain rfl : j = n := by omega
        go_wp2_with fail
        go_ret2
        refine ErrPost.ok HE.out ?_ hb
        have e := HOWN.out
        rw [fillL_full] at e
        have e2 := mirror_fill k xs
        rw [HL.out] at e2
        rw [← e2]
        exact e
  · have hne : (errB k xs != 0) = true := by rw [bne_iff_ne]; exact he
    have HN := Lib.hid he
    clear he
    go_enter Tryd.func24, Tryd.ntmps24
    go_wp2_with (go_at_call 44; refine HC.out.mono ?_; rintro e w' ⟨rfl, rfl⟩)
    go_ret2
    exact ErrPost.err HN.out (Below.refl _ _)

/-- Concat of a slice but for its first integer, and of that one. -/
theorem concat_turn {w : World} {b off n cap : Nat} {xs : List Int} (h : SL w (some ⟨b, off, none⟩) n xs) (hn : 2 ≤ n) (hm : n ≤ 400) :
    Calls Tryd.prog 55 #[.slice (some ⟨w.heap.size, 0, none⟩) 2 2] (w.drew.alloc (.cells #[.slice (some ⟨b, off + 1, none⟩) (n - 1) (cap - 1), .slice (some ⟨b, off, none⟩) 1 cap] 22))
      fun e w' => ∃ v, e = .returned v ∧ OwnI w' w.heap.size v (xs.drop 1 ++ xs.take 1) ∧ Below w.heap.size w w' := by
  have h1 := h.drew.offc (k := 1) (by omega)
  have h2 := h.drew.take_ (k := 1) (by omega)
  refine (concat2_calls w.heap.size 2 ⟨b, off + 1, none⟩ ⟨b, off, none⟩ (n - 1) (cap - 1) 1 cap _ _ _ (h1.alloc _) (h2.alloc _) (by omega) (by omega) ?_ ?_).mono ?_
  · exact (Lib.cell_of_heap (heap_alloc_new w.drew _) 0).trans rfl
  · exact (Lib.cell_of_heap (heap_alloc_new w.drew _) 1).trans rfl
  · rintro e w' ⟨v, rfl, ho, hb⟩
    exact ⟨v, rfl, ho.mono (by simp), ((Below.refl w.heap.size w).drew.alloc (Nat.le_refl _) _).trans (hb.mono (by simp))⟩

set_option maxHeartbeats 1000000 in
set_option maxRecDepth 100000 in
theorem turn_calls (A : Option Addr) (n cap : Nat) (xs : List Int) (w : World) (h : SL w A n xs) (hn : n ≤ maxLen) (hnc : n ≤ cap) :
    Calls Tryd.prog 25 #[.slice A n cap] w (ErrPost w (errB 40 xs) (Ln.rot1 xs)) := by
  have HL := Lib.hid h.1
  have HC := Lib.hid (check_calls 40 A n cap xs w h hn)
  by_cases he : errB 40 xs = 0
  · have h4 := errB_ok h.1 he
    have HE := Lib.hid he
    have n4 := h4.2.1
    have n2 := h4.2.2.1
    have HN2 := Lib.hid n2
    clear he h4
    by_cases h0 : n = 0
    · have hx : xs = [] := List.eq_nil_of_length_eq_zero (by rw [HL.out]; exact h0)
      have HX := Lib.hid hx
      have hnb : ((n : Int) == 0) = true := by rw [beq_iff_eq]; omega
      clear n2 h0 hx
      go_enter Tryd.func25, Tryd.ntmps25
      go_wp2_with (go_at_call 44; refine HC.out.mono ?_; rw [HE.out]; rintro e w' ⟨rfl, rfl⟩)
      go_ret2
      refine ErrPost.ok HE.out ?_ (Below.refl _ _)
      rw [HX.out]
      exact World.ownsRow_nil _ _ _ _
    · have hnb : ((n : Int) == 0) = false := by rw [beq_eq_false_iff_ne]; omega
      have h2 : 2 ≤ n := by omega
      obtain ⟨b, off, _, rfl, _, _, _⟩ := h.at_ (k := 0) (by omega)
      have HCT := Lib.hid (concat_turn (cap := cap) h h2 n4)
      have hc1 : ¬ cap = 1 := by omega
      have h1n : (1 : Int) ≤ n := by omega
      have h1c : (1 : Int) ≤ cap := by omega
      clear n2 h0
      go_enter Tryd.func25, Tryd.ntmps25
      go_wp2_with (go_at_call 44; refine HC.out.mono ?_; rw [HE.out]; rintro e w' ⟨rfl, rfl⟩)
      go_region_with (refine HCT.out.mono ?_; rintro e w9 ⟨v9, rfl, hown9, hb9⟩)
      all_goals go_wp2_with fail
      all_goals go_ret2
      all_goals exact ErrPost.ok HE.out hown9 hb9
  · have hne : (errB 40 xs != 0) = true := by rw [bne_iff_ne]; exact he
    have HN := Lib.hid he
    clear he
    go_enter Tryd.func25, Tryd.ntmps25
    go_wp2_with (go_at_call 44; refine HC.out.mono ?_; rintro e w' ⟨rfl, rfl⟩)
    go_ret2
    exact ErrPost.err HN.out (Below.refl _ _)

set_option maxHeartbeats 1000000 in
theorem refTurn_calls (A : Option Addr) (n cap : Nat) (xs : List Int) (w : World) (h : SL w A n xs) (hnc : n ≤ cap) (h1 : ¬ n = 1) (hn : n ≤ 1000) :
    Calls Tryd.prog 28 #[.slice A n cap] w (ListPost w (Ln.rot1 xs) n) := by
  have HL := Lib.hid h.1
  by_cases h0 : n = 0
  · have hx : xs = [] := List.eq_nil_of_length_eq_zero (by rw [HL.out]; exact h0)
    have HX := Lib.hid hx
    have hnb : ((n : Int) == 0) = true := by rw [beq_iff_eq]; omega
    have H0 := Lib.hid h0
    clear h0 hx h1
    go_enter Tryd.func28, Tryd.ntmps28
    go_wp2_with fail
    go_ret
    refine ListPost.of (by rw [Ln.length_rot1, HL.out]) ?_ (Below.refl _ _)
    rw [HX.out]
    exact World.ownsRow_nil _ _ _ _
  · have hnb : ((n : Int) == 0) = false := by rw [beq_eq_false_iff_ne]; omega
    have HR : Hid (Calls Tryd.prog 49 #[.slice A n cap, .int .i64 1] w (ListPost w (Ln.rot1 xs) n)) := rotated_calls A n cap xs 1 w h hnc (by omega) hn
    clear h0 h1
    go_enter Tryd.func28, Tryd.ntmps28
    go_wp2_with (go_at_call 49; refine HR.out.mono ?_; rintro e w1 ⟨A1, c1, rfl, hown, hc, hb⟩)
    go_ret
    exact ⟨A1, c1, rfl, hown, hc, hb⟩

def MirRel (k : Int) (xs : List Int) (n : Nat) (w : World) (v i : Value) (wr : World) : Prop :=
  ∃ j : Nat, j ≤ n ∧ i = .int .i64 j ∧ OwnI wr w.heap.size v (mirrorL k (xs.take j)) ∧ Below w.heap.size w wr

set_option maxHeartbeats 1000000 in
theorem refMirror_calls (k : Int) (A : Option Addr) (n cap : Nat) (xs : List Int) (w : World) (h : SL w A n xs) (hn : n ≤ 1000) (k0 : 0 ≤ k) (k1 : k ≤ 40) (hr : ∀ x, x ∈ xs → 0 ≤ x ∧ x ≤ 40) :
    Calls Tryd.prog 29 #[.int .i64 k, .slice A n cap] w (ListPost w (mirrorL k xs) n) := by
  have HL := Lib.hid h.1
  have HR := Lib.hid hr
  clear hr
  go_enter Tryd.func29, Tryd.ntmps29
  go_wp2_with fail
  go_loopw [5, 6] (fun v i wr => MirRel k xs n w v i wr) (fun _ i _ => n - (intOf i).toNat)
  case atStart => exact ⟨0, Nat.zero_le _, rfl, World.ownsRow_nil _ _ _ _, Below.refl _ _⟩
  case round =>
    obtain ⟨j, hj, rfl, hown, hb⟩ := hrel
    have HOWN := Lib.hid hown
    have hws := hb.size
    have hlen : (mirrorL k (xs.take j)).length ≤ n := by unfold mirrorL; rw [List.length_map, List.length_take]; omega
    have HLEN := Lib.hid hlen
    clear hown hlen
    by_cases hlt : j < n
    · obtain ⟨b, off, x, rfl, _, hx, hc⟩ := (h.below hb).at_ hlt
      have hxr := HR.out x (List.mem_of_getElem? hx)
      obtain ⟨x0, x1⟩ := hxr
      have HS : Hid (mirrorL k (xs.take (j + 1)) = mirrorL k (xs.take j) ++ [k - x]) := by unfold Hid; rw [List.take_add_one, hx]; simp [mirrorL]
      clear hx
      go_wp2_with (at_builtin; refine wpList_append_ints rfl _ _ rfl w.heap.size _ (mirrorL k (xs.take j)) rfl (OwnI.below HOWN.out ((Below.refl _ _).alloc (Nat.le_refl _) _)) ⟨wr.heap.size, 0, none⟩ 1 1 [k - x] rfl ?c0 ?c1 ?c2 ?_)
      case c0 => exact SL.one wr _ _
      case c1 => have := HLEN.out; omega
      case c2 => first | omega | (simp; omega)
      intro v' w' hown' hg _
      have hnb := grown_below (hb.alloc hb.size _) (HOWN.out.below ((Below.refl _ _).alloc (Nat.le_refl _) _)) hg
      have HREL : Hid (MirRel k xs n w v' (.int .i64 ((j : Int) + 1)) w') := ⟨j + 1, by omega, by rw [Int.natCast_add]; rfl, by rw [HS.out]; exact hown', hnb⟩
      clear hown' hg hc hnb
      go_wp2_with fail
      go_roundw
      case rel => exact HREL.out
      case measure => simp [intOf]; omega
    · obtain rfl : j = n := by omega
      go_wp2_with fail
      go_ret
      have e := HOWN.out
      rw [List.take_of_length_le (by rw [HL.out]; omega)] at e
      exact ListPost.of (by unfold mirrorL; rw [List.length_map, HL.out]) e hb

end Go.Proofs.YtenomnkdfiojbaaDoor
