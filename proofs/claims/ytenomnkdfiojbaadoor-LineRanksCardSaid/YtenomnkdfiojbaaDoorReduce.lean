/-
  The walk of line.reduce.
-/
import Derived.Test.YtenomnkdfiojbaaDoorSlice
import Derived.BigQuiet
import Derived.Deep.QuietTactic
import Derived.Deep.RegionWith
namespace Go.Proofs.YtenomnkdfiojbaaDoor
open Go.RowKit

theorem stk_pop {l s : List Int} {x : Int} (h : Ln.stk l = s ++ [x]) : Ln.stk (l ++ [x]) = s := by
  have hr : Ln.redR l = x :: s.reverse := by
    have := congrArg List.reverse h
    simpa [Ln.stk] using this
  simp [Ln.stk, Ln.redR_snoc, hr, Ln.pushR]
theorem stk_push {l s : List Int} {x y : Int} (h : Ln.stk l = s ++ [y]) (hne : ¬ y = x) : Ln.stk (l ++ [x]) = Ln.stk l ++ [x] := by
  have hr : Ln.redR l = y :: s.reverse := by
    have := congrArg List.reverse h
    simpa [Ln.stk] using this
  simp [Ln.stk, Ln.redR_snoc, hr, Ln.pushR, hne]
theorem stk_push0 {l : List Int} {x : Int} (h : Ln.stk l = []) : Ln.stk (l ++ [x]) = [x] := by
  have hr : Ln.redR l = [] := by simpa [Ln.stk] using h
  simp [Ln.stk, Ln.redR_snoc, hr, Ln.pushR]
theorem snoc_of_last {s : List Int} {m : Nat} {y : Int} (hm : s.length = m) (hp : 0 < m) (hy : s[m - 1]? = some y) : s = s.take (m - 1) ++ [y] := by
  have := List.take_add_one (l := s) (i := m - 1)
  rw [hy, show m - 1 + 1 = m by omega, List.take_of_length_le (by omega)] at this
  exact this

/-- What holds at the heads of the first loop. -/
def StackRel (w : World) (xs : List Int) (n : Nat) (v i : Value) (wr : World) : Prop :=
  ∃ (j m g c : Nat), j ≤ n ∧ i = .int .i64 j ∧ v = .slice (some ⟨g, 0, none⟩) m c ∧ m = (Ln.stk (xs.take j)).length ∧ m ≤ c ∧ OwnI wr w.heap.size v (Ln.stk (xs.take j)) ∧ Below w.heap.size w wr

theorem SL.off {w : World} {g m : Nat} {xs : List Int} (h : SL w (some ⟨g, 0, none⟩) m xs) {k : Nat} (hk : k ≤ m) : SL w (some ⟨g, k, none⟩) (m - k) (xs.drop k) := by
  refine ⟨by rw [List.length_drop, h.1], fun hn => ?_⟩
  obtain ⟨b, off, hA, hb, hcell⟩ := h.2 (by omega)
  injection hA with hA
  injection hA with e1 e2
  subst e1; subst e2
  refine ⟨g, k, rfl, hb, fun j hj => ?_⟩
  rw [List.getElem?_drop]
  have := hcell (k + j) (by omega)
  rwa [Nat.zero_add] at this
theorem SL.empty {w w' : World} {A A' : Option Addr} {n : Nat} {xs : List Int} (h : SL w A n xs) (h0 : n = 0) : SL w' A' 0 xs := ⟨by rw [h.1, h0], fun hn => by omega⟩
theorem SL.one (w : World) (x : Int) (T : TypeId) : SL (w.alloc (.cells #[.int .i64 x] T)) (some ⟨w.heap.size, 0, none⟩) 1 [x] := by
  refine ⟨rfl, fun _ => ⟨w.heap.size, 0, rfl, by simp, fun k hk => ?_⟩⟩
  obtain rfl : k = 0 := by omega
  have := cell_one_new w (.int .i64 x) T 0 (.int .i64 x) rfl
  rw [Go.WideShapes.add_plain] at this
  exact this
/-- What holds at the heads of the second loop: the ends are equal in so many pairs. -/
def CutRel (s : List Int) (m : Nat) (W : World) (i : Value) (wr : World) : Prop :=
  ∃ k q : Nat, i = .int .i64 k ∧ k ≤ m / 2 ∧ (∀ i, i < k → s[i]? = s[m - 1 - i]?) ∧ wr = W.drewN q
theorem CutRel.next {s : List Int} {m : Nat} {W : World} {k q : Nat} (hk : k + 1 ≤ m / 2) (hall : ∀ i, i < k → s[i]? = s[m - 1 - i]?) (he : s[k]? = s[m - 1 - k]?) : CutRel s m W (.int .i64 ((k : Int) + 1)) (W.drewN q) :=
  ⟨k + 1, q, by rw [Int.natCast_add]; rfl, hk, fun i hi => by
    by_cases e : i = k
    · subst e; exact he
    · exact hall i (by omega), rfl⟩

theorem StackRel.push {w wr w' : World} {xs : List Int} {n j m g c : Nat} {x : Int} {v' : Value} {T : TypeId} (hx : xs.take (j + 1) = xs.take j ++ [x]) (hj : j < n) (hs : Ln.stk (xs.take j ++ [x]) = Ln.stk (xs.take j) ++ [x])
    (hm : m = (Ln.stk (xs.take j)).length) (hb : Below w.heap.size w wr) (hown : OwnI wr w.heap.size (.slice (some ⟨g, 0, none⟩) m c) (Ln.stk (xs.take j))) (hown' : OwnI w' w.heap.size v' (Ln.stk (xs.take j) ++ [x]))
    (hg : (wr.alloc (.cells #[.int .i64 x] T)).grownBy w' (Value.slice (some ⟨g, 0, none⟩) m c).ownBlock) :
    ∃ g' c', v' = .slice (some ⟨g', 0, none⟩) (m + 1) c' ∧ StackRel w xs n v' (.int .i64 ((j : Int) + 1)) w' := by
  obtain ⟨A, c', hv, hc, hA⟩ := hown'.form
  rw [List.length_append, List.length_singleton, ← hm] at hv hc hA
  obtain ⟨g', rfl, _, _⟩ := hA (by omega)
  refine ⟨g', c', hv, j + 1, m + 1, g', c', by omega, by rw [Int.natCast_add]; rfl, hv, ?_, hc, ?_, ?_⟩
  · rw [hx, hs, List.length_append, ← hm]; rfl
  · rw [hx, hs]; exact hown'
  · exact grown_below (hb.alloc hb.size _) (hown.below ((Below.refl _ _).alloc (Nat.le_refl _) _)) hg
theorem StackRel.pop {w wr : World} {xs : List Int} {n j m g c : Nat} {x : Int} (hx : xs.take (j + 1) = xs.take j ++ [x]) (hj : j < n) (hmc : m ≤ c) (hp : 0 < m)
    (hm : m = (Ln.stk (xs.take j)).length) (hy : (Ln.stk (xs.take j))[m - 1]? = some x) (hb : Below w.heap.size w wr) (hown : OwnI wr w.heap.size (.slice (some ⟨g, 0, none⟩) m c) (Ln.stk (xs.take j))) :
    StackRel w xs n (.slice (some ⟨g, 0, none⟩) (m - 1) c) (.int .i64 ((j : Int) + 1)) wr := by
  have e := stk_pop (snoc_of_last hm.symm hp hy)
  refine ⟨j + 1, m - 1, g, c, by omega, by rw [Int.natCast_add]; rfl, rfl, ?_, by omega, ?_, hb⟩
  · rw [hx, e, List.length_take]; omega
  · rw [hx, e]; exact hown.take (by omega)

/-- Concat of a row but for its first integers, and of one of these. -/
theorem concat_ends {w W1 : World} {g m c k : Nat} {s : List Int} (hown : OwnI W1 w.heap.size (.slice (some ⟨g, 0, none⟩) m c) s) (N : Nat) (hk : k + k + 2 ≤ m) (hm : m ≤ 400) :
    Calls Tryd.prog 55 #[.slice (some ⟨W1.heap.size, 0, none⟩) 2 2] ((W1.drewN N).alloc (.cells #[.slice (some ⟨g, k + 1, none⟩) (m - k - k - 1) (c - k - 1), .slice (some ⟨g, k, none⟩) 1 (c - k)] 22))
      fun e w' => ∃ v, e = .returned v ∧ OwnI w' ((W1.drewN N).alloc (.cells #[.slice (some ⟨g, k + 1, none⟩) (m - k - k - 1) (c - k - 1), .slice (some ⟨g, k, none⟩) 1 (c - k)] 22)).heap.size v ((s.drop (k + 1)).take (m - k - k - 1) ++ (s.drop k).take 1)
        ∧ Below ((W1.drewN N).alloc (.cells #[.slice (some ⟨g, k + 1, none⟩) (m - k - k - 1) (c - k - 1), .slice (some ⟨g, k, none⟩) 1 (c - k)] 22)).heap.size ((W1.drewN N).alloc (.cells #[.slice (some ⟨g, k + 1, none⟩) (m - k - k - 1) (c - k - 1), .slice (some ⟨g, k, none⟩) 1 (c - k)] 22)) w' := by
  have h1 := ((hown.sl.drewN N).off (k := k + 1) (by omega)).take_ (k := m - k - k - 1) (by omega)
  have h2 := ((hown.sl.drewN N).off (k := k) (by omega)).take_ (k := 1) (by omega)
  refine concat2_calls W1.heap.size 2 ⟨g, k + 1, none⟩ ⟨g, k, none⟩ (m - k - k - 1) (c - k - 1) 1 (c - k) _ _ _ (h1.alloc _) (h2.alloc _) (by omega) (by omega) ?_ ?_
  · exact (Lib.cell_of_heap (heap_alloc_new (W1.drewN N) _) 0).trans rfl
  · exact (Lib.cell_of_heap (heap_alloc_new (W1.drewN N) _) 1).trans rfl

set_option maxHeartbeats 1000000 in
set_option maxRecDepth 100000 in
theorem reduce_calls (A : Option Addr) (n cap : Nat) (xs : List Int) (w : World) (h : SL w A n xs) (hn : n ≤ 400) (he : n % 2 = 0) :
    Calls Tryd.prog 46 #[.slice A n cap] w fun e w' => ∃ A' n' c', e = .returned (.slice A' n' c') ∧ SL w' A' n' (Ln.core2 (Ln.stk xs)) ∧ n' ≤ c' ∧ Below w.heap.size w w' := by
  have HL := Lib.hid h.1
  have HE := Lib.hid he
  clear he
  go_enter Tryd.func46, Tryd.ntmps46
  go_wp2_with (at_make; refine wpList_make0_ints rfl _ _ rfl n rfl rfl (by omega) ?_; intro w0 hown0 hb0)
  go_loopw [3, 14] (fun v i wr => StackRel w xs n v i wr) (fun _ i _ => n - (intOf i).toNat)
  case atStart => exact ⟨0, 0, _, _, Nat.zero_le _, rfl, rfl, rfl, Nat.zero_le _, hown0, hb0⟩
  case round =>
    obtain ⟨j, m, g, c, hj, rfl, rfl, hm, hmc, hown, hb⟩ := hrel
    have HM := Lib.hid hm
    clear hm hown0 hb0
    have hm400 : m ≤ 400 := by
      have := (Ln.length_stk (xs.take j)).2
      rw [List.length_take] at this
      have := HM.out
      omega
    by_cases hlt : j < n
    · obtain ⟨b, off, x, rfl, hbb, hx, hc⟩ := (h.below hb).at_ hlt
      have HX : Hid (xs.take (j + 1) = xs.take j ++ [x]) := by unfold Hid; rw [List.take_add_one, hx]; rfl
      clear hx
      have HOWN := Lib.hid hown
      have hws := hb.size
      rcases Nat.eq_zero_or_pos m with hm0 | hmp
      · have hs : Hid (Ln.stk (xs.take j ++ [x]) = Ln.stk (xs.take j) ++ [x]) := by
          have e0 : Ln.stk (xs.take j) = [] := List.eq_nil_of_length_eq_zero (by rw [← HM.out]; exact hm0)
          unfold Hid; rw [stk_push0 e0, e0]; rfl
        have hmi : (m : Int) - 1 < 0 := by omega
        clear hm0 hown
        go_wp2_with (at_builtin; refine wpList_append_ints rfl _ _ rfl w.heap.size _ (Ln.stk (xs.take j)) rfl (OwnI.below HOWN.out ((Below.refl _ _).alloc (Nat.le_refl _) _)) ⟨wr.heap.size, 0, none⟩ 1 1 [x] rfl ?c0 ?c1 ?c2 ?_)
        case c0 => exact SL.one wr x _
        case c1 => have := HM.out; omega
        case c2 => first | omega | (simp; omega)
        intro v' w' hown' hg _
        obtain ⟨g', c', rfl, hrel⟩ := StackRel.push HX.out hlt hs.out HM.out hb HOWN.out hown' hg
        have HREL := Lib.hid hrel
        clear hown' hg hrel hc
        go_wp2
        go_roundw
        case rel => exact HREL.out
        case measure => simp [intOf]; omega
      · obtain ⟨y, hy, hyc, _, hBg⟩ := hown.cell (k := m - 1) (by omega)
        have HY := Lib.hid hy
        clear hy
        by_cases hxy : y = x
        · subst hxy
          have HREL := Lib.hid (StackRel.pop HX.out hlt hmc hmp HM.out HY.out hb HOWN.out)
          clear hown
          go_wp2
          go_roundw
          case rel => exact HREL.out
          case measure => simp [intOf]; omega
        · have hne : (y == x) = false := by rw [beq_eq_false_iff_ne]; exact hxy
          have hs : Hid (Ln.stk (xs.take j ++ [x]) = Ln.stk (xs.take j) ++ [x]) := stk_push (snoc_of_last HM.out.symm hmp HY.out) hxy
          clear hown hxy
          go_wp2_with (at_builtin; refine wpList_append_ints rfl _ _ rfl w.heap.size _ (Ln.stk (xs.take j)) rfl (OwnI.below HOWN.out ((Below.refl _ _).alloc (Nat.le_refl _) _)) ⟨wr.heap.size, 0, none⟩ 1 1 [x] rfl ?c0 ?c1 ?c2 ?_)
          case c0 => exact SL.one wr x _
          case c1 => have := HM.out; omega
          case c2 => simp; omega
          intro v' w' hown' hg _
          obtain ⟨g', c', rfl, hrel⟩ := StackRel.push HX.out hlt hs.out HM.out hb HOWN.out hown' hg
          have HREL := Lib.hid hrel
          clear hown' hg hrel hc hyc
          go_wp2
          go_roundw
          case rel => exact HREL.out
          case measure => simp [intOf]; omega
    · obtain rfl : j = n := by omega
      have etake : xs.take j = xs := List.take_of_length_le (by rw [HL.out]; omega)
      rw [etake] at HM hown
      clear etake
      go_wp2_with fail
      obtain ⟨W1, hW1⟩ : ∃ W1 : World, W1 = wr := ⟨_, rfl⟩
      obtain rfl := hW1
      go_loopw [7] (fun i w2 => CutRel (Ln.stk xs) m W1 i w2) (fun i _ => m - (intOf i).toNat)
      case atStart => exact ⟨0, 0, rfl, Nat.zero_le _, fun i hi => by omega, rfl⟩
      case round =>
        obtain ⟨k, q, rfl, hk, hall, rfl⟩ := hrel
        have HALL := Lib.hid hall
        clear hall
        by_cases hk2 : k < m / 2
        · obtain ⟨y1, hy1, hc1, _, _⟩ := hown.cell (k := k) (by omega)
          obtain ⟨y2, hy2, hc2, _, _⟩ := hown.cell (k := m - 1 - k) (by omega)
          have HY1 := Lib.hid hy1
          have HY2 := Lib.hid hy2
          have HOWN := Lib.hid hown
          have hki : (k : Int) < (m : Int) / 2 := by omega
          have hkd : decide ((k : Int) < (m : Int) / 2) = true := by simpa using hki
          have hkm : (k : Int) < m := by omega
          have hk1 : 0 ≤ (m : Int) - 1 - k := by omega
          clear hy1 hy2 hown
          by_cases he : y1 = y2
          · subst he
            go_wp2_with fail
            go_quiet (fail)
            go_wp2_with fail
            go_roundw
            case rel => exact CutRel.next (by omega) HALL.out (by rw [HY1.out, HY2.out])
            case measure => simp [intOf]; omega
          · have hne : (y1 == y2) = false := by rw [beq_eq_false_iff_ne]; exact he
            have hstop : Hid (k = m / 2 ∨ (Ln.stk xs)[k]? ≠ (Ln.stk xs)[m - 1 - k]?) := .inr (by rw [HY1.out, HY2.out]; exact fun e => he (by injection e))
            clear he
            go_wp2_with fail
            go_quiet (fail)
            have hfin := Lib.hid (Ln.core2_of_cut xs (by rw [HL.out]; exact HE.out) k (by rw [← HM.out]; exact HALL.out) (by rw [← HM.out]; exact hk) (by rw [← HM.out]; exact hstop.out))
            clear hc1 hc2
            by_cases hodd : k % 2 = 1
            · have ho : ((k : Int) % 2 == 1) = true := by rw [beq_iff_eq]; omega
              have hm2 : k + k + 2 ≤ m := by have := (hfin.out).1 hodd; have := HM.out; have := (Ln.length_stk xs).1; rw [HL.out, ← HM.out] at this; have := HE.out; omega
              have HC := Lib.hid (fun N => concat_ends (c := c) HOWN.out N (k := k) (by omega) (by omega))
              have e9 : Hid (((Ln.stk xs).drop (k + 1)).take (m - k - k - 1) ++ ((Ln.stk xs).drop k).take 1 = Ln.core2 (Ln.stk xs)) := by
                unfold Hid
                rw [hfin.out.2, if_pos hodd, ← HM.out, show m - 2 * k - 1 = m - k - k - 1 by omega]
              clear hodd
              go_wp2_with fail
              go_region_with (refine (HC.out _).mono ?_; rintro e w9 ⟨v9, rfl, hown9, hb9⟩)
              all_goals go_wp2_with fail
              all_goals go_ret
              all_goals
                rw [e9.out] at hown9
                obtain ⟨A', c', rfl, hc', _⟩ := hown9.form
                exact ⟨A', _, c', rfl, hown9.sl, hc', hb.trans (((below_drewN (Below.refl _ _) _).alloc hb.size _).trans (hb9.mono (by have := hb.size; simp; omega)))⟩
            · have ho : ((k : Int) % 2 == 1) = false := by rw [beq_eq_false_iff_ne]; omega
              have hs : Hid (SL (W1.drewN (q + nq)) (some ⟨g, k, none⟩) (m - k - k) (Ln.core2 (Ln.stk xs))) := by
                unfold Hid
                rw [hfin.out.2, if_neg hodd, ← HM.out]
                have h1 := (HOWN.out.sl.off (k := k) (by omega)).take_ (k := m - k - k) (by omega)
                have e2 : m - 2 * k = m - k - k := by omega
                rw [e2]
                exact h1
              clear hodd
              go_wp2_with fail
              go_ret
              exact ⟨_, _, _, rfl, hs.out, by omega, hb.trans (below_drewN (Below.refl _ _) _)⟩
        · have hke : k = m / 2 := by omega
          have hfin := Lib.hid (Ln.core2_of_cut xs (by rw [HL.out]; exact HE.out) k (by rw [← HM.out]; exact HALL.out) (by rw [← HM.out]; exact hk) (by rw [← HM.out]; exact .inl hke))
          have hki : ¬ (k : Int) < (m : Int) / 2 := by omega
          have hkd : decide ((k : Int) < (m : Int) / 2) = false := by simpa using hki
          have hpar : m % 2 = 0 := by have := HM.out; have := (Ln.length_stk xs).1; rw [HL.out, ← HM.out] at this; have := HE.out; omega
          have hodd : ¬ k % 2 = 1 := fun q => by have := (hfin.out).1 q; rw [← HM.out] at this; omega
          have ho : ((k : Int) % 2 == 1) = false := by rw [beq_eq_false_iff_ne]; omega
          have HOWN := Lib.hid hown
          have hs : ∀ N, SL (W1.drewN N) (some ⟨g, k, none⟩) (m - k - k) (Ln.core2 (Ln.stk xs)) := by
            intro N
            rw [hfin.out.2, if_neg hodd, ← HM.out]
            have h1 := ((HOWN.out.sl.drewN N).off (k := k) (by omega)).take_ (k := m - k - k) (by omega)
            have e2 : m - 2 * k = m - k - k := by omega
            rw [e2]
            exact h1
          have HS := Lib.hid hs
          have hkm : k + k = m := by omega
          clear hs hodd hown hke hpar
          go_wp2_with fail
          go_quiet (fail)
          go_wp2_with fail
          all_goals go_ret
          all_goals exact ⟨_, _, _, rfl, (HS.out 0).empty (by omega), by omega, hb.trans (below_drewN (Below.refl _ _) _)⟩

end Go.Proofs.YtenomnkdfiojbaaDoor
